/- Rows that rise evenly, as plain mathematics: nothing is left of them; three lists of one's own side by side. -/
import Derived.Test.YtiioikpjgeggdaaFixAw
namespace Go.Proofs.Ytiioikpjgeggdaa
open Go.RowKit
set_option maxRecDepth 100000

theorem w32_wr (x : Int) : wrap32 x = w32 x := by unfold w32 wrap32; rfl
/-- The numbers that rise evenly; those that rise by evenly rising steps. -/
def ysq (a b : Int) : Nat → List Int
  | 0 => []
  | j + 1 => ysq a b j ++ [w32 (a + w32 (b * (j : Int)))]
def zst (a b c : Int) : Nat → Int × Int
  | 0 => (a, b)
  | j + 1 => (w32 ((zst a b c j).1 + (zst a b c j).2), w32 ((zst a b c j).2 + c))
def zsq (a b c : Int) : Nat → List Int
  | 0 => []
  | j + 1 => zsq a b c j ++ [(zst a b c j).1]
theorem ysq_length (a b : Int) : ∀ n, (ysq a b n).length = n
  | 0 => rfl
  | n + 1 => by simp [ysq, ysq_length a b n]
theorem zsq_length (a b c : Int) : ∀ n, (zsq a b c n).length = n
  | 0 => rfl
  | n + 1 => by simp [zsq, zsq_length a b c n]
theorem ysq_getD (a b : Int) : ∀ n i, i < n → (ysq a b n).getD i 0 = w32 (a + w32 (b * (i : Int)))
  | n + 1, i, h => by
    unfold ysq
    rcases Nat.lt_or_ge i n with hi | hi
    · rw [← ysq_getD a b n i hi]
      simp [List.getD, List.getElem?_append_left (show i < (ysq a b n).length by rw [ysq_length]; exact hi)]
    · obtain rfl : i = n := by omega
      simp [List.getD, ysq_length]
theorem zsq_getD (a b c : Int) : ∀ n i, i < n → (zsq a b c n).getD i 0 = (zst a b c i).1
  | n + 1, i, h => by
    unfold zsq
    rcases Nat.lt_or_ge i n with hi | hi
    · rw [← zsq_getD a b c n i hi]
      simp [List.getD, List.getElem?_append_left (show i < (zsq a b c n).length by rw [zsq_length]; exact hi)]
    · obtain rfl : i = n := by omega
      simp [List.getD, zsq_length]
theorem flat_x (a : Int) {n i : Nat} (h1 : 1 ≤ i) (hi : i < n) : (res 1 (List.replicate n a)).getD i 0 = 0 := by
  rw [res_getD 1 _ (by simpa using hi)]
  show w32 ((List.replicate n a).getD i 0 - pv (List.replicate n a) i 1) = 0
  rw [pv_some _ h1]
  have e : ∀ j, j < n → (List.replicate n a).getD j 0 = a := fun j hj => by simp [List.getD, hj]
  rw [e i hi, e (i - 1) (by omega)]
  unfold w32
  omega
theorem flat_y (a b : Int) {n i : Nat} (h1 : 2 ≤ i) (hi : i < n) : (res 2 (ysq a b n)).getD i 0 = 0 := by
  rw [res_getD 2 _ (by rw [ysq_length]; exact hi)]
  show w32 ((ysq a b n).getD i 0 - (2 * pv (ysq a b n) i 1 - pv (ysq a b n) i 2)) = 0
  rw [pv_some _ (by omega), pv_some _ h1, ysq_getD _ _ _ _ hi, ysq_getD _ _ _ _ (by omega : i - 1 < n), ysq_getD _ _ _ _ (by omega : i - 2 < n)]
  obtain ⟨j, rfl⟩ : ∃ j, i = j + 2 := ⟨i - 2, by omega⟩
  have e1 : b * ((j + 2 - 1 : Nat) : Int) = b * (j : Int) + b := by rw [show j + 2 - 1 = j + 1 from rfl, Int.natCast_add, Int.mul_add]; simp
  have e2 : b * ((j + 2 : Nat) : Int) = b * (j : Int) + 2 * b := by rw [Int.natCast_add, Int.mul_add]; simp; omega
  rw [e1, e2, show j + 2 - 2 = j from rfl]
  generalize b * (j : Int) = t
  unfold w32
  omega
theorem flat_z (a b c : Int) {n i : Nat} (h1 : 3 ≤ i) (hi : i < n) : (res 3 (zsq a b c n)).getD i 0 = 0 := by
  rw [res_getD 3 _ (by rw [zsq_length]; exact hi)]
  show w32 ((zsq a b c n).getD i 0 - (3 * pv (zsq a b c n) i 1 - 3 * pv (zsq a b c n) i 2 + pv (zsq a b c n) i 3)) = 0
  rw [pv_some _ (by omega), pv_some _ (by omega), pv_some _ h1, zsq_getD _ _ _ _ _ hi, zsq_getD _ _ _ _ _ (by omega : i - 1 < n), zsq_getD _ _ _ _ _ (by omega : i - 2 < n), zsq_getD _ _ _ _ _ (by omega : i - 3 < n)]
  obtain ⟨j, rfl⟩ : ∃ j, i = j + 3 := ⟨i - 3, by omega⟩
  rw [show j + 3 - 1 = j + 2 from rfl, show j + 3 - 2 = j + 1 from rfl, show j + 3 - 3 = j from rfl]
  simp only [zst]
  generalize (zst a b c j).1 = v
  generalize (zst a b c j).2 = s
  unfold w32
  omega
theorem rep_32 {a : Int} (ha : -2147483648 ≤ a ∧ a < 2147483648) (n : Nat) : I32 (List.replicate n a) := fun v hv => by rw [List.eq_of_mem_replicate hv]; exact ha
theorem ysq_32 (a b : Int) (n : Nat) : I32 (ysq a b n) := I32.of fun i hi => by
  rw [ysq_length] at hi
  rw [ysq_getD _ _ _ _ hi]
  exact w32_in _
theorem zst_32 {a b : Int} (c : Int) (ha : -2147483648 ≤ a ∧ a < 2147483648) (hb : -2147483648 ≤ b ∧ b < 2147483648) : ∀ j, (-2147483648 ≤ (zst a b c j).1 ∧ (zst a b c j).1 < 2147483648) ∧ -2147483648 ≤ (zst a b c j).2 ∧ (zst a b c j).2 < 2147483648
  | 0 => ⟨ha, hb⟩
  | _ + 1 => ⟨w32_in _, w32_in _⟩
theorem zsq_32 {a b : Int} (c : Int) (ha : -2147483648 ≤ a ∧ a < 2147483648) (hb : -2147483648 ≤ b ∧ b < 2147483648) (n : Nat) : I32 (zsq a b c n) := I32.of fun i hi => by
  rw [zsq_length] at hi
  rw [zsq_getD _ _ _ _ _ hi]
  exact (zst_32 c ha hb i).1

/-- Three lists of one's own, in blocks of their own, all new since w. -/
structure Tri3 (w wr : World) (x y z : Value) (X Y Z : List Int) : Prop where
  ox : Own wr 21 .i32 x X
  oy : Own wr 21 .i32 y Y
  oz : Own wr 21 .i32 z Z
  nx : ∀ k, x.ownBlock = some k → w.heap.size ≤ k
  ny : ∀ k, y.ownBlock = some k → w.heap.size ≤ k
  nz : ∀ k, z.ownBlock = some k → w.heap.size ≤ k
  xy : ∀ k, x.ownBlock = some k → y.ownBlock ≠ some k
  xz : ∀ k, x.ownBlock = some k → z.ownBlock ≠ some k
  yz : ∀ k, y.ownBlock = some k → z.ownBlock ≠ some k
  fr : Fresh w wr
theorem Tri3.rot {w wr : World} {x y z : Value} {X Y Z : List Int} (h : Tri3 w wr x y z X Y Z) : Tri3 w wr y z x Y Z X :=
  ⟨h.oy, h.oz, h.ox, h.ny, h.nz, h.nx, h.yz, fun k e e2 => h.xy k e2 e, fun k e e2 => h.xz k e2 e, h.fr⟩
theorem Tri3.app {w wr w' : World} {x y z x' : Value} {X X' Y Z : List Int} {o : Obj} (h : Tri3 w wr x y z X Y Z) (ho : Own w' 21 .i32 x' X') (hg : (wr.alloc o).grownBy w' x.ownBlock) (hat : x'.ownBlock = x.ownBlock ∨ x'.ownBlock = some (wr.heap.size + 1)) : Tri3 w w' x' y z X' Y Z := by
  have hk : Kept (fun k => x.ownBlock = some k) wr w' := ((Kept.refl (fun k => x.ownBlock = some k) wr).alloc o).grown hg (fun k e _ => e)
  have hs := h.fr.size
  refine ⟨ho, h.oy.kept hk (fun k e e2 => h.xy k e2 e), h.oz.kept hk (fun k e e2 => h.xz k e2 e), fun k e => ?_, h.ny, h.nz, fun k e e2 => ?_, fun k e e2 => ?_, h.yz, h.fr.trans hk fun i hi e => by have := h.nx i e; omega⟩
  · rcases hat with e3 | e3
    · exact h.nx k (e3 ▸ e)
    · rw [e3] at e; injection e with e; omega
  · rcases hat with e3 | e3
    · exact h.xy k (e3 ▸ e) e2
    · rw [e3] at e; injection e with e; have := h.oy.lt e2; omega
  · rcases hat with e3 | e3
    · exact h.xz k (e3 ▸ e) e2
    · rw [e3] at e; injection e with e; have := h.oz.lt e2; omega

end Go.Proofs.Ytiioikpjgeggdaa
