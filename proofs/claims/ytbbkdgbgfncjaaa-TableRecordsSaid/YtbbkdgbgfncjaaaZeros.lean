/- make of a list of numbers: all zeros; a store into a list of one's own. -/
import Derived.Test.YtbbkdgbgfncjaaaKit
import Derived.OwnWalk
namespace Go.Proofs.Ytbbkdgbgfncjaaa
open Go.RowKit
set_option maxRecDepth 100000

theorem made_zeros (k : IntKind) (n : Nat) : (madeCells #[Value.int k 0] n).toList = ivs k (List.replicate n 0) := by
  simp only [madeCells, ivs]
  apply List.ext_getElem <;> simp [Nat.mod_one]

theorem wpList_make_zeros {P : Program} (w : World) {ops : Array Oper} {rest : List Oper} {o : Oper} {a : Act} {Q : Exit → Act → World → Prop}
    (hg : o.guard = none) (l c : Operand) (t : TypeId) (hop : o.op = Op.makeSlice t l c)
    (e : TypeId) (i : TypeInfo) (k : IntKind) (bytes : Nat) (h1 : P.underlying t = some (.slice e)) (h2 : P.info? e = some i) (h3 : i.zero = some (.int k 0)) (h4 : i.size = 1) (h5 : i.bytes = bytes)
    (kl kc : IntKind) (L C : Int) (n : Nat) (hl : a.eval l = .int kl L) (hc : a.eval c = .int kc C) (hL : L = (n : Int)) (hC : C = (n : Int)) (b2 : bytes * n ≤ 281474976710656) (b3 : n ≤ maxLen)
    (hK : ∀ w', Own w' e k (.slice (some ⟨w.heap.size, 0, none⟩) n n) (List.replicate n 0) → Fresh w w' → wpList P ops Q rest (a.put o.dst (.slice (some ⟨w.heap.size, 0, none⟩) n n)) w') :
    wpList P ops Q (o :: rest) a w := by
  refine wpList_make_full w hg l c t hop 0 e i (.int k 0) 1 h1 h2 h3 h4 kl kc L C n hl hc hL hC (by rw [h5]; exact b2) b3 (by omega) ?_
  intro w' ho hgr
  rw [Nat.mul_one, show (Value.int k 0).cells = #[Value.int k 0] from rfl, made_zeros] at ho
  refine hK w' ?_ ((Kept.refl _ _).grown hgr (fun k e _ => by cases e))
  unfold Own
  rw [List.length_replicate]
  exact ho

theorem Own.storeN {w : World} {e : TypeId} {k : IntKind} {b n c : Nat} {xs : List Int} (h : Own w e k (.slice (some ⟨b, 0, none⟩) n c) xs) (hn : xs.length = n) (j : Nat) (x : Int) :
    Own (w.setCell ⟨b, j, none⟩ (.int k x)) e k (.slice (some ⟨b, 0, none⟩) n c) (xs.set j x) := by
  subst hn
  exact Own.stored h j x
theorem Own.cellN {w : World} {e : TypeId} {k : IntKind} {b n c : Nat} {xs : List Int} (h : Own w e k (.slice (some ⟨b, 0, none⟩) n c) xs) (hn : xs.length = n) {j : Nat} (hj : j < n) : w.cell? ⟨b, j, none⟩ = some (.int k (xs.getD j 0)) := by
  subst hn
  exact Own.cell h hj
theorem Own.frozenN {w : World} {e : TypeId} {k : IntKind} {b n c : Nat} {xs : List Int} (h : Own w e k (.slice (some ⟨b, 0, none⟩) n c) xs) (hn : xs.length = n) (j : Nat) : w.frozen? ⟨b, j, none⟩ = false := by
  subst hn
  exact Own.frozen h j
theorem set_next (xs : List Int) (m i : Nat) (x : Int) (hi : xs.length = i) (h : i < m) : (xs ++ List.replicate (m - i) 0).set i x = (xs ++ [x]) ++ List.replicate (m - (i + 1)) 0 := by
  subst hi
  obtain ⟨r, hr⟩ : ∃ r, m - xs.length = r + 1 := ⟨m - xs.length - 1, by omega⟩
  rw [hr, show m - (xs.length + 1) = r by omega, List.replicate_succ, List.append_assoc, List.set_append_right _ _ (by omega), Nat.sub_self]
  rfl
/-- The slice of one number that 'append(v, x)' builds. -/
theorem Row.one (w : World) (e : TypeId) (k : IntKind) (x : Int) : Row (w.alloc (.cells #[.int k x] e)) k (some ⟨w.heap.size, 0, none⟩) 1 [x] :=
  ⟨rfl, fun j hj => ⟨w.heap.size, 0, rfl, by simp, by
    obtain rfl : j = 0 := by omega
    exact (Blk.new w e #[.int k x]).cell 0⟩⟩
end Go.Proofs.Ytbbkdgbgfncjaaa
