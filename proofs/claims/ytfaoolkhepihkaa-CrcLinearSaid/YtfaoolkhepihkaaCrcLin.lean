/- Sums of texts that are laid one upon the other, bit by bit. -/
import Derived.Test.YtfaoolkhepihkaaCrcMath
namespace Go.Proofs.Ytfaoolkhepihkaa

def x3 (a b c : Int) : Int := ((a.toNat ^^^ b.toNat ^^^ c.toNat : Nat) : Int)
theorem xor3 (a b c a' b' c' : Nat) : (a ^^^ b ^^^ c) ^^^ (a' ^^^ b' ^^^ c') = (a ^^^ a') ^^^ (b ^^^ b') ^^^ (c ^^^ c') := by
  apply Nat.eq_of_testBit_eq
  intro i
  simp only [Nat.testBit_xor]
  cases a.testBit i <;> cases b.testBit i <;> cases c.testBit i <;> cases a'.testBit i <;> cases b'.testBit i <;> cases c'.testBit i <;> rfl
theorem upd_x3 (s t u : Nat) (a b c : Int) : upd (s ^^^ t ^^^ u) (x3 a b c).toNat = upd s a.toNat ^^^ upd t b.toNat ^^^ upd u c.toNat := by
  unfold upd x3
  rw [Int.toNat_natCast, xor3, itn_xor, itn_xor]
/-- The first k laid upon each other, the others al they are in the first. -/
def lin (al bl cl : List Int) (k : Nat) : List Int := (List.range al.length).map fun i => if i < k then x3 (al.getD i 0) (bl.getD i 0) (cl.getD i 0) else al.getD i 0
theorem lin_len (al bl cl : List Int) (k : Nat) : (lin al bl cl k).length = al.length := by simp [lin]
theorem lin_zero (al bl cl : List Int) : lin al bl cl 0 = al := by
  apply List.ext_getElem
  · simp [lin]
  · intro i h1 h2
    simp [lin, List.getD, h2]
theorem lin_at (al bl cl : List Int) {k : Nat} (h : k < al.length) : (lin al bl cl k).getD k 0 = al.getD k 0 := by
  simp [lin, List.getD, h]
theorem lin_set (al bl cl : List Int) (k : Nat) : (lin al bl cl k).set k (x3 (al.getD k 0) (bl.getD k 0) (cl.getD k 0)) = lin al bl cl (k + 1) := by
  apply List.ext_getElem
  · simp [lin]
  · intro i h1 h2
    have hi : i < al.length := by simpa [lin] using h2
    simp only [lin, List.getElem_set, List.getElem_map, List.getElem_range]
    by_cases e : k = i
    · subst e; simp
    · rw [if_neg e]
      by_cases hlt : i < k
      · rw [if_pos hlt, if_pos (by omega)]
      · rw [if_neg hlt, if_neg (by omega)]
theorem lin_cons (a b c : Int) (al bl cl : List Int) : lin (a :: al) (b :: bl) (c :: cl) (al.length + 1) = x3 a b c :: lin al bl cl al.length := by
  simp only [lin, List.length_cons]
  rw [List.range_succ_eq_map, List.map_cons, List.map_map]
  congr 1
  apply List.map_congr_left
  intro i hi
  have := List.mem_range.1 hi
  simp [this]
theorem run_lin : ∀ (al bl cl : List Int) (s t u : Nat), al.length = bl.length → al.length = cl.length → run (s ^^^ t ^^^ u) (lin al bl cl al.length) = run s al ^^^ run t bl ^^^ run u cl
  | [], [], [], s, t, u, _, _ => rfl
  | a :: al, b :: bl, c :: cl, s, t, u, h1, h2 => by
    rw [List.length_cons, lin_cons]
    simp only [run, List.foldl_cons]
    rw [upd_x3]
    exact run_lin al bl cl _ _ _ (by simpa using h1) (by simpa using h2)
theorem crcOf_lin (al bl cl : List Int) (h1 : al.length = bl.length) (h2 : al.length = cl.length) : crcOf 0 (lin al bl cl al.length) = crcOf 0 al ^^^ crcOf 0 bl ^^^ crcOf 0 cl := by
  have e : inv 0 = inv 0 ^^^ inv 0 ^^^ inv 0 := by decide
  have h := run_lin al bl cl (inv 0) (inv 0) (inv 0) h1 h2
  rw [← e] at h
  unfold crcOf
  rw [h]
  generalize run (inv 0) al = x
  generalize run (inv 0) bl = y
  generalize run (inv 0) cl = z
  unfold inv
  apply Nat.eq_of_testBit_eq
  intro i
  simp only [Nat.testBit_xor]
  cases x.testBit i <;> cases y.testBit i <;> cases z.testBit i <;> cases (Nat.testBit 4294967295 i) <;> rfl
theorem x3_byte {a b c : Int} (ha : 0 ≤ a ∧ a < 256) (hb : 0 ≤ b ∧ b < 256) (hc : 0 ≤ c ∧ c < 256) : 0 ≤ x3 a b c ∧ x3 a b c < 256 := by
  unfold x3
  have := Nat.xor_lt_two_pow (n := 8) (Nat.xor_lt_two_pow (n := 8) (x := a.toNat) (y := b.toNat) (by omega) (by omega)) (y := c.toNat) (by omega)
  omega
theorem lin_byt {al bl cl : List Int} (ha : Byt al) (hb : Byt bl) (hc : Byt cl) (h1 : al.length = bl.length) (h2 : al.length = cl.length) (k : Nat) : Byt (lin al bl cl k) := by
  intro x hx
  simp only [lin, List.mem_map, List.mem_range] at hx
  obtain ⟨i, hi, rfl⟩ := hx
  split
  · exact x3_byte (ha.at_ hi) (hb.at_ (by omega)) (hc.at_ (by omega))
  · exact ha.at_ hi

end Go.Proofs.Ytfaoolkhepihkaa
