/- Bits of bytes, as loops take them: plain mathematics. -/
import Derived.Test.YtpknbfkknnaajaaDoorStrPack
import Derived.Test.YtpknbfkknnaajaaDoorCodD
import Derived.Laws.BitsAllLaws
import Derived.Laws.Bits128
namespace Go.Proofs.YtpknbfkknnaajaaDoor
set_option maxRecDepth 100000

theorem ofInt_i64 (a : Nat) (ha : a < 9223372036854775808) : (BitVec.ofInt 64 (a : Int)).toNat = a := by
  rw [BitVec.ofInt_natCast, BitVec.toNat_ofNat]; exact Nat.mod_eq_of_lt (by omega)
theorem i64_and_nat (a b : Nat) (ha : a < 9223372036854775808) (hb : b < 9223372036854775808) : bits .and .i64 (a : Int) (b : Int) = ((a &&& b : Nat) : Int) := by
  have hx : a &&& b < 2 ^ 63 := Nat.and_lt_two_pow _ (by omega)
  show IntKind.i64.wrap ((BitVec.ofInt 64 (a : Int) &&& BitVec.ofInt 64 (b : Int)).toNat : Int) = _
  rw [BitVec.toNat_and, ofInt_i64 a ha, ofInt_i64 b hb, IntKind.wrap_i64]
  omega
theorem i64_or_nat (a b : Nat) (ha : a < 9223372036854775808) (hb : b < 9223372036854775808) : bits .or .i64 (a : Int) (b : Int) = ((a ||| b : Nat) : Int) := by
  have hx : a ||| b < 2 ^ 63 := Nat.or_lt_two_pow (by omega) (by omega)
  show IntKind.i64.wrap ((BitVec.ofInt 64 (a : Int) ||| BitVec.ofInt 64 (b : Int)).toNat : Int) = _
  rw [BitVec.toNat_or, ofInt_i64 a ha, ofInt_i64 b hb, IntKind.wrap_i64]
  omega
theorem bit_val64 {c k : Nat} (hc : c < 256) (hk : k ≤ 7) : ∃ v : Nat, v ≤ 1 ∧ bits .and .i64 ((c : Int) / 2 ^ k) 1 = (v : Int) ∧ ((v : Int) != 0) = bit c (7 - k) := by
  have h1 : (c : Int) / 2 ^ k = ((c / 2 ^ k : Nat) : Int) := by simp
  have h2 : c / 2 ^ k ≤ c := Nat.div_le_self _ _
  refine ⟨c / 2 ^ k % 2, by omega, ?_, ?_⟩
  · rw [h1]
    have := i64_and_nat (c / 2 ^ k) 1 (by omega) (by omega)
    rw [Nat.and_one_is_mod] at this
    exact this
  · unfold bit
    rw [show 7 - (7 - k) = k by omega]
    rcases Nat.mod_two_eq_zero_or_one (c / 2 ^ k) with h | h <;> rw [h] <;> rfl
/-- A byte's bits, put one behind the other. -/
theorem or_bit {a : Nat} (ha : a < 256) (one : Bool) : bits .or .i64 ((a : Int) * 2) (bitN one) = ((a * 2 + one.toNat : Nat) : Int) := by
  have e : ((a : Int) * 2) = ((a * 2 : Nat) : Int) := by omega
  have e2 : bitN one = ((one.toNat : Nat) : Int) := by cases one <;> rfl
  rw [e, e2, i64_or_nat _ _ (by omega) (by cases one <;> decide), nat_join1 _ _ (by omega) (by cases one <;> decide)]
theorem bit_val {c k : Nat} (hc : c < 256) (hk : k ≤ 7) : ∃ v : Nat, v ≤ 1 ∧ bits .and .u8 ((c : Int) / 2 ^ k) 1 = (v : Int) ∧ ((v : Int) != 0) = bit c (7 - k) := by
  have h1 : (c : Int) / 2 ^ k = ((c / 2 ^ k : Nat) : Int) := by simp
  have h2 : c / 2 ^ k ≤ c := Nat.div_le_self _ _
  refine ⟨c / 2 ^ k % 2, by omega, ?_, ?_⟩
  · rw [h1]
    have := u8_and_nat (c / 2 ^ k) 1 (by omega) (by omega)
    rw [Nat.and_one_is_mod] at this
    exact this
  · unfold bit
    rw [show 7 - (7 - k) = k by omega]
    rcases Nat.mod_two_eq_zero_or_one (c / 2 ^ k) with h | h <;> rw [h] <;> rfl

/-- The bits of the first a bytes, and of so many more. -/
def sofar (xs : List Int) (a j : Nat) : List Bool := bbs (xs.take a) ++ (bb (xs.getD a 0).toNat).take j
theorem sofar_next {xs : List Int} {a j : Nat} (h : j < 8) : sofar xs a j ++ [bit (xs.getD a 0).toNat j] = sofar xs a (j + 1) := by
  unfold sofar
  rw [bb_take _ h, List.append_assoc]
theorem sofar_zero (xs : List Int) (a : Nat) : sofar xs a 0 = bbs (xs.take a) := by simp [sofar]
theorem sofar_byte {xs : List Int} {a : Nat} (h : a < xs.length) : sofar xs a 8 = sofar xs (a + 1) 0 := by
  rw [sofar_zero, List.take_succ_eq_append_getElem h, bbs_app]
  unfold sofar
  rw [bb_all]
  simp [List.getD, h]
theorem sofar_all (xs : List Int) : sofar xs xs.length 0 = bbs xs := by rw [sofar_zero, List.take_length]
theorem sofar_len {xs : List Int} {a j : Nat} (h : a ≤ xs.length) (hj : j ≤ 8) : (sofar xs a j).length ≤ 8 * xs.length + 8 := by
  unfold sofar
  rw [List.length_append, bbs_len, List.length_take, List.length_take, bb_len]
  omega
theorem byteC {xs : List Int} (h : ∀ x ∈ xs, 0 ≤ x ∧ x < 256) (j : Nat) : 0 ≤ xs.getD j 0 ∧ xs.getD j 0 < 256 := by
  by_cases hj : j < xs.length
  · have := h _ (List.getElem_mem hj)
    simpa [List.getD, hj] using this
  · simp [List.getD, List.getElem?_eq_none (Nat.le_of_not_lt hj)]

end Go.Proofs.YtpknbfkknnaajaaDoor
