/- A text as one number, its first bit the lowest: the sum is that number, halved and halved; what turned bits within 32 make of it. -/
import Derived.Test.YtfaoolkhepihkaaCrcMath
namespace Go.Proofs.Ytfaoolkhepihkaa

def le : List Int → Nat
  | [] => 0
  | x :: r => x.toNat ^^^ (le r * 2 ^ 8)

theorem mul_xor (a b k : Nat) : (a ^^^ b) * 2 ^ k = a * 2 ^ k ^^^ b * 2 ^ k := by
  apply Nat.eq_of_testBit_eq
  intro i
  simp only [Nat.testBit_xor, Nat.testBit_mul_two_pow]
  by_cases h : k ≤ i <;> simp [h]

theorem run_le : ∀ (xs : List Int) (s : Nat), run s xs = itn (8 * xs.length) (s ^^^ le xs)
  | [], s => by simp [run, le, itn]
  | x :: r, s => by
    have h := run_le r (upd s x.toNat)
    have e : run s (x :: r) = run (upd s x.toNat) r := rfl
    rw [e, h, List.length_cons, show 8 * (r.length + 1) = 8 * r.length + 8 by omega, itn_add]
    congr 1
    simp only [le]
    rw [← Nat.xor_assoc, itn_xor, itn_low 8 (le r * 2 ^ 8) (Nat.mul_mod_left _ _), Nat.mul_div_cancel _ (by decide)]
    rfl

theorem le_set : ∀ (xs : List Int) (i : Nat) (y : Nat), i < xs.length → le (xs.set i (((xs.getD i 0).toNat ^^^ y : Nat) : Int)) = le xs ^^^ y * 2 ^ (8 * i)
  | x :: r, 0, y, _ => by
    simp only [List.set_cons_zero, le, Int.toNat_natCast, List.getD_cons_zero, Nat.mul_zero, Nat.pow_zero, Nat.mul_one]
    rw [Nat.xor_assoc, Nat.xor_assoc, Nat.xor_comm y]
  | x :: r, i + 1, y, h => by
    have ih := le_set r i y (by simpa using h)
    simp only [List.set_cons_succ, le, List.getD_cons_succ]
    rw [ih, mul_xor, Nat.mul_assoc, ← Nat.pow_add, show 8 * i + 8 = 8 * (i + 1) by omega, Nat.xor_assoc]

/-- The first k bits of a mask. -/
theorem mask_one {mask k : Nat} (h : mask / 2 ^ k % 2 = 1) : mask % 2 ^ (k + 1) = mask % 2 ^ k ^^^ 2 ^ k := by
  apply Nat.eq_of_testBit_eq
  intro i
  rw [Nat.testBit_xor, Nat.testBit_mod_two_pow, Nat.testBit_mod_two_pow, Nat.testBit_two_pow]
  have hb : mask.testBit k = true := by
    rw [Nat.testBit_eq_decide_div_mod_eq]
    simpa using h
  by_cases e : k = i
  · subst e
    simp [hb]
  · by_cases hlt : i < k
    · simp [hlt, e, show i < k + 1 by omega]
    · simp [hlt, e, show ¬ i < k + 1 by omega]
theorem mask_zero {mask k : Nat} (h : mask / 2 ^ k % 2 = 0) : mask % 2 ^ (k + 1) = mask % 2 ^ k := by
  apply Nat.eq_of_testBit_eq
  intro i
  rw [Nat.testBit_mod_two_pow, Nat.testBit_mod_two_pow]
  have hb : mask.testBit k = false := by
    rw [Nat.testBit_eq_decide_div_mod_eq]
    simp [h]
  by_cases e : k = i
  · subst e
    simp [hb]
  · by_cases hlt : i < k
    · simp [hlt, show i < k + 1 by omega]
    · simp [hlt, show ¬ i < k + 1 by omega]

/-- A bit more is turned. -/
theorem turn_bit {b c : List Int} {F k q r mask : Nat} (hc : le c = le b ^^^ (mask % 2 ^ k) * 2 ^ F) (hp : q < c.length) (hqr : F + k = 8 * q + r) (h : mask / 2 ^ k % 2 = 1) :
    le (c.set q (((c.getD q 0).toNat ^^^ 2 ^ r : Nat) : Int)) = le b ^^^ (mask % 2 ^ (k + 1)) * 2 ^ F := by
  rw [le_set _ _ _ hp, hc, mask_one h, mul_xor, Nat.xor_assoc, ← Nat.pow_add, ← Nat.pow_add]
  congr 3
  omega
theorem turn_some {k mask : Nat} (h : mask / 2 ^ k % 2 = 1) : mask % 2 ^ (k + 1) ≠ 0 := by
  rw [mask_one h]
  intro e
  have := xor_eq_zero e
  have h2 := Nat.mod_lt mask (show 2 ^ k > 0 from Nat.pow_pos (by decide))
  omega
theorem turn_byte {x r : Nat} (hx : x < 256) (hr : r < 8) : x ^^^ 2 ^ r < 256 := by
  have : 2 ^ r ≤ 2 ^ 7 := Nat.pow_le_pow_right (by decide) (by omega)
  exact Nat.xor_lt_two_pow (n := 8) hx (by omega)
theorem Byt.set {xs : List Int} (h : Byt xs) (i : Nat) {x : Int} (hx : 0 ≤ x ∧ x < 256) : Byt (xs.set i x) := by
  intro y hy
  rcases List.mem_or_eq_of_mem_set hy with e | e
  · exact h y e
  · subst e; exact hx

/-- The sums are the same just if nothing was turned. -/
theorem burst {b c : List Int} {F m : Nat} (hl : c.length = b.length) (hF : F ≤ 8 * b.length) (hc : le c = le b ^^^ m * 2 ^ F) :
    crcOf 0 c = crcOf 0 b ^^^ itn (8 * b.length - F) m := by
  have h : run (inv 0) c = run (inv 0) b ^^^ itn (8 * b.length - F) m := by
    rw [run_le, run_le, hl, hc, ← Nat.xor_assoc, itn_xor]
    congr 1
    have e : 8 * b.length = (8 * b.length - F) + F := by omega
    conv => lhs; rw [e]
    rw [itn_add, itn_low F (m * 2 ^ F) (Nat.mul_mod_left _ _), Nat.mul_div_cancel _ (Nat.pow_pos (by decide))]
  unfold crcOf
  rw [h]
  unfold inv
  rw [Nat.xor_assoc, Nat.xor_assoc, Nat.xor_comm (itn _ _)]
theorem burst_same {b c : List Int} {F m : Nat} (hl : c.length = b.length) (hF : F ≤ 8 * b.length) (hm : m < 4294967296) (hc : le c = le b ^^^ m * 2 ^ F) : crcOf 0 c = crcOf 0 b ↔ m = 0 := by
  rw [burst hl hF hc]
  constructor
  · intro e
    have : itn (8 * b.length - F) m = 0 := by
      have h := congrArg (crcOf 0 b ^^^ ·) e
      simp only [← Nat.xor_assoc, Nat.xor_self, Nat.zero_xor] at h
      exact h
    exact itn_null hm _ this
  · rintro rfl
    rw [itn_zero, Nat.xor_zero]

end Go.Proofs.Ytfaoolkhepihkaa
