/- The mathematics of guesses: one step (nx), its chance (ch), places modulo n (pl). -/
import Derived.Test.YtpknbfkknnaajaaDoorKit
namespace Go.Proofs.YtpknbfkknnaajaaDoor

/-- A rate, as it counts. -/
def rt (r : Int) : Nat := (min (max r 1) 15).toNat
theorem rt_int (r : Int) : min (max r 1) 15 = ((rt r : Nat) : Int) := by unfold rt; omega
theorem rt_int2 (r : Int) : max 1 (min r 15) = ((rt r : Nat) : Int) := by unfold rt; omega
theorem rt_bd (r : Int) : 1 ≤ rt r ∧ rt r ≤ 15 := by unfold rt; omega

/-- A guess behind a bit. -/
def nx (p : Nat) (one : Bool) (k : Nat) : Nat := if one then p + (65535 - p) / 2 ^ k else p - p / 2 ^ k
theorem div_pow_le (a k : Nat) : a / 2 ^ k ≤ a := Nat.div_le_self _ _
theorem nx_lt {p : Nat} (h : p < 65536) (one : Bool) (k : Nat) : nx p one k < 65536 := by
  unfold nx
  have h1 := div_pow_le (65535 - p) k
  have h2 := Nat.sub_le p (p / 2 ^ k)
  split <;> omega
theorem nx_one_int {p : Nat} (h : p < 65536) (k : Nat) : ((p : Int) + (65535 - (p : Int)) / 2 ^ k) = ((nx p true k : Nat) : Int) := by
  have e : (65535 - (p : Int)) = ((65535 - p : Nat) : Int) := by omega
  rw [e]
  simp [nx]
theorem nx_zero_int (p k : Nat) : ((p : Int) - (p : Int) / 2 ^ k) = ((nx p false k : Nat) : Int) := by
  have h2 := div_pow_le p k
  have e : (p : Int) / 2 ^ k = ((p / 2 ^ k : Nat) : Int) := by simp
  rw [e]
  simp only [nx, Bool.false_eq_true, if_false]
  omega
theorem nx_up (p k : Nat) : p ≤ nx p true k := by simp [nx]
theorem nx_down (p k : Nat) : nx p false k ≤ p := by simp [nx]
/-- Of two guesses the greater one stays as great at least. -/
theorem sub_div_mono {a b k : Nat} (h : a ≤ b) : a - a / 2 ^ k ≤ b - b / 2 ^ k := by
  obtain ⟨d, rfl⟩ := Nat.exists_eq_add_of_le h
  have hp : 0 < 2 ^ k := Nat.pow_pos (by decide)
  have h1 : (a + d) / 2 ^ k ≤ a / 2 ^ k + d := by
    have : (a + d) / 2 ^ k ≤ (a + d * 2 ^ k) / 2 ^ k := Nat.div_le_div_right (Nat.add_le_add_left (Nat.le_mul_of_pos_right d hp) a)
    rwa [Nat.add_mul_div_right _ _ hp] at this
  have h2 := div_pow_le a k
  have h3 := div_pow_le (a + d) k
  omega
theorem nx_mono {a b k : Nat} (h : a ≤ b) (hb : b < 65536) (one : Bool) : nx a one k ≤ nx b one k := by
  cases one
  · simpa [nx] using sub_div_mono (k := k) h
  · have := sub_div_mono (a := 65535 - b) (b := 65535 - a) (k := k) (by omega)
    have h1 := div_pow_le (65535 - a) k
    have h2 := div_pow_le (65535 - b) k
    simp only [nx, if_true]
    omega

/-- The chance of a guess. -/
def ch (p : Nat) : Nat := max (p / 16) 1
theorem ch_int (p : Nat) : max ((p : Int) / 16) 1 = ((ch p : Nat) : Int) := by unfold ch; omega
theorem ch_int2 (p : Nat) : max 1 ((p : Int) / 16) = ((ch p : Nat) : Int) := by unfold ch; omega
theorem ch_bd {p : Nat} (h : p < 65536) : 1 ≤ ch p ∧ ch p ≤ 4095 := by unfold ch; omega

/-- Many steps of rate 4. -/
def many (one : Bool) : Nat → Nat → Nat
  | 0, p => p
  | n + 1, p => nx (many one n p) one 4
theorem many_lt {p : Nat} (h : p < 65536) (one : Bool) : ∀ n, many one n p < 65536
  | 0 => h
  | n + 1 => nx_lt (many_lt h one n) one 4
theorem many_mono {a b : Nat} (h : a ≤ b) (hb : b < 65536) (one : Bool) : ∀ n, many one n a ≤ many one n b
  | 0 => h
  | n + 1 => nx_mono (many_mono h hb one n) (many_lt hb one n) one
theorem many_ones {p : Nat} (h : p < 65536) : 3700 < ch (many true 40 p) := by
  have h1 := many_mono (Nat.zero_le p) h true 40
  have h2 : 59216 ≤ many true 40 0 := by decide +kernel
  unfold ch; omega
theorem many_zeros {p : Nat} (h : p < 65536) : ch (many false 40 p) < 400 := by
  have h1 := many_mono (Nat.le_of_lt_succ h) (by decide) false 40
  have h2 : many false 40 65535 < 6400 := by decide +kernel
  unfold ch; omega

/-- A place, modulo n. -/
def pl (i : Int) (n : Nat) : Nat := (i % (n : Int)).toNat
theorem pl_lt {n : Nat} (i : Int) (h : 0 < n) : pl i n < n := by
  unfold pl
  have h1 := Int.emod_nonneg i (b := (n : Int)) (by omega)
  have h2 := Int.emod_lt_of_pos i (b := (n : Int)) (by omega)
  omega
theorem tmod_pos {n : Nat} {i : Int} (h : 0 < n) (hs : 0 ≤ i.tmod n) : i.tmod n = ((pl i n : Nat) : Int) := by
  have h1 := Int.emod_nonneg i (b := (n : Int)) (by omega)
  have h2 := Int.emod_lt_of_pos i (b := (n : Int)) (by omega)
  have h3 := Int.tmod_lt_of_pos i (b := (n : Int)) (by omega)
  have e := Int.tmod_eq_emod (a := i) (b := (n : Int))
  unfold pl
  split at e <;> simp_all <;> omega
theorem tmod_neg {n : Nat} {i : Int} (h : 0 < n) (hs : i.tmod n < 0) : i.tmod n + n = ((pl i n : Nat) : Int) := by
  have h1 := Int.emod_nonneg i (b := (n : Int)) (by omega)
  have h2 := Int.emod_lt_of_pos i (b := (n : Int)) (by omega)
  have e := Int.tmod_eq_emod (a := i) (b := (n : Int))
  unfold pl
  split at e <;> simp_all <;> omega
theorem tmod_bd {n : Nat} {i : Int} (h : 0 < n) : -(n : Int) ≤ i.tmod n ∧ i.tmod n < n :=
  ⟨by
    rcases (by omega : i.tmod n < 0 ∨ 0 ≤ i.tmod n) with hs | hs
    · have := tmod_neg h hs; omega
    · omega, Int.tmod_lt_of_pos i (by omega)⟩
theorem round_int {n : Nat} {i : Int} (h : 0 < n) : (i.tmod n + n).tmod n = ((pl i n : Nat) : Int) := by
  have hb := tmod_bd (n := n) (i := i) h
  have hp := pl_lt i h
  rcases (by omega : i.tmod n < 0 ∨ 0 ≤ i.tmod n) with hs | hs
  · rw [tmod_neg h hs]
    exact Int.tmod_eq_of_lt (by omega) (by omega)
  · rw [tmod_pos h hs]
    rw [Int.tmod_eq_emod_of_nonneg (by omega), Int.add_emod_right]
    exact Int.emod_eq_of_lt (by omega) (by omega)

end Go.Proofs.YtpknbfkknnaajaaDoor
