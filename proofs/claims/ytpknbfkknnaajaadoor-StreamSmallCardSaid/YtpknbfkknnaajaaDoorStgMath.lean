/- The stage's numbers: the steps as they are made (fs), where a chance lies between them (sx), what is told (rd), the nearer step (nr), how a step learns (lr). -/
import Derived.Test.YtpknbfkknnaajaaDoorMixMath
namespace Go.Proofs.YtpknbfkknnaajaaDoor

/-- A step as it is made. -/
def fs (k : Nat) : Int := 16 * sq (128 * ((k : Int) - 16))
theorem fs_int (k : Nat) : 16 * sq (128 * ((k : Int) - 16)) = fs k := rfl
theorem fs_bd (k : Nat) : 16 ≤ fs k ∧ fs k ≤ 65520 := by
  have := sq_bd (128 * ((k : Int) - 16))
  unfold fs; omega

/-- Where a chance lies. -/
def sx (c : Int) : Nat := (st (pc c) + 2048).toNat
theorem sx_int (c : Int) : st (pc c) + 2048 = ((sx c : Nat) : Int) := by
  have h := pc_bd c
  have := st_bd h.1 h.2
  unfold sx; omega
theorem sx_bd (c : Int) : 1 ≤ sx c ∧ sx c ≤ 4095 := by
  have h := pc_bd c
  have := st_bd h.1 h.2
  unfold sx; omega

/-- What is told between two steps. -/
def mid (a b : Int) (v : Nat) : Int := max ((a * (128 - (v : Int)) + b * (v : Int)) / 2048) 1
theorem mul_in {a e : Int} (ha : 0 ≤ a ∧ a ≤ 65535) (he : 0 ≤ e ∧ e ≤ 128) : 0 ≤ a * e ∧ a * e ≤ 65535 * e :=
  ⟨Int.mul_nonneg ha.1 he.1, Int.mul_le_mul_of_nonneg_right ha.2 he.1⟩
theorem mid_sum {a b : Int} {v : Nat} (ha : 0 ≤ a ∧ a ≤ 65535) (hb : 0 ≤ b ∧ b ≤ 65535) (hv : v < 128) :
    0 ≤ a * (128 - (v : Int)) ∧ a * (128 - (v : Int)) ≤ 8388480 ∧ 0 ≤ b * (v : Int) ∧ b * (v : Int) ≤ 8388480 ∧ a * (128 - (v : Int)) + b * (v : Int) ≤ 8388480 := by
  have h1 := mul_in (e := 128 - (v : Int)) ha (by omega)
  have h2 := mul_in (e := (v : Int)) hb (by omega)
  omega
theorem mid_bd {a b : Int} {v : Nat} (ha : 0 ≤ a ∧ a ≤ 65535) (hb : 0 ≤ b ∧ b ≤ 65535) (hv : v < 128) : 1 ≤ mid a b v ∧ mid a b v ≤ 4095 := by
  have := mid_sum ha hb hv
  unfold mid; omega
theorem mid_int {a b : Int} {v : Nat} : max ((a * (128 - (v : Int)) + b * (v : Int)) / 2048) 1 = mid a b v := rfl
theorem mid_int2 {a b : Int} {v : Nat} (ha : 0 ≤ a ∧ a ≤ 65535) (hb : 0 ≤ b ∧ b ≤ 65535) (hv : v < 128) : max 1 (min ((a * (128 - (v : Int)) + b * (v : Int)) / 2048) 4095) = mid a b v := by
  have := mid_sum ha hb hv
  unfold mid; omega
/-- .. of steps T, where the chance lies at x. -/
def rd (T : Nat → Int) (x : Nat) : Int := mid (T (x / 128)) (T (x / 128 + 1)) (x % 128)
theorem rd_bd {T : Nat → Int} (h : ∀ k, 0 ≤ T k ∧ T k ≤ 65535) (x : Nat) : 1 ≤ rd T x ∧ rd T x ≤ 4095 := mid_bd (h _) (h _) (Nat.mod_lt _ (by omega))

/-- The nearer step. -/
def nr (x : Nat) : Nat := (x + 64) / 128
theorem nr_int (x : Nat) : ((x : Int) + 64) / 128 = ((nr x : Nat) : Int) := by unfold nr; omega
theorem nr_lt {x : Nat} (h : x ≤ 4095) : nr x < 33 := by unfold nr; omega
theorem nr_hi {x : Nat} (h : 64 ≤ x % 128) : nr x = x / 128 + 1 := by unfold nr; omega
theorem nr_lo {x : Nat} (h : x % 128 < 64) : nr x = x / 128 := by unfold nr; omega

/-- A step that learns. -/
def lr (one : Bool) (k : Nat) (p : Int) : Int := p + ((if one then 65535 else 0) - p) / 2 ^ k
theorem lr_one (k : Nat) (p : Int) : lr true k p = p + (65535 - p) / 2 ^ k := rfl
theorem lr_zero (k : Nat) (p : Int) : lr false k p = p + (0 - p) / 2 ^ k := rfl
theorem two_pos (k : Nat) : (1 : Int) ≤ 2 ^ k := by
  have : 1 ≤ 2 ^ k := Nat.one_le_two_pow
  exact_mod_cast this
theorem shr_bd {a : Int} (k : Nat) : (0 ≤ a → 0 ≤ a / 2 ^ k ∧ a / 2 ^ k ≤ a) ∧ (a ≤ 0 → a ≤ a / 2 ^ k ∧ a / 2 ^ k ≤ 0) := by
  have h1 := two_pos k
  generalize (2 : Int) ^ k = d at *
  refine ⟨fun h => ⟨Int.ediv_nonneg h (by omega), Int.ediv_le_self _ h⟩, fun h => ⟨?_, ?_⟩⟩
  · rw [Int.le_ediv_iff_mul_le (by omega)]
    have : a * d ≤ a * 1 := Int.mul_le_mul_of_nonpos_left h h1
    omega
  · have : a / d < 1 := by rw [Int.ediv_lt_iff_lt_mul (by omega)]; omega
    omega
theorem lr_bd {p : Int} (one : Bool) (k : Nat) (h : 0 ≤ p ∧ p ≤ 65535) : 0 ≤ lr one k p ∧ lr one k p ≤ 65535 := by
  cases one
  · rw [lr_zero]
    have := (shr_bd (a := 0 - p) k).2 (by omega)
    omega
  · rw [lr_one]
    have := (shr_bd (a := 65535 - p) k).1 (by omega)
    omega

/-- A stage that has learnt nothing tells about what it is told. -/
def fsOK (p : Nat) : Bool := decide (rd fs (sx (p : Nat)) - (p : Int) ≤ 160 ∧ (p : Int) - rd fs (sx (p : Nat)) ≤ 160)
theorem fsOK_all : ∀ a, a < 64 → ∀ b, b < 64 → 1 ≤ 64 * a + b → fsOK (64 * a + b) = true := by decide +kernel
theorem fs_near {p : Nat} (h1 : 1 ≤ p) (h2 : p ≤ 4095) : rd fs (sx (p : Nat)) - (p : Int) ≤ 160 ∧ (p : Int) - rd fs (sx (p : Nat)) ≤ 160 := by
  have h := fsOK_all (p / 64) (by omega) (p % 64) (by omega) (by omega)
  rw [show 64 * (p / 64) + p % 64 = p by omega] at h
  exact of_decide_eq_true h

/-- How many contexts. -/
def nc (n : Int) : Nat := (min (max n 1) 1024).toNat
theorem nc_int (n : Int) : min (max n 1) 1024 = ((nc n : Nat) : Int) := by unfold nc; omega
theorem nc_int2 (n : Int) : max 1 (min n 1024) = ((nc n : Nat) : Int) := by unfold nc; omega
theorem nc_bd (n : Int) : 1 ≤ nc n ∧ nc n ≤ 1024 := by unfold nc; omega

end Go.Proofs.YtpknbfkknnaajaaDoor
