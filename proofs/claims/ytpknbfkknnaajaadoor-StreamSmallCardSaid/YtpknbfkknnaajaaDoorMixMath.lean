/- The mathematics of mixing: a number held within bounds (cl), Squash (sq), Stretch (st), a weight behind a learning (lw), the sum of inputs times weights (dotTo). -/
import Derived.Test.YtpknbfkknnaajaaDoorGueMath
namespace Go.Proofs.YtpknbfkknnaajaaDoor

/-- v, or the nearer bound, if its amount is above m. -/
def cl (v m : Int) : Int := min (max v (-m)) m
theorem cl_int (v m : Int) : min (max v (-m)) m = cl v m := rfl
theorem cl_bd {v m : Int} (h : 0 ≤ m) : -m ≤ cl v m ∧ cl v m ≤ m := by unfold cl; omega
theorem cl_int2 {v m : Int} (h : 0 ≤ m) : max (-m) (min v m) = cl v m := by unfold cl; omega
theorem cl_in {v m : Int} (h1 : -m ≤ v) (h2 : v ≤ m) : cl v m = v := by unfold cl; omega
theorem cl_mono {a b m : Int} (h : a ≤ b) : cl a m ≤ cl b m := by unfold cl; omega

/-- How far a number leads from even. -/
def up (k : Nat) : Nat := 2560 * k / (512 + k)
theorem up_le (k : Nat) : up k ≤ 2560 := by
  unfold up
  exact Nat.le_trans (Nat.div_le_div_right (Nat.mul_le_mul_left 2560 (by omega : k ≤ 512 + k))) (by rw [Nat.mul_div_cancel _ (by omega)]; omega)
theorem le_up {m k : Nat} : m ≤ up k ↔ m * (512 + k) ≤ 2560 * k := Nat.le_div_iff_mul_le (by omega)
theorem up_mono {a b : Nat} (h : a ≤ b) : up a ≤ up b := by
  obtain ⟨d, rfl⟩ := Nat.exists_eq_add_of_le h
  rw [le_up]
  have h1 := le_up.1 (Nat.le_refl (up a))
  have h2 : up a * d ≤ 2560 * d := Nat.mul_le_mul_right d (up_le a)
  have e : up a * (512 + (a + d)) = up a * (512 + a) + up a * d := by rw [← Nat.mul_add]; congr 1; omega
  omega
theorem up_top {k : Nat} (h : k ≤ 2047) : up k ≤ 2047 := Nat.le_trans (up_mono h) (by decide +kernel)

/-- Squash, of a number within bounds. -/
def sq0 (d : Int) : Int := 2048 + (2560 * d).tdiv (512 + max d (-d))
theorem sq0_pos (k : Nat) : sq0 k = 2048 + (up k : Nat) := by
  unfold sq0 up
  rw [show max (k : Int) (-(k : Int)) = k from by omega]
  rw [Int.tdiv_eq_ediv_of_nonneg (by omega)]
  simp
theorem sq0_neg (k : Nat) : sq0 (-(k : Int)) = 2048 - (up k : Nat) := by
  unfold sq0 up
  rw [show max (-(k : Int)) (-(-(k : Int))) = k from by omega, show (2560 * -(k : Int)) = -(2560 * (k : Int)) from by omega, Int.neg_tdiv, Int.tdiv_eq_ediv_of_nonneg (by omega)]
  simp
  omega
theorem sq0_mono {a b : Int} (h : a ≤ b) : sq0 a ≤ sq0 b := by
  rcases (by omega : 0 ≤ a ∨ a < 0) with ha | ha
  · obtain ⟨i, rfl⟩ : ∃ i : Nat, a = i := ⟨a.toNat, by omega⟩
    obtain ⟨j, rfl⟩ : ∃ j : Nat, b = j := ⟨b.toNat, by omega⟩
    have := up_mono (a := i) (b := j) (by omega)
    rw [sq0_pos, sq0_pos]; omega
  · obtain ⟨i, rfl⟩ : ∃ i : Nat, a = -(i : Int) := ⟨(-a).toNat, by omega⟩
    rcases (by omega : 0 ≤ b ∨ b < 0) with hb | hb
    · obtain ⟨j, rfl⟩ : ∃ j : Nat, b = j := ⟨b.toNat, by omega⟩
      rw [sq0_pos, sq0_neg]; omega
    · obtain ⟨j, rfl⟩ : ∃ j : Nat, b = -(j : Int) := ⟨(-b).toNat, by omega⟩
      have := up_mono (a := j) (b := i) (by omega)
      rw [sq0_neg, sq0_neg]; omega

/-- Squash. -/
def sq (d : Int) : Int := sq0 (cl d 2047)
theorem sq_mono {a b : Int} (h : a ≤ b) : sq a ≤ sq b := sq0_mono (cl_mono h)
theorem sq_bd (d : Int) : 1 ≤ sq d ∧ sq d ≤ 4095 := by
  have h := cl_bd (v := d) (m := 2047) (by omega)
  unfold sq
  generalize cl d 2047 = a at *
  rcases (by omega : 0 ≤ a ∨ a < 0) with ha | ha
  · obtain ⟨i, rfl⟩ : ∃ i : Nat, a = i := ⟨a.toNat, by omega⟩
    have := up_top (k := i) (by omega)
    rw [sq0_pos]; omega
  · obtain ⟨i, rfl⟩ : ∃ i : Nat, a = -(i : Int) := ⟨(-a).toNat, by omega⟩
    have := up_top (k := i) (by omega)
    rw [sq0_neg]; omega

/-- Stretch, of a chance. -/
def st (p : Int) : Int := if p > 2048 then (512 * (p - 2048) + (2560 - (p - 2048)) - 1) / (2560 - (p - 2048)) else -((512 * (2048 - p + 1) - 1) / (2560 - (2048 - p + 1)))
/-- What Stretch is to be. -/
def stOK (p : Nat) : Bool := decide (-2047 ≤ st (p : Nat) ∧ st (p : Nat) ≤ 2047 ∧ (p : Int) ≤ sq (st (p : Nat)) ∧ (st (p : Nat) = -2047 ∨ sq (st (p : Nat) - 1) < (p : Int)))
theorem stOK_all : ∀ a, a < 64 → ∀ b, b < 64 → 1 ≤ 64 * a + b → stOK (64 * a + b) = true := by decide +kernel
theorem st_all (p : Nat) (h1 : p < 4096) (h2 : 1 ≤ p) : -2047 ≤ st (p : Nat) ∧ st (p : Nat) ≤ 2047 ∧ (p : Int) ≤ sq (st (p : Nat)) ∧ (st (p : Nat) = -2047 ∨ sq (st (p : Nat) - 1) < (p : Int)) := by
  have h := stOK_all (p / 64) (by omega) (p % 64) (by omega) (by omega)
  rw [show 64 * (p / 64) + p % 64 = p from by omega] at h
  exact of_decide_eq_true h
theorem st_bd {p : Int} (h1 : 1 ≤ p) (h2 : p ≤ 4095) : -2047 ≤ st p ∧ st p ≤ 2047 := by
  obtain ⟨i, rfl⟩ : ∃ i : Nat, p = i := ⟨p.toNat, by omega⟩
  have := st_all i (by omega) (by omega)
  exact ⟨this.1, this.2.1⟩
theorem st_le {p : Int} (h1 : 1 ≤ p) (h2 : p ≤ 4095) : p ≤ sq (st p) := by
  obtain ⟨i, rfl⟩ : ∃ i : Nat, p = i := ⟨p.toNat, by omega⟩
  exact (st_all i (by omega) (by omega)).2.2.1
theorem st_lt {p : Int} (h1 : 1 ≤ p) (h2 : p ≤ 4095) : st p = -2047 ∨ sq (st p - 1) < p := by
  obtain ⟨i, rfl⟩ : ∃ i : Nat, p = i := ⟨p.toNat, by omega⟩
  exact (st_all i (by omega) (by omega)).2.2.2
/-- What is below has less, what is not has so much. -/
theorem st_below {p d : Int} (h1 : 1 ≤ p) (h2 : p ≤ 4095) (hd : -2047 ≤ d) (h : d < st p) : sq d < p := by
  rcases st_lt h1 h2 with h3 | h3
  · omega
  · have := sq_mono (a := d) (b := st p - 1) (by omega)
    omega
theorem st_above {p d : Int} (h1 : 1 ≤ p) (h2 : p ≤ 4095) (h : st p ≤ d) : p ≤ sq d := Int.le_trans (st_le h1 h2) (sq_mono h)

/-- A chance, as it counts. -/
def pc (p : Int) : Int := min (max p 1) 4095
theorem pc_int2 (p : Int) : max 1 (min p 4095) = pc p := by unfold pc; omega
theorem pc_bd (p : Int) : 1 ≤ pc p ∧ pc p ≤ 4095 := by unfold pc; omega
theorem pc_in {p : Int} (h1 : 1 ≤ p) (h2 : p ≤ 4095) : pc p = p := by unfold pc; omega

/-- A weight behind a learning. -/
def lw (w x e : Int) : Int := cl (w + (x * e + 32768) / 65536) 16777216
theorem lw_bd (w x e : Int) : -16777216 ≤ lw w x e ∧ lw w x e ≤ 16777216 := cl_bd (by omega)
theorem mul_bd {a b A B : Int} (ha : -A ≤ a ∧ a ≤ A) (hb : -B ≤ b ∧ b ≤ B) : -(A * B) ≤ a * b ∧ a * b ≤ A * B := by
  have h : (a * b).natAbs ≤ (A * B).natAbs := by
    rw [Int.natAbs_mul, Int.natAbs_mul]
    exact Nat.mul_le_mul (by omega) (by omega)
  have hAB : 0 ≤ A * B := Int.mul_nonneg (by omega) (by omega)
  omega
theorem lw_sign_pos {w x e : Int} (h : 0 ≤ x * e) (hw : -16777216 ≤ w ∧ w ≤ 16777216) : w ≤ lw w x e := by
  unfold lw cl; omega
theorem lw_sign_neg {w x e : Int} (h : x * e ≤ 0) (hw : -16777216 ≤ w ∧ w ≤ 16777216) : lw w x e ≤ w := by
  unfold lw cl; omega
theorem mul_le_left {x a b : Int} (h : 0 ≤ x) (hab : a ≤ b) : x * a ≤ x * b := Int.mul_le_mul_of_nonneg_left hab h
theorem mul_ge_left {x a b : Int} (h : x ≤ 0) (hab : a ≤ b) : x * b ≤ x * a := Int.mul_le_mul_of_nonpos_left h hab
/-- With an error that is not below 0 no share falls, .. -/
theorem lw_up {w x e : Int} (he : 0 ≤ e) (hw : -16777216 ≤ w ∧ w ≤ 16777216) : x * w ≤ x * lw w x e := by
  rcases (by omega : 0 ≤ x ∨ x ≤ 0) with hx | hx
  · exact mul_le_left hx (lw_sign_pos (Int.mul_nonneg hx he) hw)
  · exact mul_ge_left hx (lw_sign_neg (Int.mul_nonpos_of_nonpos_of_nonneg hx he) hw)
/-- .. with one that is not above 0 none rises. -/
theorem lw_down {w x e : Int} (he : e ≤ 0) (hw : -16777216 ≤ w ∧ w ≤ 16777216) : x * lw w x e ≤ x * w := by
  rcases (by omega : 0 ≤ x ∨ x ≤ 0) with hx | hx
  · exact mul_le_left hx (lw_sign_neg (Int.mul_nonpos_of_nonneg_of_nonpos hx he) hw)
  · exact mul_ge_left hx (lw_sign_pos (Int.mul_nonneg_of_nonpos_of_nonpos hx he) hw)

/-- The sum of the first k inputs, each times its weight. -/
def dotTo (I W : Nat → Int) : Nat → Int
  | 0 => 0
  | k + 1 => dotTo I W k + I k * W k
theorem dotTo_bd {I W : Nat → Int} (hI : ∀ k, -2047 ≤ I k ∧ I k ≤ 2047) (hW : ∀ k, -16777216 ≤ W k ∧ W k ≤ 16777216) : ∀ k : Nat, -(34342961152 * (k : Int)) ≤ dotTo I W k ∧ dotTo I W k ≤ 34342961152 * (k : Int)
  | 0 => by simp [dotTo]
  | k + 1 => by
    have h1 := dotTo_bd hI hW k
    have h2 := mul_bd (hI k) (hW k)
    simp only [dotTo]
    omega
theorem dotTo_mono {I W V : Nat → Int} (h : ∀ k, I k * W k ≤ I k * V k) : ∀ k, dotTo I W k ≤ dotTo I V k
  | 0 => by simp [dotTo]
  | k + 1 => by
    have h1 := dotTo_mono h k
    have h2 := h k
    simp only [dotTo]
    omega
theorem dotTo_congr {I J W V : Nat → Int} : ∀ k, (∀ i, i < k → I i = J i ∧ W i = V i) → dotTo I W k = dotTo J V k
  | 0, _ => rfl
  | k + 1, h => by
    have h1 := dotTo_congr (I := I) (J := J) (W := W) (V := V) k (fun i hi => h i (by omega))
    have h2 := h k (by omega)
    simp only [dotTo]
    rw [h1, h2.1, h2.2]

/-- What is told of inputs and weights. -/
def tl (I W : Nat → Int) : Int := sq (dotTo I W 4 / 65536)
theorem tl_bd (I W : Nat → Int) : 1 ≤ tl I W ∧ tl I W ≤ 4095 := sq_bd _
/-- The error. -/
def er (one : Bool) (t : Int) : Int := 7 * ((if one then 4095 else 0) - t)
theorem tl_up {I W : Nat → Int} {t : Int} (ht : 1 ≤ t ∧ t ≤ 4095) (hW : ∀ k, -16777216 ≤ W k ∧ W k ≤ 16777216) : tl I W ≤ tl I fun k => lw (W k) (I k) (er true t) := by
  refine sq_mono (Int.ediv_le_ediv (by omega) (dotTo_mono (fun k => lw_up (by unfold er; simp; omega) (hW k)) 4))
theorem tl_down {I W : Nat → Int} {t : Int} (ht : 1 ≤ t ∧ t ≤ 4095) (hW : ∀ k, -16777216 ≤ W k ∧ W k ≤ 16777216) : tl I (fun k => lw (W k) (I k) (er false t)) ≤ tl I W := by
  refine sq_mono (Int.ediv_le_ediv (by omega) (dotTo_mono (fun k => lw_down (by unfold er; simp; omega) (hW k)) 4))

/-- The inputs that count. -/
def inp (xs : List Int) (k : Nat) : Int := cl (xs.getD k 0) 2047
theorem inp_bd (xs : List Int) (k : Nat) : -2047 ≤ inp xs k ∧ inp xs k ≤ 2047 := cl_bd (by omega)

end Go.Proofs.YtpknbfkknnaajaaDoor
