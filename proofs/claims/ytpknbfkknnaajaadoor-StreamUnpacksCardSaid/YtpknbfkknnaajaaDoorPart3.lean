/- Texts of this proof, one behind the other: MixMath, StgMath, Arr. -/
import Derived.Test.YtpknbfkknnaajaaDoorPart2
import Derived.Deep.WholeRow
import Derived.Laws.CopyOwn
import Derived.OwnWalk
import Derived.Still

/- The mathematics of mixing: a number held within bounds (cl), Squash (sq), Stretch (st), a weight behind a learning (lw), the sum of inputs times weights (dotTo). -/
namespace Go.Proofs.YtpknbfkknnaajaaDoor

/-- v, or the nearer bound, if its amount is above m. -/
def cl (v m : Int) : Int := min (max v (-m)) m
theorem cl_int (v m : Int) : min (max v (-m)) m = cl v m := rfl
theorem cl_bd {v m : Int} (h : 0 ≤ m) : -m ≤ cl v m ∧ cl v m ≤ m := by unfold cl; omega
theorem cl_int2 {v m : Int} (h : 0 ≤ m) : max (-m) (min v m) = cl v m := by unfold cl; omega
theorem cl_in {v m : Int} (h1 : -m ≤ v) (h2 : v ≤ m) : cl v m = v := by unfold cl; omega
theorem cl_mono {a b m : Int} (h : a ≤ b) : cl a m ≤ cl b m := by unfold cl; omega

/-- How far a number leads from even. -/
def up (k : Nat) : Nat := 2560 * k / (512 + k)
theorem up_le (k : Nat) : up k ≤ 2560 := by
  unfold up
  exact Nat.le_trans (Nat.div_le_div_right (Nat.mul_le_mul_left 2560 (by omega : k ≤ 512 + k))) (by rw [Nat.mul_div_cancel _ (by omega)]; omega)
theorem le_up {m k : Nat} : m ≤ up k ↔ m * (512 + k) ≤ 2560 * k := Nat.le_div_iff_mul_le (by omega)
theorem up_mono {a b : Nat} (h : a ≤ b) : up a ≤ up b := by
  obtain ⟨d, rfl⟩ := Nat.exists_eq_add_of_le h
  rw [le_up]
  have h1 := le_up.1 (Nat.le_refl (up a))
  have h2 : up a * d ≤ 2560 * d := Nat.mul_le_mul_right d (up_le a)
  have e : up a * (512 + (a + d)) = up a * (512 + a) + up a * d := by rw [← Nat.mul_add]; congr 1; omega
  omega
theorem up_top {k : Nat} (h : k ≤ 2047) : up k ≤ 2047 := Nat.le_trans (up_mono h) (by decide +kernel)

/-- Squash, of a number within bounds. -/
def sq0 (d : Int) : Int := 2048 + (2560 * d).tdiv (512 + max d (-d))
theorem sq0_pos (k : Nat) : sq0 k = 2048 + (up k : Nat) := by
  unfold sq0 up
  rw [show max (k : Int) (-(k : Int)) = k from by omega]
  rw [Int.tdiv_eq_ediv_of_nonneg (by omega)]
  simp
theorem sq0_neg (k : Nat) : sq0 (-(k : Int)) = 2048 - (up k : Nat) := by
  unfold sq0 up
  rw [show max (-(k : Int)) (-(-(k : Int))) = k from by omega, show (2560 * -(k : Int)) = -(2560 * (k : Int)) from by omega, Int.neg_tdiv, Int.tdiv_eq_ediv_of_nonneg (by omega)]
  simp
  omega
theorem sq0_mono {a b : Int} (h : a ≤ b) : sq0 a ≤ sq0 b := by
  rcases (by omega : 0 ≤ a ∨ a < 0) with ha | ha
  · obtain ⟨i, rfl⟩ : ∃ i : Nat, a = i := ⟨a.toNat, by omega⟩
    obtain ⟨j, rfl⟩ : ∃ j : Nat, b = j := ⟨b.toNat, by omega⟩
    have := up_mono (a := i) (b := j) (by omega)
    rw [sq0_pos, sq0_pos]; omega
  · obtain ⟨i, rfl⟩ : ∃ i : Nat, a = -(i : Int) := ⟨(-a).toNat, by omega⟩
    rcases (by omega : 0 ≤ b ∨ b < 0) with hb | hb
    · obtain ⟨j, rfl⟩ : ∃ j : Nat, b = j := ⟨b.toNat, by omega⟩
      rw [sq0_pos, sq0_neg]; omega
    · obtain ⟨j, rfl⟩ : ∃ j : Nat, b = -(j : Int) := ⟨(-b).toNat, by omega⟩
      have := up_mono (a := j) (b := i) (by omega)
      rw [sq0_neg, sq0_neg]; omega

/-- Squash. -/
def sq (d : Int) : Int := sq0 (cl d 2047)
theorem sq_mono {a b : Int} (h : a ≤ b) : sq a ≤ sq b := sq0_mono (cl_mono h)
theorem sq_bd (d : Int) : 1 ≤ sq d ∧ sq d ≤ 4095 := by
  have h := cl_bd (v := d) (m := 2047) (by omega)
  unfold sq
  generalize cl d 2047 = a at *
  rcases (by omega : 0 ≤ a ∨ a < 0) with ha | ha
  · obtain ⟨i, rfl⟩ : ∃ i : Nat, a = i := ⟨a.toNat, by omega⟩
    have := up_top (k := i) (by omega)
    rw [sq0_pos]; omega
  · obtain ⟨i, rfl⟩ : ∃ i : Nat, a = -(i : Int) := ⟨(-a).toNat, by omega⟩
    have := up_top (k := i) (by omega)
    rw [sq0_neg]; omega

/-- Stretch, of a chance. -/
def st (p : Int) : Int := if p > 2048 then (512 * (p - 2048) + (2560 - (p - 2048)) - 1) / (2560 - (p - 2048)) else -((512 * (2048 - p + 1) - 1) / (2560 - (2048 - p + 1)))
/-- What Stretch is to be. -/
def stOK (p : Nat) : Bool := decide (-2047 ≤ st (p : Nat) ∧ st (p : Nat) ≤ 2047 ∧ (p : Int) ≤ sq (st (p : Nat)) ∧ (st (p : Nat) = -2047 ∨ sq (st (p : Nat) - 1) < (p : Int)))
theorem stOK_all : ∀ a, a < 64 → ∀ b, b < 64 → 1 ≤ 64 * a + b → stOK (64 * a + b) = true := by decide +kernel
theorem st_all (p : Nat) (h1 : p < 4096) (h2 : 1 ≤ p) : -2047 ≤ st (p : Nat) ∧ st (p : Nat) ≤ 2047 ∧ (p : Int) ≤ sq (st (p : Nat)) ∧ (st (p : Nat) = -2047 ∨ sq (st (p : Nat) - 1) < (p : Int)) := by
  have h := stOK_all (p / 64) (by omega) (p % 64) (by omega) (by omega)
  rw [show 64 * (p / 64) + p % 64 = p from by omega] at h
  exact of_decide_eq_true h
theorem st_bd {p : Int} (h1 : 1 ≤ p) (h2 : p ≤ 4095) : -2047 ≤ st p ∧ st p ≤ 2047 := by
  obtain ⟨i, rfl⟩ : ∃ i : Nat, p = i := ⟨p.toNat, by omega⟩
  have := st_all i (by omega) (by omega)
  exact ⟨this.1, this.2.1⟩
theorem st_le {p : Int} (h1 : 1 ≤ p) (h2 : p ≤ 4095) : p ≤ sq (st p) := by
  obtain ⟨i, rfl⟩ : ∃ i : Nat, p = i := ⟨p.toNat, by omega⟩
  exact (st_all i (by omega) (by omega)).2.2.1
theorem st_lt {p : Int} (h1 : 1 ≤ p) (h2 : p ≤ 4095) : st p = -2047 ∨ sq (st p - 1) < p := by
  obtain ⟨i, rfl⟩ : ∃ i : Nat, p = i := ⟨p.toNat, by omega⟩
  exact (st_all i (by omega) (by omega)).2.2.2
/-- What is below has less, what is not has so much. -/
theorem st_below {p d : Int} (h1 : 1 ≤ p) (h2 : p ≤ 4095) (hd : -2047 ≤ d) (h : d < st p) : sq d < p := by
  rcases st_lt h1 h2 with h3 | h3
  · omega
  · have := sq_mono (a := d) (b := st p - 1) (by omega)
    omega
theorem st_above {p d : Int} (h1 : 1 ≤ p) (h2 : p ≤ 4095) (h : st p ≤ d) : p ≤ sq d := Int.le_trans (st_le h1 h2) (sq_mono h)

/-- A chance, as it counts. -/
def pc (p : Int) : Int := min (max p 1) 4095
theorem pc_int2 (p : Int) : max 1 (min p 4095) = pc p := by unfold pc; omega
theorem pc_bd (p : Int) : 1 ≤ pc p ∧ pc p ≤ 4095 := by unfold pc; omega
theorem pc_in {p : Int} (h1 : 1 ≤ p) (h2 : p ≤ 4095) : pc p = p := by unfold pc; omega

/-- A weight behind a learning. -/
def lw (w x e : Int) : Int := cl (w + (x * e + 32768) / 65536) 16777216
theorem lw_bd (w x e : Int) : -16777216 ≤ lw w x e ∧ lw w x e ≤ 16777216 := cl_bd (by omega)
theorem mul_bd {a b A B : Int} (ha : -A ≤ a ∧ a ≤ A) (hb : -B ≤ b ∧ b ≤ B) : -(A * B) ≤ a * b ∧ a * b ≤ A * B := by
  have h : (a * b).natAbs ≤ (A * B).natAbs := by
    rw [Int.natAbs_mul, Int.natAbs_mul]
    exact Nat.mul_le_mul (by omega) (by omega)
  have hAB : 0 ≤ A * B := Int.mul_nonneg (by omega) (by omega)
  omega
theorem lw_sign_pos {w x e : Int} (h : 0 ≤ x * e) (hw : -16777216 ≤ w ∧ w ≤ 16777216) : w ≤ lw w x e := by
  unfold lw cl; omega
theorem lw_sign_neg {w x e : Int} (h : x * e ≤ 0) (hw : -16777216 ≤ w ∧ w ≤ 16777216) : lw w x e ≤ w := by
  unfold lw cl; omega
theorem mul_le_left {x a b : Int} (h : 0 ≤ x) (hab : a ≤ b) : x * a ≤ x * b := Int.mul_le_mul_of_nonneg_left hab h
theorem mul_ge_left {x a b : Int} (h : x ≤ 0) (hab : a ≤ b) : x * b ≤ x * a := Int.mul_le_mul_of_nonpos_left h hab
/-- With an error that is not below 0 no share falls, .. -/
theorem lw_up {w x e : Int} (he : 0 ≤ e) (hw : -16777216 ≤ w ∧ w ≤ 16777216) : x * w ≤ x * lw w x e := by
  rcases (by omega : 0 ≤ x ∨ x ≤ 0) with hx | hx
  · exact mul_le_left hx (lw_sign_pos (Int.mul_nonneg hx he) hw)
  · exact mul_ge_left hx (lw_sign_neg (Int.mul_nonpos_of_nonpos_of_nonneg hx he) hw)
/-- .. with one that is not above 0 none rises. -/
theorem lw_down {w x e : Int} (he : e ≤ 0) (hw : -16777216 ≤ w ∧ w ≤ 16777216) : x * lw w x e ≤ x * w := by
  rcases (by omega : 0 ≤ x ∨ x ≤ 0) with hx | hx
  · exact mul_le_left hx (lw_sign_neg (Int.mul_nonpos_of_nonneg_of_nonpos hx he) hw)
  · exact mul_ge_left hx (lw_sign_pos (Int.mul_nonneg_of_nonpos_of_nonpos hx he) hw)

/-- The sum of the first k inputs, each times its weight. -/
def dotTo (I W : Nat → Int) : Nat → Int
  | 0 => 0
  | k + 1 => dotTo I W k + I k * W k
theorem dotTo_bd {I W : Nat → Int} (hI : ∀ k, -2047 ≤ I k ∧ I k ≤ 2047) (hW : ∀ k, -16777216 ≤ W k ∧ W k ≤ 16777216) : ∀ k : Nat, -(34342961152 * (k : Int)) ≤ dotTo I W k ∧ dotTo I W k ≤ 34342961152 * (k : Int)
  | 0 => by simp [dotTo]
  | k + 1 => by
    have h1 := dotTo_bd hI hW k
    have h2 := mul_bd (hI k) (hW k)
    simp only [dotTo]
    omega
theorem dotTo_mono {I W V : Nat → Int} (h : ∀ k, I k * W k ≤ I k * V k) : ∀ k, dotTo I W k ≤ dotTo I V k
  | 0 => by simp [dotTo]
  | k + 1 => by
    have h1 := dotTo_mono h k
    have h2 := h k
    simp only [dotTo]
    omega
theorem dotTo_congr {I J W V : Nat → Int} : ∀ k, (∀ i, i < k → I i = J i ∧ W i = V i) → dotTo I W k = dotTo J V k
  | 0, _ => rfl
  | k + 1, h => by
    have h1 := dotTo_congr (I := I) (J := J) (W := W) (V := V) k (fun i hi => h i (by omega))
    have h2 := h k (by omega)
    simp only [dotTo]
    rw [h1, h2.1, h2.2]

/-- What is told of inputs and weights. -/
def tl (I W : Nat → Int) : Int := sq (dotTo I W 4 / 65536)
theorem tl_bd (I W : Nat → Int) : 1 ≤ tl I W ∧ tl I W ≤ 4095 := sq_bd _
/-- The error. -/
def er (one : Bool) (t : Int) : Int := 7 * ((if one then 4095 else 0) - t)
theorem tl_up {I W : Nat → Int} {t : Int} (ht : 1 ≤ t ∧ t ≤ 4095) (hW : ∀ k, -16777216 ≤ W k ∧ W k ≤ 16777216) : tl I W ≤ tl I fun k => lw (W k) (I k) (er true t) := by
  refine sq_mono (Int.ediv_le_ediv (by omega) (dotTo_mono (fun k => lw_up (by unfold er; simp; omega) (hW k)) 4))
theorem tl_down {I W : Nat → Int} {t : Int} (ht : 1 ≤ t ∧ t ≤ 4095) (hW : ∀ k, -16777216 ≤ W k ∧ W k ≤ 16777216) : tl I (fun k => lw (W k) (I k) (er false t)) ≤ tl I W := by
  refine sq_mono (Int.ediv_le_ediv (by omega) (dotTo_mono (fun k => lw_down (by unfold er; simp; omega) (hW k)) 4))

/-- The inputs that count. -/
def inp (xs : List Int) (k : Nat) : Int := cl (xs.getD k 0) 2047
theorem inp_bd (xs : List Int) (k : Nat) : -2047 ≤ inp xs k ∧ inp xs k ≤ 2047 := cl_bd (by omega)

end Go.Proofs.YtpknbfkknnaajaaDoor

/- The stage's numbers: the steps as they are made (fs), where a chance lies between them (sx), what is told (rd), the nearer step (nr), how a step learns (lr). -/
namespace Go.Proofs.YtpknbfkknnaajaaDoor

/-- A step as it is made. -/
def fs (k : Nat) : Int := 16 * sq (128 * ((k : Int) - 16))
theorem fs_int (k : Nat) : 16 * sq (128 * ((k : Int) - 16)) = fs k := rfl
theorem fs_bd (k : Nat) : 16 ≤ fs k ∧ fs k ≤ 65520 := by
  have := sq_bd (128 * ((k : Int) - 16))
  unfold fs; omega

/-- Where a chance lies. -/
def sx (c : Int) : Nat := (st (pc c) + 2048).toNat
theorem sx_int (c : Int) : st (pc c) + 2048 = ((sx c : Nat) : Int) := by
  have h := pc_bd c
  have := st_bd h.1 h.2
  unfold sx; omega
theorem sx_bd (c : Int) : 1 ≤ sx c ∧ sx c ≤ 4095 := by
  have h := pc_bd c
  have := st_bd h.1 h.2
  unfold sx; omega

/-- What is told between two steps. -/
def mid (a b : Int) (v : Nat) : Int := max ((a * (128 - (v : Int)) + b * (v : Int)) / 2048) 1
theorem mul_in {a e : Int} (ha : 0 ≤ a ∧ a ≤ 65535) (he : 0 ≤ e ∧ e ≤ 128) : 0 ≤ a * e ∧ a * e ≤ 65535 * e :=
  ⟨Int.mul_nonneg ha.1 he.1, Int.mul_le_mul_of_nonneg_right ha.2 he.1⟩
theorem mid_sum {a b : Int} {v : Nat} (ha : 0 ≤ a ∧ a ≤ 65535) (hb : 0 ≤ b ∧ b ≤ 65535) (hv : v < 128) :
    0 ≤ a * (128 - (v : Int)) ∧ a * (128 - (v : Int)) ≤ 8388480 ∧ 0 ≤ b * (v : Int) ∧ b * (v : Int) ≤ 8388480 ∧ a * (128 - (v : Int)) + b * (v : Int) ≤ 8388480 := by
  have h1 := mul_in (e := 128 - (v : Int)) ha (by omega)
  have h2 := mul_in (e := (v : Int)) hb (by omega)
  omega
theorem mid_bd {a b : Int} {v : Nat} (ha : 0 ≤ a ∧ a ≤ 65535) (hb : 0 ≤ b ∧ b ≤ 65535) (hv : v < 128) : 1 ≤ mid a b v ∧ mid a b v ≤ 4095 := by
  have := mid_sum ha hb hv
  unfold mid; omega
theorem mid_int {a b : Int} {v : Nat} : max ((a * (128 - (v : Int)) + b * (v : Int)) / 2048) 1 = mid a b v := rfl
theorem mid_int2 {a b : Int} {v : Nat} (ha : 0 ≤ a ∧ a ≤ 65535) (hb : 0 ≤ b ∧ b ≤ 65535) (hv : v < 128) : max 1 (min ((a * (128 - (v : Int)) + b * (v : Int)) / 2048) 4095) = mid a b v := by
  have := mid_sum ha hb hv
  unfold mid; omega
/-- .. of steps T, where the chance lies at x. -/
def rd (T : Nat → Int) (x : Nat) : Int := mid (T (x / 128)) (T (x / 128 + 1)) (x % 128)
theorem rd_bd {T : Nat → Int} (h : ∀ k, 0 ≤ T k ∧ T k ≤ 65535) (x : Nat) : 1 ≤ rd T x ∧ rd T x ≤ 4095 := mid_bd (h _) (h _) (Nat.mod_lt _ (by omega))

/-- The nearer step. -/
def nr (x : Nat) : Nat := (x + 64) / 128
theorem nr_int (x : Nat) : ((x : Int) + 64) / 128 = ((nr x : Nat) : Int) := by unfold nr; omega
theorem nr_lt {x : Nat} (h : x ≤ 4095) : nr x < 33 := by unfold nr; omega
theorem nr_hi {x : Nat} (h : 64 ≤ x % 128) : nr x = x / 128 + 1 := by unfold nr; omega
theorem nr_lo {x : Nat} (h : x % 128 < 64) : nr x = x / 128 := by unfold nr; omega

/-- A step that learns. -/
def lr (one : Bool) (k : Nat) (p : Int) : Int := p + ((if one then 65535 else 0) - p) / 2 ^ k
theorem lr_one (k : Nat) (p : Int) : lr true k p = p + (65535 - p) / 2 ^ k := rfl
theorem lr_zero (k : Nat) (p : Int) : lr false k p = p + (0 - p) / 2 ^ k := rfl
theorem two_pos (k : Nat) : (1 : Int) ≤ 2 ^ k := by
  have : 1 ≤ 2 ^ k := Nat.one_le_two_pow
  exact_mod_cast this
theorem shr_bd {a : Int} (k : Nat) : (0 ≤ a → 0 ≤ a / 2 ^ k ∧ a / 2 ^ k ≤ a) ∧ (a ≤ 0 → a ≤ a / 2 ^ k ∧ a / 2 ^ k ≤ 0) := by
  have h1 := two_pos k
  generalize (2 : Int) ^ k = d at *
  refine ⟨fun h => ⟨Int.ediv_nonneg h (by omega), Int.ediv_le_self _ h⟩, fun h => ⟨?_, ?_⟩⟩
  · rw [Int.le_ediv_iff_mul_le (by omega)]
    have : a * d ≤ a * 1 := Int.mul_le_mul_of_nonpos_left h h1
    omega
  · have : a / d < 1 := by rw [Int.ediv_lt_iff_lt_mul (by omega)]; omega
    omega
theorem lr_bd {p : Int} (one : Bool) (k : Nat) (h : 0 ≤ p ∧ p ≤ 65535) : 0 ≤ lr one k p ∧ lr one k p ≤ 65535 := by
  cases one
  · rw [lr_zero]
    have := (shr_bd (a := 0 - p) k).2 (by omega)
    omega
  · rw [lr_one]
    have := (shr_bd (a := 65535 - p) k).1 (by omega)
    omega

/-- A stage that has learnt nothing tells about what it is told. -/
def fsOK (p : Nat) : Bool := decide (rd fs (sx (p : Nat)) - (p : Int) ≤ 160 ∧ (p : Int) - rd fs (sx (p : Nat)) ≤ 160)
theorem fsOK_all : ∀ a, a < 64 → ∀ b, b < 64 → 1 ≤ 64 * a + b → fsOK (64 * a + b) = true := by decide +kernel
theorem fs_near {p : Nat} (h1 : 1 ≤ p) (h2 : p ≤ 4095) : rd fs (sx (p : Nat)) - (p : Int) ≤ 160 ∧ (p : Int) - rd fs (sx (p : Nat)) ≤ 160 := by
  have h := fsOK_all (p / 64) (by omega) (p % 64) (by omega) (by omega)
  rw [show 64 * (p / 64) + p % 64 = p by omega] at h
  exact of_decide_eq_true h

/-- How many contexts. -/
def nc (n : Int) : Nat := (min (max n 1) 1024).toNat
theorem nc_int (n : Int) : min (max n 1) 1024 = ((nc n : Nat) : Int) := by unfold nc; omega
theorem nc_int2 (n : Int) : max 1 (min n 1024) = ((nc n : Nat) : Int) := by unfold nc; omega
theorem nc_bd (n : Int) : 1 ≤ nc n ∧ nc n ≤ 1024 := by unfold nc; omega

end Go.Proofs.YtpknbfkknnaajaaDoor

/- Whole arrays out of a block and into one; copy into a block that is known whole; make whose cells are known. -/
namespace Go.Proofs.YtpknbfkknnaajaaDoor
open Go.RowKit

section
variable {P : Program} {w : World}
theorem Blk.rowed {g : Nat} {t : TypeId} {cs cs' : Array Value} (h : Blk w g t cs) : Blk (w.setRow g cs') g t cs' := by
  unfold Blk at h ⊢
  simp [World.setRow, Array.getElem?_modify, h]
theorem Kept.rowed {S : Nat → Prop} {a : World} (h : Kept S a w) {g : Nat} (cs : Array Value) (hg : g < a.heap.size → S g) : Kept S a (w.setRow g cs) :=
  ⟨h.os, h.tape, h.output, by simpa [World.setRow] using h.size, fun i hi hn => by
    have hne : g ≠ i := by rintro rfl; exact hn (hg hi)
    rw [← h.block i hi hn]
    simp [World.setRow, Array.getElem?_modify, hne]⟩

/-- The whole array that a block is. -/
theorem run_loadAt_blk {g n : Nat} {t ty e : TypeId} {cs : Array Value} (h : Blk w g t cs) (hu : P.underlying ty = some (.array n e)) (hi : (P.info? ty).map (·.size) = some cs.size) :
    (Instr.loadAt ty (.pointer (some ⟨g, 0, none⟩))).run P w = .ok (.agg cs) w := by
  simp only [Instr.loadAt, Instr.sureAddr, Sem.run_bind, Sem.run_pure, Result.andThen]
  exact run_loadVar_row _ _ _ _ cs (0, 0) _ h hu rfl hi
theorem run_loadVar_blk {g n : Nat} {t ty e : TypeId} {cs : Array Value} (h : Blk w g t cs) (hu : P.underlying ty = some (.array n e)) (hi : (P.info? ty).map (·.size) = some cs.size) :
    (loadVar ty ⟨g, 0, none⟩).run P w = .ok (.agg cs) w :=
  run_loadVar_row _ _ _ _ cs (0, 0) _ h hu rfl hi
theorem run_storeAt_blk {g : Nat} {t ty : TypeId} {cs cs' : Array Value} (h : Blk w g t cs) (hi : (P.info? ty).map (·.size) = some cs'.size) (hs : cs.size = cs'.size) (h1 : cs'.all (·.oneCell') = true) :
    (Instr.storeAt ty (.pointer (some ⟨g, 0, none⟩)) (.agg cs')).run P w = .ok () (w.setRow g cs') := by
  simp only [Instr.storeAt, Instr.sureAddr, Sem.run_bind, Sem.run_pure, Result.andThen]
  exact run_storeVar_row _ _ _ _ cs cs' h hi hs h1

/-- .. into the middle of one. -/
theorem run_storeAt_in {g o : Nat} {t ty : TypeId} {cur cs' : Array Value} (h : Blk w g t cur) (hi : (P.info? ty).map (·.size) = some cs'.size) (hfit : o + cs'.size ≤ cur.size) (h1 : cs'.all (·.oneCell') = true) :
    (Instr.storeAt ty (.pointer (some ⟨g, o, none⟩)) (.agg cs')).run P w = .ok () (w.setRow g (cur.toList.take o ++ cs'.toList ++ cur.toList.drop (o + cs'.size)).toArray) := by
  simp only [Instr.storeAt, Instr.sureAddr, Sem.run_bind, Sem.run_pure, Result.andThen]
  have := run_storeCells_at (P := P) g o t cs'.toList 0 cur w h (by simpa using hfit) (fun v hv => (Array.all_eq_true_iff_forall_mem.1 h1) v (by simpa using hv))
  cases hq : P.info? ty with
  | none => simp [hq] at hi
  | some i =>
    have hs : cs'.size = i.size := by simp [hq] at hi; omega
    simp [storeVar, sizeOf, typeInfo, hq, Value.cells, hs, this]

theorem wpList_load_eq {ops : Array Oper} {rest : List Oper} {o : Oper} {a : Act} {Q : Exit → Act → World → Prop} (hgd : o.guard = none) (x : Operand) (t : TypeId) (ho : o.op = .load t x) (p v : Value) (hx : a.eval x = p)
    (hl : (Instr.loadAt t p).run P w = .ok v w) (h : wpList P ops Q rest (a.put o.dst v) w) : wpList P ops Q (o :: rest) a w := by
  refine wpList_plain hgd fun K hK => ?_
  unfold Oper.wp execOp
  simp only [ho, Sem.run_bind, Sem.run_pure, hx, hl, Result.andThen_ok]
  exact hK _ _ h
/-- .. behind go_still_tail. -/
theorem wpStill_load_eq {ops : Array Oper} {rest : List Oper} {o : Oper} {a : Act} {Q : Act → Prop} (hgd : o.guard = none) (x : Operand) (t : TypeId) (ho : o.op = .load t x) (p v : Value) (hx : a.eval x = p)
    (hl : (Instr.loadAt t p).run P w = .ok v w) (h : wpStill P ops w Q rest (a.put o.dst v)) : wpStill P ops w Q (o :: rest) a := by
  refine wpStill_step fun K hK => ?_
  have hw : Region.wanted o (yielded ops a.tmps) = true := by unfold Region.wanted; rw [hgd]
  rw [if_pos hw]
  unfold Oper.still execOp
  simp only [ho, Sem.run_bind, Sem.run_pure, hx, hl, Result.andThen_ok, Oper.stillUpon]
  exact ⟨trivial, hK _ h⟩
theorem wpList_store_eq {w' : World} {ops : Array Oper} {rest : List Oper} {o : Oper} {a : Act} {Q : Exit → Act → World → Prop} (hgd : o.guard = none) (x y : Operand) (t : TypeId) (ho : o.op = .store t x y) (p v : Value) (hx : a.eval x = p) (hy : a.eval y = v)
    (hl : (Instr.storeAt t p v).run P w = .ok () w') (h : wpList P ops Q rest (a.put o.dst undef) w') : wpList P ops Q (o :: rest) a w := by
  refine wpList_plain hgd fun K hK => ?_
  unfold Oper.wp execOp
  simp only [ho, Sem.run_bind, Sem.run_pure, hx, hy, hl, Result.andThen_ok]
  exact hK _ _ h

/-- Numbers laid over numbers, from a place on. -/
theorem toArray_all {cs : List Value} (h : ∀ v ∈ cs, v.oneCell' = true) : cs.toArray.all (·.oneCell') = true := by
  rw [Array.all_eq_true_iff_forall_mem]
  intro u hu
  exact h u (by simpa using hu)

/-- copy of numbers that lie anywhere (none of a nil slice) into a block of numbers that is known whole. -/
theorem wpList_copy_nums {ops : Array Oper} {rest : List Oper} {o : Oper} {a : Act} {Q : Exit → Act → World → Prop} (hgd : o.guard = none) (d s : Operand) (dT sT : TypeId)
    (ho : o.op = .call { callee := .builtin .copy, args := #[d, s], argTypes := #[dT, sT] }) (elem : TypeId) (hu : P.underlying dT = some (.slice elem)) (hsz : (P.info? elem).map (·.size) = some 1)
    (k : IntKind) (g off dLen dCap m c : Nat) (A : Option Addr) (xs cur : List Int) (t : TypeId) (hd : a.eval d = .slice (some ⟨g, off, none⟩) dLen dCap) (hs : a.eval s = .slice A m c)
    (hg : Blk w g t (ivs k cur).toArray) (hr : Row w k A m xs) (hfit : off + dLen ≤ cur.length)
    (h : ∀ w', Blk w' g t (ivs k (splice cur off (xs.take dLen))).toArray → Kept (fun i => i = g) w w' → wpList P ops Q rest (a.put o.dst (.int .i64 ((min m dLen : Nat) : Int))) w') :
    wpList P ops Q (o :: rest) a w := by
  have hlen : (xs.take dLen).length = min m dLen := by rw [List.length_take, hr.len, Nat.min_comm]
  rcases Nat.eq_zero_or_pos (min m dLen) with h0 | h0
  · refine wpList_copy_nothing hgd d s dT sT ho elem hu hsz _ _ dLen dCap m c hd hs (by simpa using h0) ?_
    have := h w (by
      have e : xs.take dLen = [] := List.eq_nil_of_length_eq_zero (by omega)
      rw [e]
      simpa [splice] using hg) (Kept.refl _ _)
    rw [h0] at this
    exact this
  · obtain ⟨b, o', e, _, _⟩ := hr.at_ 0 (by omega)
    subst e
    have hfit' : off + (xs.take dLen).length ≤ cur.length := by omega
    refine wpList_copy_own hgd d s dT sT ho elem hu hsz g off dLen dCap ⟨b, o', none⟩ m c hd hs _ t hg (ivs k (xs.take dLen)) (by rw [ivs_length, hlen]) ?_ (by simp only [List.size_toArray, ivs_length]; exact hfit') (ivs_one _ _) ?_
    · intro j v hv
      have hj : j < (xs.take dLen).length := by
        have := (List.getElem?_eq_some_iff.1 hv).1
        simpa [ivs] using this
      have h2 := hr.news j v (by
        rw [ivs_get (by rw [hr.len]; omega)]
        rw [ivs_get hj] at hv
        rw [← hv]
        have : j < dLen := by omega
        simp [List.getD, this])
      exact h2
    · rw [ivs_length, hlen]
      refine h _ ?_ ((Kept.refl _ _).rowed _ (fun _ => rfl))
      have e : ((ivs k cur).toArray.toList.take off ++ (ivs k (xs.take dLen) ++ (ivs k cur).toArray.toList.drop (off + min m dLen))).toArray = (ivs k (splice cur off (xs.take dLen))).toArray := by
        simp [splice, ivs, hlen]
      rw [← e]
      exact hg.rowed
end

/-- The cells of a slice that was made now. -/
theorem Blk.of_made {w : World} {e : TypeId} {g n size : Nat} {vs : List Value} (h : w.ownsRow 0 e size (.slice (some ⟨g, 0, none⟩) n n) n vs) : Blk w g e vs.toArray := by
  rcases h.2 with ⟨h', _⟩ | ⟨g', cap', cur, h', _, hg, _, _, hcs, ht⟩
  · simp at h'
  · simp only [Value.slice.injEq, Option.some.injEq, Addr.mk.injEq, and_true, true_and] at h'
    obtain ⟨rfl, rfl⟩ := h'
    have e : cur = vs.toArray := by
      apply Array.ext'
      rw [← ht, List.take_of_length_le (by simp [hcs])]
    rw [← e]
    exact hg

theorem wpList_make_blk {P : Program} (w : World) {ops : Array Oper} {rest : List Oper} {o : Oper} {a : Act} {Q : Exit → Act → World → Prop}
    (hg : o.guard = none) (l c : Operand) (t : TypeId) (hop : o.op = Op.makeSlice t l c)
    (e : TypeId) (i : TypeInfo) (z : Value) (size : Nat) (h1 : P.underlying t = some (.slice e)) (h2 : P.info? e = some i) (h3 : i.zero = some z) (h4 : i.size = size)
    (kl kc : IntKind) (L C : Int) (n : Nat) (hl : a.eval l = .int kl L) (hc : a.eval c = .int kc C) (hL : L = (n : Int)) (hC : C = (n : Int)) (b2 : i.bytes * n ≤ 281474976710656) (b3 : n ≤ maxLen)
    (hK : ∀ w', Blk w' w.heap.size e (madeCells z.cells (n * size)) → Fresh w w' → wpList P ops Q rest (a.put o.dst (.slice (some ⟨w.heap.size, 0, none⟩) n n)) w') :
    wpList P ops Q (o :: rest) a w := by
  refine wpList_make_full w hg l c t hop 0 e i z size h1 h2 h3 h4 kl kc L C n hl hc hL hC b2 b3 (by omega) ?_
  intro w' ho hgr
  have hb := Blk.of_made ho
  exact hK w' (by simpa using hb) ((Kept.refl _ _).grown hgr (fun k e _ => by cases e))

end Go.Proofs.YtpknbfkknnaajaaDoor
