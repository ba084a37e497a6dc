/- Plain mathematics of the sums: one halving step (st), eight and more of them (itn), a byte taken in (upd), a text taken in (run), the sum (crcOf); linear, one to one, and what turned bits make of it. -/
import Derived.Test.YtfaoolkhepihkaaRows
namespace Go.Proofs.Ytfaoolkhepihkaa

/-- One halving, with the polynomial turned in where a one was shifted out. -/
def st (s : Nat) : Nat := s / 2 ^^^ (if s % 2 = 1 then 3988292384 else 0)
def itn : Nat → Nat → Nat
  | 0, s => s
  | k + 1, s => st (itn k s)

theorem st_lt {s : Nat} (h : s < 4294967296) : st s < 4294967296 := by
  unfold st
  refine Nat.xor_lt_two_pow (n := 32) (by omega) ?_
  split <;> omega
theorem itn_lt {s : Nat} (h : s < 4294967296) : ∀ k, itn k s < 4294967296
  | 0 => h
  | k + 1 => st_lt (itn_lt h k)
theorem st_even {s : Nat} (h : s % 2 = 0) : st s = s / 2 := by unfold st; rw [if_neg (by omega), Nat.xor_zero]
theorem st_odd {s : Nat} (h : s % 2 = 1) : st s = s / 2 ^^^ 3988292384 := by unfold st; rw [if_pos h]
theorem xor_div2 (a b : Nat) : (a ^^^ b) / 2 = a / 2 ^^^ b / 2 := Nat.xor_div_two
theorem xor_mod2 (a b : Nat) : (a ^^^ b) % 2 = (a % 2 + b % 2) % 2 := by
  have h := @Nat.xor_mod_two_eq_one a b
  by_cases e : (a ^^^ b) % 2 = 1
  · have := h.1 e; omega
  · have : ¬ ¬ (a % 2 = 1 ↔ b % 2 = 1) := fun k => e (h.2 k)
    omega
theorem st_xor (a b : Nat) : st (a ^^^ b) = st a ^^^ st b := by
  have h := xor_mod2 a b
  have ha : a % 2 = 0 ∨ a % 2 = 1 := by omega
  have hb : b % 2 = 0 ∨ b % 2 = 1 := by omega
  rcases ha with ha | ha <;> rcases hb with hb | hb
  · rw [st_even (by omega), st_even ha, st_even hb, xor_div2]
  · rw [st_odd (by omega), st_even ha, st_odd hb, xor_div2, Nat.xor_assoc]
  · rw [st_odd (by omega), st_odd ha, st_even hb, xor_div2, Nat.xor_assoc, Nat.xor_assoc, Nat.xor_comm (b / 2)]
  · rw [st_even (by omega), st_odd ha, st_odd hb, xor_div2]
    rw [Nat.xor_assoc, ← Nat.xor_assoc 3988292384, Nat.xor_comm 3988292384 (b / 2), Nat.xor_assoc (b / 2), Nat.xor_self, Nat.xor_zero]
theorem st_zero : st 0 = 0 := by decide
theorem itn_xor (a b : Nat) : ∀ k, itn k (a ^^^ b) = itn k a ^^^ itn k b
  | 0 => rfl
  | k + 1 => by simp only [itn]; rw [itn_xor a b k, st_xor]
theorem itn_zero : ∀ k, itn k 0 = 0
  | 0 => rfl
  | k + 1 => by simp only [itn]; rw [itn_zero k, st_zero]
theorem itn_add (a s : Nat) : ∀ b, itn (b + a) s = itn b (itn a s)
  | 0 => by rw [Nat.zero_add]; rfl
  | b + 1 => by rw [show b + 1 + a = (b + a) + 1 by omega]; simp only [itn]; rw [itn_add a s b]
theorem xor_eq_zero {a b : Nat} (h : a ^^^ b = 0) : a = b := by
  have : (a ^^^ b) ^^^ b = a := by rw [Nat.xor_assoc, Nat.xor_self, Nat.xor_zero]
  rw [h, Nat.zero_xor] at this
  exact this.symm
theorem st_null {s : Nat} (h : s < 4294967296) (e : st s = 0) : s = 0 := by
  have hs : s % 2 = 0 ∨ s % 2 = 1 := by omega
  rcases hs with hs | hs
  · rw [st_even hs] at e; omega
  · rw [st_odd hs] at e
    have := xor_eq_zero e
    omega
theorem itn_null {s : Nat} (h : s < 4294967296) : ∀ k, itn k s = 0 → s = 0
  | 0, e => e
  | k + 1, e => itn_null h k (st_null (itn_lt h k) e)

/-- Eight zero bits below are shifted out. -/
theorem itn_low (k : Nat) : ∀ s, s % 2 ^ k = 0 → itn k s = s / 2 ^ k := by
  induction k with
  | zero => intro s _; simp [itn]
  | succ k ih =>
    intro s h
    have h1 : s % 2 ^ k = 0 := by
      have : 2 ^ k ∣ s := Nat.dvd_trans ⟨2, by rw [Nat.pow_succ]⟩ (Nat.dvd_of_mod_eq_zero h)
      exact Nat.mod_eq_zero_of_dvd this
    simp only [itn]
    rw [ih s h1]
    have h2 : s / 2 ^ k % 2 = 0 := by
      obtain ⟨q, hq⟩ := Nat.dvd_of_mod_eq_zero h
      rw [hq, Nat.pow_succ, Nat.mul_assoc, Nat.mul_div_cancel_left _ (Nat.pow_pos (by decide)), Nat.mul_mod_right]
    rw [st_even h2, Nat.div_div_eq_div_mul, Nat.pow_succ]

theorem split8 (s : Nat) : s = s / 256 * 256 ^^^ s % 256 := by
  apply Nat.eq_of_testBit_eq
  intro i
  rw [Nat.testBit_xor]
  have e1 : s / 256 * 256 = (s / 2 ^ 8) * 2 ^ 8 := rfl
  have e2 : s % 256 = s % 2 ^ 8 := rfl
  rw [e1, e2, Nat.testBit_mod_two_pow, Nat.testBit_mul_two_pow, Nat.testBit_div_two_pow]
  by_cases h : i < 8
  · have : ¬ 8 ≤ i := by omega
    simp [h, this]
  · have h' : 8 ≤ i := by omega
    simp [h, h']

/-- A byte taken in: by bits. -/
def upd (s v : Nat) : Nat := itn 8 (s ^^^ v)

/-- .. as the table tells it. -/
theorem upd_table (s v : Nat) : upd s v = s / 256 ^^^ itn 8 (s % 256 ^^^ v) := by
  have h1 : s ^^^ v = s / 256 * 256 ^^^ (s % 256 ^^^ v) := by
    rw [← Nat.xor_assoc, ← split8]
  unfold upd
  rw [h1, itn_xor]
  congr 1
  rw [itn_low 8 _ (by omega)]
  omega

/-- .. bit by bit: what is left of the byte behind k bits is taken in ahead. -/
theorem st_bit (s v : Nat) : st (s ^^^ v) = st (s ^^^ v % 2) ^^^ v / 2 := by
  have h : s ^^^ v = (s ^^^ v % 2) ^^^ (v / 2 * 2) := by
    rw [Nat.xor_assoc]
    congr 1
    apply Nat.eq_of_testBit_eq
    intro i
    rw [Nat.testBit_xor]
    have e1 : v / 2 * 2 = (v / 2 ^ 1) * 2 ^ 1 := rfl
    have e2 : v % 2 = v % 2 ^ 1 := rfl
    rw [e1, e2, Nat.testBit_mod_two_pow, Nat.testBit_mul_two_pow, Nat.testBit_div_two_pow]
    by_cases h : i < 1
    · have : ¬ 1 ≤ i := by omega
      simp [h, this]
    · have h' : 1 ≤ i := by omega
      simp [h, h']
  rw [h, st_xor, st_even (s := v / 2 * 2) (by omega)]
  congr 1
  omega

/-- The register behind k bits of a byte. -/
def bitn (s v : Nat) : Nat → Nat
  | 0 => s
  | k + 1 => st (bitn s v k ^^^ v / 2 ^ k % 2)
theorem bitn_all (s v : Nat) : ∀ k, itn k (s ^^^ v) = bitn s v k ^^^ v / 2 ^ k
  | 0 => by simp [itn, bitn]
  | k + 1 => by
    simp only [itn, bitn]
    rw [bitn_all s v k, st_bit, Nat.div_div_eq_div_mul, Nat.pow_succ]
theorem bitn8 {s v : Nat} (hv : v < 256) : bitn s v 8 = upd s v := by
  unfold upd
  rw [bitn_all, show v / 2 ^ 8 = 0 by omega, Nat.xor_zero]
theorem bitn_lt {s v : Nat} (h : s < 4294967296) : ∀ k, bitn s v k < 4294967296
  | 0 => h
  | k + 1 => by
    simp only [bitn]
    exact st_lt (Nat.xor_lt_two_pow (n := 32) (bitn_lt h k) (by omega))

theorem upd_lt {s v : Nat} (h : s < 4294967296) (hv : v < 256) : upd s v < 4294967296 :=
  itn_lt (Nat.xor_lt_two_pow (n := 32) h (by omega)) 8

/-- A text taken in. -/
def run (s : Nat) (xs : List Int) : Nat := xs.foldl (fun s x => upd s x.toNat) s
def Byt (xs : List Int) : Prop := ∀ x ∈ xs, 0 ≤ x ∧ x < 256
theorem Byt.take {xs : List Int} (h : Byt xs) (k : Nat) : Byt (xs.take k) := fun x hx => h x (List.mem_of_mem_take hx)
theorem Byt.at_ {xs : List Int} (h : Byt xs) {k : Nat} (hk : k < xs.length) : 0 ≤ xs.getD k 0 ∧ xs.getD k 0 < 256 := by
  have e : xs.getD k 0 = xs[k] := by simp [List.getD, hk]
  rw [e]
  exact h _ (List.getElem_mem hk)
theorem Byt.append {xs ys : List Int} (h : Byt xs) (h' : Byt ys) : Byt (xs ++ ys) := fun x hx => by
  rcases List.mem_append.1 hx with e | e
  · exact h x e
  · exact h' x e
theorem run_lt : ∀ {xs : List Int} {s : Nat}, s < 4294967296 → Byt xs → run s xs < 4294967296
  | [], _, h, _ => h
  | x :: r, s, h, hb => by
    have hx := hb x (by simp)
    exact run_lt (xs := r) (upd_lt h (by omega)) (fun y hy => hb y (by simp [hy]))
theorem run_take {s : Nat} {xs : List Int} {k : Nat} (hk : k < xs.length) : run s (xs.take (k + 1)) = upd (run s (xs.take k)) (xs.getD k 0).toNat := by
  rw [List.take_succ_eq_append_getElem hk]
  simp [run, List.getD, hk, -List.take_append_getElem]
theorem run_append (s : Nat) (xs ys : List Int) : run s (xs ++ ys) = run (run s xs) ys := by simp [run]

def inv (s : Nat) : Nat := s ^^^ 4294967295
theorem inv_lt {s : Nat} (h : s < 4294967296) : inv s < 4294967296 := Nat.xor_lt_two_pow (n := 32) h (by omega)
theorem inv_inv (s : Nat) : inv (inv s) = s := by unfold inv; rw [Nat.xor_assoc, Nat.xor_self, Nat.xor_zero]

/-- The sum of what has that sum, and a text behind it. -/
def crcOf (sum : Nat) (xs : List Int) : Nat := inv (run (inv sum) xs)
theorem crcOf_lt {sum : Nat} {xs : List Int} (h : sum < 4294967296) (hb : Byt xs) : crcOf sum xs < 4294967296 := inv_lt (run_lt (inv_lt h) hb)
theorem crcOf_append (sum : Nat) (xs ys : List Int) : crcOf sum (xs ++ ys) = crcOf (crcOf sum xs) ys := by
  unfold crcOf; rw [inv_inv, run_append]
theorem crcOf_nil (sum : Nat) : crcOf sum [] = sum := by unfold crcOf; simp [run, inv_inv]
theorem crc_example : crcOf 0 [49, 50, 51, 52, 53, 54, 55, 56, 57] = 3421780262 := by decide +kernel

end Go.Proofs.Ytfaoolkhepihkaa
