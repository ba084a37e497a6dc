/- Colours, as plain mathematics: pixels by their green, columns apart, and back. -/
import Derived.Test.YtbbkdgbgfncjaaaTraMath
namespace Go.Proofs.Ytbbkdgbgfncjaaa
open Go.RowKit
set_option maxRecDepth 100000

theorem bs_ext {xs ys : List Int} (hl : xs.length = ys.length) (h : ∀ i, i < xs.length → xs.getD i 0 = ys.getD i 0) : xs = ys := by
  apply List.ext_getElem hl
  intro i h1 h2
  have := h i h1
  simpa [List.getD, h1, h2] using this

/-- Pixels turned (s = -1), or back (s = 1): at place i. -/
def trv (s : Int) (bs : List Int) (i : Nat) : Int :=
  if i / 3 * 3 + 3 ≤ bs.length then (if i % 3 = 0 then (bs.getD i 0 + s * bs.getD (i + 1) 0) % 256 else if i % 3 = 2 then (bs.getD i 0 + s * bs.getD (i - 1) 0) % 256 else bs.getD i 0) else bs.getD i 0
def trn (s : Int) (bs : List Int) : List Int := tn bs.length (trv s bs)
/-- .. the first q pixels alone. -/
def trnTo (s : Int) (bs : List Int) (q : Nat) : List Int := tn bs.length fun i => if i < 3 * q then trv s bs i else bs.getD i 0
theorem trn_length (s : Int) (bs : List Int) : (trn s bs).length = bs.length := tn_length _ _
theorem trnTo_length (s : Int) (bs : List Int) (q : Nat) : (trnTo s bs q).length = bs.length := tn_length _ _
theorem trnTo_zero (s : Int) (bs : List Int) : trnTo s bs 0 = bs := (tn_ext rfl fun i _ => by rw [if_neg (by omega)]).symm
theorem trnTo_all (s : Int) (bs : List Int) : trnTo s bs (bs.length / 3) = trn s bs := by
  unfold trn trnTo tn
  apply List.map_congr_left
  intro i hi
  have hi := List.mem_range.1 hi
  by_cases h : i < 3 * (bs.length / 3)
  · rw [if_pos h]
  · rw [if_neg h, trv, if_neg (by omega)]
theorem trnTo_next {s : Int} {bs : List Int} {q : Nat} (h : 3 * q + 3 ≤ bs.length) :
    ((trnTo s bs q).set (3 * q) ((bs.getD (3 * q) 0 + s * bs.getD (3 * q + 1) 0) % 256)).set (3 * q + 2) ((bs.getD (3 * q + 2) 0 + s * bs.getD (3 * q + 1) 0) % 256) = trnTo s bs (q + 1) := by
  refine tn_ext (by simp [trnTo_length]) fun i hi => ?_
  by_cases h2 : i = 3 * q + 2
  · subst h2
    rw [if_pos (by omega), trv, if_pos (by omega), if_neg (by omega), if_pos (by omega)]
    simp [List.getD, trnTo_length, hi]
  · by_cases h0 : i = 3 * q
    · subst h0
      rw [if_pos (by omega), trv, if_pos (by omega), if_pos (by omega)]
      simp [List.getD, trnTo_length, hi]
    · have e : (((trnTo s bs q).set (3 * q) ((bs.getD (3 * q) 0 + s * bs.getD (3 * q + 1) 0) % 256)).set (3 * q + 2) ((bs.getD (3 * q + 2) 0 + s * bs.getD (3 * q + 1) 0) % 256)).getD i 0 = (trnTo s bs q).getD i 0 := by
        simp only [List.getD]
        rw [List.getElem?_set_ne (by omega), List.getElem?_set_ne (by omega)]
      rw [e, trnTo, tn_getD hi]
      by_cases h3 : i < 3 * q
      · rw [if_pos h3, if_pos (by omega)]
      · rw [if_neg h3]
        by_cases h4 : i < 3 * (q + 1)
        · rw [if_pos h4, trv, if_pos (by omega), if_neg (by omega), if_neg (by omega)]
        · rw [if_neg h4]
/-- .. by the place. -/
theorem trnTo_step {s : Int} {bs : List Int} {p : Nat} (h3 : p % 3 = 0) (h : p + 3 ≤ bs.length) :
    ((trnTo s bs (p / 3)).set p ((bs.getD p 0 + s * bs.getD (p + 1) 0) % 256)).set (p + 2) ((bs.getD (p + 2) 0 + s * bs.getD (p + 1) 0) % 256) = trnTo s bs ((p + 3) / 3) := by
  have e : p = 3 * (p / 3) := by omega
  have := trnTo_next (s := s) (bs := bs) (q := p / 3) (by omega)
  rw [← e, show p / 3 + 1 = (p + 3) / 3 by omega] at this
  exact this
theorem trn_byte {s : Int} {bs : List Int} (h : B8 bs) : B8 (trn s bs) := fun x hx => by
  unfold trn tn at hx
  simp only [List.mem_map, List.mem_range] at hx
  obtain ⟨i, hi, rfl⟩ := hx
  have h1 := h.at_ i
  unfold trv
  split
  · split
    · omega
    · split
      · omega
      · exact h1
  · exact h1
/-- Turned there and back it is as it was, in both orders. -/
theorem trn_trn {s : Int} {bs : List Int} (h : B8 bs) (hs : s = 1 ∨ s = -1) : trn (-s) (trn s bs) = bs := by
  refine bs_ext (by rw [trn_length, trn_length]) fun i hi => ?_
  rw [trn_length, trn_length] at hi
  have h1 := h.at_ i
  rw [trn, tn_getD (by rw [trn_length]; exact hi), trv]
  simp only [trn_length]
  have hg : (trn s bs).getD i 0 = trv s bs i := tn_getD hi
  rw [hg]
  by_cases hin : i / 3 * 3 + 3 ≤ bs.length
  · rw [if_pos hin]
    by_cases h0 : i % 3 = 0
    · have hg1 : (trn s bs).getD (i + 1) 0 = bs.getD (i + 1) 0 := by
        rw [trn, tn_getD (by omega), trv, if_pos (by omega), if_neg (by omega), if_neg (by omega)]
      rw [if_pos h0, hg1, trv, if_pos hin, if_pos h0]
      rcases hs with rfl | rfl <;> omega
    · by_cases h2 : i % 3 = 2
      · have hg1 : (trn s bs).getD (i - 1) 0 = bs.getD (i - 1) 0 := by
          rw [trn, tn_getD (by omega), trv, if_pos (by omega), if_neg (by omega), if_neg (by omega)]
        rw [if_neg h0, if_pos h2, hg1, trv, if_pos hin, if_neg h0, if_pos h2]
        rcases hs with rfl | rfl <;> omega
      · rw [if_neg h0, if_neg h2, trv, if_pos hin, if_neg h0, if_neg h2]
  · rw [if_neg hin, trv, if_neg hin]

/-- Rows of m numbers, one behind the other. -/
def fls (m : Nat) (f : Nat → Nat → Int) : Nat → List Int
  | 0 => []
  | k + 1 => fls m f k ++ tn m (f k)
theorem fls_length (m : Nat) (f : Nat → Nat → Int) : ∀ k, (fls m f k).length = k * m
  | 0 => by simp [fls]
  | k + 1 => by rw [fls, List.length_append, fls_length m f k, tn_length, Nat.succ_mul]
theorem fls_getD (m : Nat) (f : Nat → Nat → Int) : ∀ K k i, k < K → i < m → (fls m f K).getD (k * m + i) 0 = f k i
  | K + 1, k, i, hk, hi => by
    rw [fls]
    rcases Nat.lt_or_ge k K with h | h
    · have h1 : k * m + i < (fls m f K).length := by
        rw [fls_length]
        have := Nat.mul_le_mul_right m (show k + 1 ≤ K from h)
        rw [Nat.add_mul, Nat.one_mul] at this
        omega
      rw [← fls_getD m f K k i h hi]
      simp only [List.getD]
      rw [List.getElem?_append_left h1]
    · obtain rfl : k = K := by omega
      simp only [List.getD]
      rw [List.getElem?_append_right (by rw [fls_length]; omega), fls_length, Nat.add_sub_cancel_left]
      exact tn_getD hi
/-- Rows that are a list's own. -/
theorem fls_take (m : Nat) (bs : List Int) : ∀ K, K * m ≤ bs.length → fls m (fun k i => bs.getD (k * m + i) 0) K = bs.take (K * m)
  | 0, _ => by simp [fls]
  | K + 1, h => by
    rw [Nat.add_mul, Nat.one_mul] at h
    rw [fls, fls_take m bs K (by omega), Nat.add_mul, Nat.one_mul, List.take_add]
    congr 1
    refine (tn_ext (by rw [List.length_take, List.length_drop]; omega) fun i hi => ?_).symm
    simp [List.getD, List.getElem?_drop, hi]
theorem fls_congr {m : Nat} {f g : Nat → Nat → Int} : ∀ K, (∀ k i, k < K → i < m → f k i = g k i) → fls m f K = fls m g K
  | 0, _ => rfl
  | K + 1, h => by
    rw [fls, fls, fls_congr K (fun k i hk hi => h k i (by omega) hi)]
    congr 1
    unfold tn
    apply List.map_congr_left
    intro i hi
    exact h K i (by omega) (List.mem_range.1 hi)

/-- How many columns. -/
def colC (n : Int) : Nat := (max 1 (min n 16)).toNat
theorem colC_in (n : Int) : 1 ≤ colC n ∧ colC n ≤ 16 ∧ (colC n : Int) = max 1 (min n 16) := by unfold colC; omega
/-- Columns apart, and together, c of them. -/
def aprt (bs : List Int) (c : Nat) : List Int := fls (bs.length / c) (fun k i => bs.getD (i * c + k) 0) c ++ bs.drop (bs.length / c * c)
def tgth (bs : List Int) (c : Nat) : List Int := fls c (fun i k => bs.getD (k * (bs.length / c) + i) 0) (bs.length / c) ++ bs.drop (bs.length / c * c)
theorem aprt_length (bs : List Int) (c : Nat) : (aprt bs c).length = bs.length := by
  rw [aprt, List.length_append, fls_length, List.length_drop, Nat.mul_comm]
  have := Nat.div_mul_le_self bs.length c
  omega
theorem tgth_length (bs : List Int) (c : Nat) : (tgth bs c).length = bs.length := by
  rw [tgth, List.length_append, fls_length, List.length_drop]
  have := Nat.div_mul_le_self bs.length c
  omega
theorem getD_left {xs ys : List Int} {i : Nat} (h : i < xs.length) : (xs ++ ys).getD i 0 = xs.getD i 0 := by
  simp only [List.getD]
  rw [List.getElem?_append_left h]
theorem aprt_at {bs : List Int} {c k i : Nat} (hk : k < c) (hi : i < bs.length / c) : (aprt bs c).getD (k * (bs.length / c) + i) 0 = bs.getD (i * c + k) 0 := by
  rw [aprt, getD_left ?_, fls_getD _ _ _ _ _ hk hi]
  rw [fls_length]
  have := Nat.mul_le_mul_right (bs.length / c) (show k + 1 ≤ c from hk)
  rw [Nat.add_mul, Nat.one_mul] at this
  omega
theorem tgth_at {bs : List Int} {c k i : Nat} (hk : k < c) (hi : i < bs.length / c) : (tgth bs c).getD (i * c + k) 0 = bs.getD (k * (bs.length / c) + i) 0 := by
  rw [tgth, getD_left ?_, fls_getD _ _ _ _ _ hi hk]
  rw [fls_length]
  have := Nat.mul_le_mul_right c (show i + 1 ≤ bs.length / c from hi)
  rw [Nat.add_mul, Nat.one_mul] at this
  omega
theorem tgth_aprt (bs : List Int) (c : Nat) : tgth (aprt bs c) c = bs := by
  have hl := aprt_length bs c
  rw [tgth, hl, fls_congr (g := fun i k => bs.getD (i * c + k) 0) _ (fun i k hi hk => aprt_at hk hi), fls_take c bs _ (Nat.div_mul_le_self _ _)]
  have e : (aprt bs c).drop (bs.length / c * c) = bs.drop (bs.length / c * c) := by
    rw [aprt, List.drop_append_of_le_length (by rw [fls_length, Nat.mul_comm]; omega), List.drop_of_length_le (by rw [fls_length, Nat.mul_comm]; omega)]
    rfl
  rw [e, List.take_append_drop]
theorem aprt_tgth (bs : List Int) (c : Nat) : aprt (tgth bs c) c = bs := by
  have hl := tgth_length bs c
  rw [aprt, hl, fls_congr (g := fun k i => bs.getD (k * (bs.length / c) + i) 0) _ (fun k i hk hi => tgth_at hk hi), fls_take _ bs _ (by rw [Nat.mul_comm]; exact Nat.div_mul_le_self _ _)]
  have e : (tgth bs c).drop (bs.length / c * c) = bs.drop (bs.length / c * c) := by
    rw [tgth, List.drop_append_of_le_length (by rw [fls_length]; omega), List.drop_of_length_le (by rw [fls_length]; omega)]
    rfl
  rw [e, Nat.mul_comm c, List.take_append_drop]
theorem getD_byte {bs : List Int} (h : B8 bs) (i : Nat) : 0 ≤ bs.getD i 0 ∧ bs.getD i 0 < 256 := h.at_ i
theorem fls_byte {m : Nat} {f : Nat → Nat → Int} (h : ∀ k i, 0 ≤ f k i ∧ f k i < 256) : ∀ K, B8 (fls m f K)
  | 0 => fun x hx => by cases hx
  | K + 1 => fun x hx => by
    rw [fls, List.mem_append] at hx
    rcases hx with hx | hx
    · exact fls_byte h K x hx
    · unfold tn at hx
      simp only [List.mem_map, List.mem_range] at hx
      obtain ⟨i, _, rfl⟩ := hx
      exact h K i
theorem aprt_byte {bs : List Int} (h : B8 bs) (c : Nat) : B8 (aprt bs c) := fun x hx => by
  rw [aprt, List.mem_append] at hx
  rcases hx with hx | hx
  · exact fls_byte (fun k i => h.at_ _) c x hx
  · exact h x (List.mem_of_mem_drop hx)
theorem tgth_byte {bs : List Int} (h : B8 bs) (c : Nat) : B8 (tgth bs c) := fun x hx => by
  rw [tgth, List.mem_append] at hx
  rcases hx with hx | hx
  · exact fls_byte (fun k i => h.at_ _) _ x hx
  · exact h x (List.mem_of_mem_drop hx)

end Go.Proofs.Ytbbkdgbgfncjaaa
