/- The adaptive predictor, as plain mathematics: eight weights and the last eight numbers in one list of sixteen. -/
import Derived.Test.YtgcbjfkneigijaaFixMath
namespace Go.Proofs.Ytgcbjfkneigijaa
open Go.RowKit
set_option maxRecDepth 100000

def sgn (x : Int) : Int := if 0 < x then 1 else if x < 0 then -1 else 0
theorem sgn_in (x : Int) : -1 ≤ sgn x ∧ sgn x ≤ 1 := by unfold sgn; split <;> (try split) <;> omega
/-- The sum of each number times its weight, as 64 bits. -/
def dotS (S : List Int) : Nat → Int
  | 0 => 0
  | j + 1 => dotS S j + S.getD j 0 * S.getD (8 + j) 0
/-- The guess. -/
def gl (S : List Int) : Int := w32 (wrap64 (dotS S 8) / 256)
/-- The first j weights, learnt. -/
def upS (e : Int) (S : List Int) : Nat → List Int
  | 0 => S
  | j + 1 => (upS e S j).set j (w32 (S.getD j 0 + w32 (e * sgn (S.getD (8 + j) 0))))
/-- The numbers moved on, from the oldest one down. -/
def shS (S : List Int) : Nat → List Int
  | 0 => S
  | t + 1 => (shS S t).set (15 - t) ((shS S t).getD (14 - t) 0)
def learnS (S : List Int) (v : Int) : List Int := (shS (upS (sgn (w32 (v - gl S))) S 8) 7).set 8 v
theorem upS_length (e : Int) (S : List Int) : ∀ j, (upS e S j).length = S.length
  | 0 => rfl
  | j + 1 => by simp [upS, upS_length e S j]
theorem shS_length (S : List Int) : ∀ j, (shS S j).length = S.length
  | 0 => rfl
  | j + 1 => by simp [shS, shS_length S j]
theorem learnS_length (S : List Int) (v : Int) : (learnS S v).length = S.length := by simp [learnS, shS_length, upS_length]
theorem upS_far (e : Int) (S : List Int) : ∀ j i, j ≤ i → (upS e S j).getD i 0 = S.getD i 0
  | 0, _, _ => rfl
  | j + 1, i, h => by
    unfold upS
    rw [← upS_far e S j i (by omega)]
    simp [List.getD, List.getElem?_set_ne (show j ≠ i by omega)]
theorem I32.set {S : List Int} (h : I32 S) (i : Nat) {x : Int} (hx : -2147483648 ≤ x ∧ x < 2147483648) : I32 (S.set i x) := fun v hv => by
  rcases List.mem_or_eq_of_mem_set hv with h' | h'
  · exact h v h'
  · rw [h']; exact hx
theorem upS_32 (e : Int) {S : List Int} (h : I32 S) : ∀ j, I32 (upS e S j)
  | 0 => h
  | j + 1 => (upS_32 e h j).set _ (w32_in _)
theorem shS_32 {S : List Int} (h : I32 S) : ∀ j, I32 (shS S j)
  | 0 => h
  | j + 1 => (shS_32 h j).set _ ((shS_32 h j).at_ _)
theorem learnS_32 {S : List Int} (h : I32 S) {v : Int} (hv : -2147483648 ≤ v ∧ v < 2147483648) : I32 (learnS S v) := (shS_32 (upS_32 _ h 8) 7).set _ hv

/-- The filter behind the first n numbers. -/
def stN (l : List Int) : Nat → List Int
  | 0 => List.replicate 16 0
  | n + 1 => learnS (stN l n) (l.getD n 0)
theorem stN_length (l : List Int) : ∀ n, (stN l n).length = 16
  | 0 => rfl
  | n + 1 => by rw [stN, learnS_length, stN_length l n]
theorem stN_32 {l : List Int} (h : I32 l) : ∀ n, I32 (stN l n)
  | 0 => fun v hv => by rw [List.eq_of_mem_replicate hv]; omega
  | n + 1 => learnS_32 (stN_32 h n) (h.at_ n)
theorem stN_eq {l m : List Int} : ∀ n, (∀ i, i < n → l.getD i 0 = m.getD i 0) → stN l n = stN m n
  | 0, _ => rfl
  | n + 1, h => by rw [stN, stN, stN_eq n fun i hi => h i (by omega), h n (by omega)]
theorem stN_take (l : List Int) {n k : Nat} (h : n ≤ k) : stN (l.take k) n = stN l n := stN_eq n fun i hi => by simp [List.getD, show i < k by omega]
theorem stN_append (l m : List Int) {n : Nat} (h : n ≤ l.length) : stN (l ++ m) n = stN l n := stN_eq n fun i hi => by simp [List.getD, List.getElem?_append_left (show i < l.length by omega)]

/-- Weights that take a step more within 32 bits. -/
def WB (S : List Int) : Prop := ∀ j, j < 8 → -2147483648 < S.getD j 0 ∧ S.getD j 0 < 2147483647
theorem upS_at (e : Int) (S : List Int) (hS : 8 ≤ S.length) : ∀ j i, j ≤ 8 → i < j → (upS e S j).getD i 0 = w32 (S.getD i 0 + w32 (e * sgn (S.getD (8 + i) 0)))
  | 0, _, _, h => absurd h (Nat.not_lt_zero _)
  | j + 1, i, hj, h => by
    unfold upS
    rcases Nat.lt_or_ge i j with hi | hi
    · rw [← upS_at e S hS j i (by omega) hi]
      simp [List.getD, List.getElem?_set_ne (show j ≠ i by omega)]
    · obtain rfl : i = j := by omega
      have hl : i < (upS e S i).length := by rw [upS_length]; omega
      simp [List.getD, hl]
theorem shS_low (S : List Int) : ∀ t i, t ≤ 7 → i < 9 → (shS S t).getD i 0 = S.getD i 0
  | 0, _, _, _ => rfl
  | t + 1, i, ht, h => by
    unfold shS
    rw [← shS_low S t i (by omega) h]
    simp [List.getD, List.getElem?_set_ne (show 15 - t ≠ i by omega)]
theorem learnS_low {S : List Int} (hS : 8 ≤ S.length) (v : Int) {i : Nat} (h : i < 8) : (learnS S v).getD i 0 = w32 (S.getD i 0 + w32 (sgn (w32 (v - gl S)) * sgn (S.getD (8 + i) 0))) := by
  have e : ∀ (X : List Int) (y : Int), (X.set 8 y).getD i 0 = X.getD i 0 := fun X y => by simp only [List.getD, List.getElem?_set_ne (show 8 ≠ i by omega)]
  unfold learnS
  rw [e, shS_low _ 7 i (by omega) (by omega), upS_at _ S hS 8 i (Nat.le_refl _) h]
theorem sgn_mul (x y : Int) : -1 ≤ sgn x * sgn y ∧ sgn x * sgn y ≤ 1 := by
  unfold sgn
  split <;> (try split) <;> (try split) <;> (try split) <;> omega
theorem stN_wb (l : List Int) : ∀ n : Nat, n < 2147483647 → ∀ j, j < 8 → -(n : Int) ≤ (stN l n).getD j 0 ∧ (stN l n).getD j 0 ≤ n
  | 0, _, j, hj => by
    have : (List.replicate 16 (0 : Int)).getD j 0 = 0 := by
      rw [List.getD, List.getElem?_replicate_of_lt (show j < 16 by omega), Option.getD_some]
    have : (stN l 0).getD j 0 = 0 := this
    omega
  | n + 1, hn, j, hj => by
    have ih := stN_wb l n (by omega) j hj
    show _ ≤ (learnS (stN l n) (l.getD n 0)).getD j 0 ∧ (learnS (stN l n) (l.getD n 0)).getD j 0 ≤ _
    rw [learnS_low (by rw [stN_length]; omega) _ hj]
    have := sgn_mul (w32 (l.getD n 0 - gl (stN l n))) ((stN l n).getD (8 + j) 0)
    generalize sgn (w32 (l.getD n 0 - gl (stN l n))) * sgn ((stN l n).getD (8 + j) 0) = p at *
    generalize (stN l n).getD j 0 = x at *
    unfold w32
    omega
theorem stN_WB (l : List Int) {n : Nat} (h : n < 2147483647) : WB (stN l n) := fun j hj => by
  have := stN_wb l n h j hj
  omega

/-- Residuals; and what they are of. -/
def lrN (l : List Int) : Nat → List Int
  | 0 => []
  | n + 1 => lrN l n ++ [w32 (l.getD n 0 - gl (stN l n))]
def lres (l : List Int) : List Int := lrN l l.length
def lsN (l : List Int) : Nat → List Int
  | 0 => []
  | n + 1 => lsN l n ++ [w32 (l.getD n 0 + gl (stN (lsN l n) n))]
def lrst (l : List Int) : List Int := lsN l l.length
theorem lrN_length (l : List Int) : ∀ n, (lrN l n).length = n
  | 0 => rfl
  | n + 1 => by simp [lrN, lrN_length l n]
theorem lsN_length (l : List Int) : ∀ n, (lsN l n).length = n
  | 0 => rfl
  | n + 1 => by simp [lsN, lsN_length l n]
theorem lres_length (l : List Int) : (lres l).length = l.length := lrN_length l _
theorem lrst_length (l : List Int) : (lrst l).length = l.length := lsN_length l _
theorem lrN_getD (l : List Int) : ∀ n i, i < n → (lrN l n).getD i 0 = w32 (l.getD i 0 - gl (stN l i))
  | n + 1, i, h => by
    unfold lrN
    rcases Nat.lt_or_ge i n with hi | hi
    · rw [← lrN_getD l n i hi]
      simp [List.getD, List.getElem?_append_left (show i < (lrN l n).length by rw [lrN_length]; exact hi)]
    · obtain rfl : i = n := by omega
      simp [List.getD, lrN_length]
theorem lsN_take (l : List Int) : ∀ n m, n ≤ m → (lsN l m).take n = lsN l n
  | n, 0, h => by obtain rfl : n = 0 := by omega
                  rfl
  | n, m + 1, h => by
    rcases Nat.lt_or_ge m n with hm | hm
    · obtain rfl : n = m + 1 := by omega
      rw [List.take_of_length_le (by rw [lsN_length]; omega)]
    · show (lsN l m ++ [_]).take n = _
      rw [List.take_append_of_le_length (by rw [lsN_length]; exact hm), lsN_take l n m hm]
theorem lsN_getD (l : List Int) {n i : Nat} (h : i < n) : (lsN l n).getD i 0 = w32 (l.getD i 0 + gl (stN (lsN l n) i)) := by
  have h1 := lsN_take l (i + 1) n h
  have h2 := lsN_take l i n (by omega)
  have e : (lsN l n).getD i 0 = ((lsN l n).take (i + 1)).getD i 0 := by simp [List.getD]
  rw [e, h1, ← stN_take (lsN l n) (Nat.le_refl i), h2]
  show (lsN l i ++ [_]).getD i 0 = _
  simp [List.getD, lsN_length]
theorem lres_32 (l : List Int) : I32 (lres l) := I32.of fun i hi => by
  unfold lres at hi ⊢
  rw [lrN_length] at hi
  rw [lrN_getD l _ i hi]
  exact w32_in _
theorem lsN_32 (l : List Int) (n : Nat) : I32 (lsN l n) := I32.of fun i hi => by
  rw [lsN_length] at hi
  rw [lsN_getD l hi]
  exact w32_in _
theorem lrst_32 (l : List Int) : I32 (lrst l) := lsN_32 l _
theorem lrst_lres {l : List Int} (h : I32 l) : lrst (lres l) = l := by
  have : ∀ n, n ≤ l.length → lsN (lres l) n = l.take n := by
    intro n
    induction n with
    | zero => intro _; simp [lsN]
    | succ n ih =>
      intro hn
      unfold lsN
      have e1 : (lres l).getD n 0 = w32 (l.getD n 0 - gl (stN l n)) := lrN_getD l _ n (by omega)
      rw [ih (by omega), e1, stN_take l (Nat.le_refl n), List.take_succ_eq_append_getElem (by omega)]
      have := h.at_ n
      have e : l.getD n 0 = l[n] := by simp [List.getD, show n < l.length by omega]
      rw [e] at this ⊢
      congr 2
      generalize gl (stN l n) = g
      unfold w32
      omega
  unfold lrst
  rw [lres_length, this _ (Nat.le_refl _), List.take_length]
theorem lres_lrst {l : List Int} (h : I32 l) : lres (lrst l) = l := by
  refine eq_of_getD (by rw [lres_length, lrst_length]) fun i hi => ?_
  rw [lres_length, lrst_length] at hi
  have e1 : (lres (lrst l)).getD i 0 = w32 ((lrst l).getD i 0 - gl (stN (lrst l) i)) := lrN_getD _ _ i (by rw [lrst_length]; exact hi)
  have e2 : (lrst l).getD i 0 = w32 (l.getD i 0 + gl (stN (lrst l) i)) := lsN_getD l hi
  rw [e1, e2]
  have := h.at_ i
  generalize gl (stN (lrst l) i) = g
  unfold w32
  omega
theorem lres_take (l : List Int) {k : Nat} (hk : k ≤ l.length) : lres (l.take k) = (lres l).take k := by
  refine eq_of_getD (by rw [lres_length, List.length_take, List.length_take, lres_length]) fun i hi => ?_
  rw [lres_length, List.length_take, Nat.min_eq_left hk] at hi
  have e1 : (lres (l.take k)).getD i 0 = w32 ((l.take k).getD i 0 - gl (stN (l.take k) i)) := lrN_getD _ _ i (by rw [List.length_take]; omega)
  have e2 : (lres l).getD i 0 = w32 (l.getD i 0 - gl (stN l i)) := lrN_getD _ _ i (by omega)
  have e3 : ((lres l).take k).getD i 0 = (lres l).getD i 0 := by simp [List.getD, hi]
  have e4 : (l.take k).getD i 0 = l.getD i 0 := by simp [List.getD, hi]
  rw [e1, e3, e2, e4, stN_take l (by omega)]

end Go.Proofs.Ytgcbjfkneigijaa
