/- Fixed predictors, as plain mathematics: residuals of every order, what they are of, what they weigh, the best order. Numbers go round at 2^32. -/
import Derived.Test.YtbbkdgbgfncjaaaKit
namespace Go.Proofs.Ytbbkdgbgfncjaaa
open Go.RowKit
set_option maxRecDepth 100000

/-- A number of 32 bits that goes round. -/
def w32 (x : Int) : Int := (x + 2147483648) % 4294967296 - 2147483648
theorem w32_wrap (x : Int) : IntKind.i32.wrap x = w32 x := by rw [IntKind.wrap_i32]; rfl
theorem w32_in (x : Int) : -2147483648 ≤ w32 x ∧ w32 x < 2147483648 := by unfold w32; omega
theorem w32_id {x : Int} (h : -2147483648 ≤ x ∧ x < 2147483648) : w32 x = x := by unfold w32; omega

/-- The guess, of the three numbers ahead. -/
def gp (k : Nat) (a b c : Int) : Int := if k = 0 then 0 else if k = 1 then a else if k = 2 then 2 * a - b else 3 * a - 3 * b + c
/-- The number j ahead of place i. -/
def pv (l : List Int) (i j : Nat) : Int := if j ≤ i then l.getD (i - j) 0 else 0
def gs (k : Nat) (l : List Int) (i : Nat) : Int := gp k (pv l i 1) (pv l i 2) (pv l i 3)
theorem pv_take (l : List Int) {n i j : Nat} (hi : i ≤ n) (hj : 0 < j) : pv (l.take n) i j = pv l i j := by
  unfold pv
  split
  · rcases Nat.lt_or_ge (i - j) n with h | h
    · simp [List.getD, h]
    · omega
  · rfl
theorem pv_append (l m : List Int) {i j : Nat} (hi : i ≤ l.length) (hj : 0 < j) : pv (l ++ m) i j = pv l i j := by
  unfold pv
  split
  · rcases Nat.lt_or_ge (i - j) l.length with h | h
    · simp [List.getD, List.getElem?_append_left h]
    · omega
  · rfl
theorem gs_take (k : Nat) (l : List Int) {n i : Nat} (hi : i ≤ n) : gs k (l.take n) i = gs k l i := by
  unfold gs
  rw [pv_take l hi (by decide), pv_take l hi (by decide), pv_take l hi (by decide)]

/-- The first n residuals; all. -/
def resN (k : Nat) (l : List Int) : Nat → List Int
  | 0 => []
  | n + 1 => resN k l n ++ [w32 (l.getD n 0 - gs k l n)]
def res (k : Nat) (l : List Int) : List Int := resN k l l.length
/-- The first n numbers of which l are the residuals; all. -/
def rstN (k : Nat) (l : List Int) : Nat → List Int
  | 0 => []
  | n + 1 => rstN k l n ++ [w32 (l.getD n 0 + gs k (rstN k l n) n)]
def rst (k : Nat) (l : List Int) : List Int := rstN k l l.length
theorem resN_length (k : Nat) (l : List Int) : ∀ n, (resN k l n).length = n
  | 0 => rfl
  | n + 1 => by simp [resN, resN_length k l n]
theorem res_length (k : Nat) (l : List Int) : (res k l).length = l.length := resN_length k l _
theorem rstN_length (k : Nat) (l : List Int) : ∀ n, (rstN k l n).length = n
  | 0 => rfl
  | n + 1 => by simp [rstN, rstN_length k l n]
theorem rst_length (k : Nat) (l : List Int) : (rst k l).length = l.length := rstN_length k l _
theorem resN_getD (k : Nat) (l : List Int) : ∀ n i, i < n → (resN k l n).getD i 0 = w32 (l.getD i 0 - gs k l i)
  | n + 1, i, h => by
    unfold resN
    rcases Nat.lt_or_ge i n with hi | hi
    · rw [← resN_getD k l n i hi]
      simp [List.getD, List.getElem?_append_left (show i < (resN k l n).length by rw [resN_length]; exact hi)]
    · obtain rfl : i = n := by omega
      simp [List.getD, resN_length]
theorem res_getD (k : Nat) (l : List Int) {i : Nat} (hi : i < l.length) : (res k l).getD i 0 = w32 (l.getD i 0 - gs k l i) := resN_getD k l _ i hi
theorem rstN_take (k : Nat) (l : List Int) : ∀ n m, n ≤ m → (rstN k l m).take n = rstN k l n
  | n, 0, h => by obtain rfl : n = 0 := by omega
                  rfl
  | n, m + 1, h => by
    rcases Nat.lt_or_ge m n with hm | hm
    · obtain rfl : n = m + 1 := by omega
      rw [List.take_of_length_le (by rw [rstN_length]; omega)]
    · show (rstN k l m ++ [_]).take n = _
      rw [List.take_append_of_le_length (by rw [rstN_length]; exact hm), rstN_take k l n m hm]
theorem rstN_getD (k : Nat) (l : List Int) {n i : Nat} (h : i < n) : (rstN k l n).getD i 0 = w32 (l.getD i 0 + gs k (rstN k l n) i) := by
  have h1 := rstN_take k l (i + 1) n h
  have h2 := rstN_take k l i n (by omega)
  have e : (rstN k l n).getD i 0 = ((rstN k l n).take (i + 1)).getD i 0 := by simp [List.getD]
  rw [e, h1, ← gs_take k (rstN k l n) (Nat.le_refl i), h2]
  show (rstN k l i ++ [_]).getD i 0 = _
  simp [List.getD, rstN_length]

/-- All are numbers of 32 bits. -/
def I32 (l : List Int) : Prop := ∀ v ∈ l, -2147483648 ≤ v ∧ v < 2147483648
theorem I32.at_ {l : List Int} (h : I32 l) (i : Nat) : -2147483648 ≤ l.getD i 0 ∧ l.getD i 0 < 2147483648 := by
  by_cases hi : i < l.length
  · exact h (l.getD i 0) (by simp [List.getD, hi])
  · simp [List.getD, List.getElem?_eq_none (Nat.le_of_not_lt hi)]
theorem I32.of {l : List Int} (h : ∀ i, i < l.length → -2147483648 ≤ l.getD i 0 ∧ l.getD i 0 < 2147483648) : I32 l := fun v hv => by
  obtain ⟨i, hi, rfl⟩ := List.getElem_of_mem hv
  have := h i hi
  simpa [List.getD, hi] using this
theorem res_32 (k : Nat) (l : List Int) : I32 (res k l) := I32.of fun i hi => by
  rw [res_getD k l (by rwa [res_length] at hi)]
  exact w32_in _
theorem rst_32 (k : Nat) (l : List Int) : I32 (rst k l) := I32.of fun i hi => by
  unfold rst at hi ⊢
  rw [rstN_length] at hi
  rw [rstN_getD k l hi]
  exact w32_in _

theorem eq_of_getD {l m : List Int} (hl : l.length = m.length) (h : ∀ i, i < l.length → l.getD i 0 = m.getD i 0) : l = m := by
  apply List.ext_getElem hl
  intro i h1 h2
  have := h i h1
  simpa [List.getD, h1, h2] using this

/-- What was taken away is restored. -/
theorem rst_res (k : Nat) {l : List Int} (h : I32 l) : rst k (res k l) = l := by
  have : ∀ n, n ≤ l.length → rstN k (res k l) n = l.take n := by
    intro n
    induction n with
    | zero => intro _; simp [rstN]
    | succ n ih =>
      intro hn
      unfold rstN
      rw [ih (by omega), res_getD k l (by omega), gs_take k l (Nat.le_refl n), List.take_succ_eq_append_getElem (by omega)]
      have := h.at_ n
      have e : l.getD n 0 = l[n] := by simp [List.getD, show n < l.length by omega]
      rw [e] at this ⊢
      congr 2
      unfold w32
      omega
  unfold rst
  rw [res_length, this _ (Nat.le_refl _), List.take_length]
theorem res_rst (k : Nat) {l : List Int} (h : I32 l) : res k (rst k l) = l := by
  refine eq_of_getD (by rw [res_length, rst_length]) fun i hi => ?_
  rw [res_length] at hi
  rw [res_getD k _ hi]
  rw [rst_length] at hi
  unfold rst
  rw [rstN_getD k l hi]
  have := h.at_ i
  unfold w32
  omega

/-- Residuals of residuals. -/
theorem res_zero {l : List Int} (h : I32 l) : res 0 l = l := by
  refine eq_of_getD (res_length 0 l) fun i hi => ?_
  rw [res_length] at hi
  rw [res_getD 0 l hi]
  have := h.at_ i
  unfold gs gp w32
  omega
theorem res_pv (k : Nat) (l : List Int) {i j : Nat} (hi : i < l.length) (hj : 0 < j) : pv (res k l) i j = if j ≤ i then w32 (l.getD (i - j) 0 - gs k l (i - j)) else 0 := by
  unfold pv
  split
  · rw [res_getD k l (by omega)]
  · rfl
theorem pv_pv (l : List Int) {i a b : Nat} (h : a ≤ i) : pv l (i - a) b = pv l i (a + b) := by
  unfold pv
  by_cases hb : b ≤ i - a
  · rw [if_pos hb, if_pos (by omega), Nat.sub_sub]
  · rw [if_neg hb, if_neg (by omega)]
theorem pv_none (l : List Int) {i j : Nat} (h : i < j) : pv l i j = 0 := by unfold pv; rw [if_neg (by omega)]
theorem pv_some (l : List Int) {i j : Nat} (h : j ≤ i) : pv l i j = l.getD (i - j) 0 := by unfold pv; rw [if_pos h]
theorem res_two (l : List Int) : res 1 (res 1 l) = res 2 l := by
  refine eq_of_getD (by rw [res_length, res_length, res_length]) fun i hi => ?_
  rw [res_length, res_length] at hi
  rw [res_getD 1 _ (by rw [res_length]; exact hi), res_getD 1 l hi, res_getD 2 l hi]
  have e : gs 1 (res 1 l) i = pv (res 1 l) i 1 := rfl
  rw [e, res_pv 1 l hi (by decide)]
  show w32 (w32 (l.getD i 0 - pv l i 1) - _) = w32 (l.getD i 0 - (2 * pv l i 1 - pv l i 2))
  by_cases h : 1 ≤ i
  · rw [if_pos h]
    show w32 (w32 (l.getD i 0 - pv l i 1) - w32 (l.getD (i - 1) 0 - pv l (i - 1) 1)) = _
    rw [pv_pv l h, show 1 + 1 = 2 from rfl, ← pv_some l h]
    unfold w32
    omega
  · rw [if_neg h, pv_none l (by omega), pv_none l (by omega)]
    unfold w32
    omega
theorem res_three (l : List Int) : res 1 (res 2 l) = res 3 l := by
  refine eq_of_getD (by rw [res_length, res_length, res_length]) fun i hi => ?_
  rw [res_length, res_length] at hi
  rw [res_getD 1 _ (by rw [res_length]; exact hi), res_getD 2 l hi, res_getD 3 l hi]
  have e : gs 1 (res 2 l) i = pv (res 2 l) i 1 := rfl
  rw [e, res_pv 2 l hi (by decide)]
  show w32 (w32 (l.getD i 0 - (2 * pv l i 1 - pv l i 2)) - _) = w32 (l.getD i 0 - (3 * pv l i 1 - 3 * pv l i 2 + pv l i 3))
  by_cases h : 1 ≤ i
  · rw [if_pos h]
    show w32 (w32 (l.getD i 0 - (2 * pv l i 1 - pv l i 2)) - w32 (l.getD (i - 1) 0 - (2 * pv l (i - 1) 1 - pv l (i - 1) 2))) = _
    rw [pv_pv l h, pv_pv l h, show 1 + 1 = 2 from rfl, show 1 + 2 = 3 from rfl, ← pv_some l h]
    unfold w32
    omega
  · rw [if_neg h, pv_none l (by omega), pv_none l (by omega), pv_none l (by omega)]
    unfold w32
    omega

/-- What numbers weigh, the best order. -/
def weight : List Int → Nat
  | [] => 0
  | v :: r => v.natAbs + weight r
theorem weight_append (b : List Int) : ∀ a : List Int, weight (a ++ b) = weight a + weight b
  | [] => by simp [weight]
  | v :: r => by simp only [List.cons_append, weight, weight_append b r]; omega
theorem weight_take (l : List Int) {i : Nat} (hi : i < l.length) : weight (l.take (i + 1)) = weight (l.take i) + (l.getD i 0).natAbs := by
  have e : l.take (i + 1) = l.take i ++ [l.getD i 0] := by rw [List.take_succ_eq_append_getElem hi]; simp [List.getD, hi]
  rw [e, weight_append]
  simp [weight]
theorem weight_le : ∀ {l : List Int}, I32 l → weight l ≤ 2147483648 * l.length
  | [], _ => by simp [weight]
  | v :: r, h => by
    have ih := weight_le (l := r) (fun x hx => h x (List.mem_cons_of_mem _ hx))
    have := h v (List.mem_cons_self ..)
    simp only [weight, List.length_cons]
    omega
def wres (l : List Int) (k : Nat) : Nat := weight (res k l)
def bestOr (l : List Int) : Nat → Nat
  | 0 => 0
  | k + 1 => if wres l (k + 1) < wres l (bestOr l k) then k + 1 else bestOr l k
theorem bestOr_le (l : List Int) : ∀ m, bestOr l m ≤ m
  | 0 => Nat.le_refl _
  | m + 1 => by
    have := bestOr_le l m
    unfold bestOr; split <;> omega
theorem wres_le (l : List Int) (k : Nat) : wres l k ≤ 2147483648 * l.length := by
  have := weight_le (res_32 k l)
  rwa [res_length] at this

/-- An order that may be. -/
def ko (k : Int) : Nat := (max 0 (min k 3)).toNat
theorem ko_le (k : Int) : ko k ≤ 3 := by unfold ko; omega
theorem ko_eq (k : Int) : max 0 (min k 3) = (ko k : Int) := by unfold ko; omega
theorem ko_in {k : Nat} (hk : k ≤ 3) : ko (k : Int) = k := by unfold ko; omega

end Go.Proofs.Ytbbkdgbgfncjaaa
