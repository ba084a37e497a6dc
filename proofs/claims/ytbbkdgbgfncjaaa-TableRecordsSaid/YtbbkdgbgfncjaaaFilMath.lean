/- Rows of pixels by their neighbours, as plain mathematics: guesses, rows turned and back, what they weigh, the best kind, and all rows. -/
import Derived.Test.YtbbkdgbgfncjaaaColMath
namespace Go.Proofs.Ytbbkdgbgfncjaaa
open Go.RowKit
set_option maxRecDepth 100000

/-- The amount of a number. -/
def amt (v : Int) : Int := max v (-v)
/-- Of three the one that is nearest to their line. -/
def pae (a b c : Int) : Int :=
  if amt (a + b - c - a) ≤ amt (a + b - c - b) ∧ amt (a + b - c - a) ≤ amt (a + b - c - c) then a else if amt (a + b - c - b) ≤ amt (a + b - c - c) then b else c
theorem pae_in {a b c : Int} (ha : 0 ≤ a ∧ a < 256) (hb : 0 ≤ b ∧ b < 256) (hc : 0 ≤ c ∧ c < 256) : 0 ≤ pae a b c ∧ pae a b c < 256 := by
  unfold pae
  split
  · exact ha
  · split
    · exact hb
    · exact hc
theorem pae_near (a b c : Int) : (pae a b c = a ∨ pae a b c = b ∨ pae a b c = c) ∧ amt (pae a b c - (a + b - c)) ≤ amt (a - (a + b - c)) ∧ amt (pae a b c - (a + b - c)) ≤ amt (b - (a + b - c)) ∧ amt (pae a b c - (a + b - c)) ≤ amt (c - (a + b - c)) := by
  unfold pae
  split
  · rename_i h
    refine ⟨.inl rfl, ?_, ?_, ?_⟩ <;> (unfold amt at *; omega)
  · rename_i h
    split
    · rename_i h2
      refine ⟨.inr (.inl rfl), ?_, ?_, ?_⟩ <;> (unfold amt at *; omega)
    · rename_i h2
      refine ⟨.inr (.inr rfl), ?_, ?_, ?_⟩ <;> (unfold amt at *; omega)

/-- How many planes count. -/
def plN (p : Int) : Nat := (max p 1).toNat
theorem plN_in (p : Int) : 1 ≤ plN p ∧ (plN p : Int) = max p 1 := by unfold plN; omega
/-- The byte n places ahead of i. -/
def ahd (l : List Int) (i n : Nat) : Int := if n ≤ i then l.getD (i - n) 0 else 0
theorem ahd_in {l : List Int} (h : B8 l) (i n : Nat) : 0 ≤ ahd l i n ∧ ahd l i n < 256 := by
  unfold ahd
  split
  · exact h.at_ _
  · omega
/-- A guess of kind k. -/
def ges (k : Int) (row up : List Int) (i n : Nat) : Int :=
  if k = 1 then ahd row i n else if k = 2 then up.getD i 0 else if k = 3 then pae (ahd row i n) (up.getD i 0) (ahd up i n) else if k = 4 then (ahd row i n + up.getD i 0) / 2 else 0
theorem ges_in {row up : List Int} (h : B8 row) (h2 : B8 up) (k : Int) (i n : Nat) : 0 ≤ ges k row up i n ∧ ges k row up i n < 256 := by
  have a := ahd_in h i n
  have b := h2.at_ i
  have c := ahd_in h2 i n
  unfold ges
  split
  · exact a
  · split
    · exact b
    · split
      · exact pae_in a b c
      · split <;> omega
theorem ahd_congr {xs ys : List Int} {i n : Nat} (hn : 1 ≤ n) (h : ∀ j, j < i → xs.getD j 0 = ys.getD j 0) : ahd xs i n = ahd ys i n := by
  unfold ahd
  split
  · exact h _ (by omega)
  · rfl
/-- A guess hangs on what is ahead alone. -/
theorem ges_congr {k : Int} {xs ys up : List Int} {i n : Nat} (hn : 1 ≤ n) (h : ∀ j, j < i → xs.getD j 0 = ys.getD j 0) : ges k xs up i n = ges k ys up i n := by
  unfold ges
  rw [ahd_congr hn h]

/-- A row, turned by kind k. -/
def rowF (k : Int) (row up : List Int) (n : Nat) : List Int := tn row.length fun i => (row.getD i 0 - ges k row up i n) % 256
theorem rowF_length (k : Int) (row up : List Int) (n : Nat) : (rowF k row up n).length = row.length := tn_length _ _
theorem rowF_byte (k : Int) (row up : List Int) (n : Nat) : B8 (rowF k row up n) := fun x hx => by
  unfold rowF tn at hx
  simp only [List.mem_map, List.mem_range] at hx
  obtain ⟨i, _, rfl⟩ := hx
  omega
/-- .. and back: the first j bytes. -/
def unN (k : Int) (row up : List Int) (n : Nat) : Nat → List Int
  | 0 => []
  | j + 1 => unN k row up n j ++ [(row.getD j 0 + ges k (unN k row up n j) up j n) % 256]
def unF (k : Int) (row up : List Int) (n : Nat) : List Int := unN k row up n row.length
theorem unN_length (k : Int) (row up : List Int) (n : Nat) : ∀ j, (unN k row up n j).length = j
  | 0 => rfl
  | j + 1 => by rw [unN, List.length_append, unN_length k row up n j]; rfl
theorem unF_length (k : Int) (row up : List Int) (n : Nat) : (unF k row up n).length = row.length := unN_length _ _ _ _ _
theorem unN_byte (k : Int) (row up : List Int) (n : Nat) : ∀ j, B8 (unN k row up n j)
  | 0 => fun x hx => by cases hx
  | j + 1 => fun x hx => by
    rw [unN, List.mem_append] at hx
    rcases hx with hx | hx
    · exact unN_byte k row up n j x hx
    · simp only [List.mem_singleton] at hx
      omega
theorem unN_pre (k : Int) (row up : List Int) (n : Nat) : ∀ J j i, i < j → j ≤ J → (unN k row up n J).getD i 0 = (unN k row up n j).getD i 0
  | 0, j, i, hi, hj => by omega
  | J + 1, j, i, hi, hj => by
    rcases Nat.lt_or_ge J j with h | h
    · obtain rfl : j = J + 1 := by omega
      rfl
    · rw [← unN_pre k row up n J j i hi h, unN, getD_left (by rw [unN_length]; omega)]
theorem unN_at (k : Int) (row up : List Int) (n : Nat) {J i : Nat} (hi : i < J) : (unN k row up n J).getD i 0 = (row.getD i 0 + ges k (unN k row up n i) up i n) % 256 := by
  rw [unN_pre k row up n J (i + 1) i (by omega) hi, unN]
  simp [List.getD, unN_length]
/-- What is turned is turned back. -/
theorem un_row {k : Int} {row up : List Int} {n : Nat} (hn : 1 ≤ n) (h : B8 row) : unF k (rowF k row up n) up n = row := by
  have key : ∀ j, j ≤ row.length → unN k (rowF k row up n) up n j = row.take j := by
    intro j
    induction j with
    | zero => intro _; rfl
    | succ j ih =>
      intro hj
      have hx := h.at_ j
      have hg : ges k (row.take j) up j n = ges k row up j n := ges_congr hn fun i hi => by simp [List.getD, hi]
      rw [unN, ih (by omega), hg, rowF, tn_getD (by omega), List.take_succ_eq_append_getElem (by omega)]
      congr 1
      have : row.getD j 0 = row[j] := by simp [List.getD, show j < row.length by omega]
      rw [← this]
      congr 1
      omega
  unfold unF
  rw [rowF_length, key _ (Nat.le_refl _), List.take_length]
theorem row_un {k : Int} {row up : List Int} {n : Nat} (hn : 1 ≤ n) (h : B8 row) : rowF k (unF k row up n) up n = row := by
  refine (tn_ext (by rw [unF_length]) fun i hi => ?_).symm
  rw [unF_length] at hi
  have hx := h.at_ i
  have hg : ges k (unF k row up n) up i n = ges k (unN k row up n i) up i n := ges_congr hn fun j hj => unN_pre k row up n _ i j hj (by omega)
  rw [hg]
  unfold unF
  rw [unN_at k row up n hi]
  omega

/-- What bytes weigh. -/
def wgb (x : Int) : Nat := if 128 < x then (256 - x).toNat else x.toNat
def wgN (l : List Int) : Nat → Nat
  | 0 => 0
  | j + 1 => wgN l j + wgb (l.getD j 0)
def wgt (l : List Int) : Nat := wgN l l.length
theorem wgN_le {l : List Int} (h : B8 l) : ∀ j, wgN l j ≤ 128 * j
  | 0 => Nat.le_refl _
  | j + 1 => by
    have := wgN_le h j
    have hx := h.at_ j
    rw [wgN]
    unfold wgb
    split <;> omega
/-- The best kind of the first ones. -/
def bstN (row up : List Int) (n : Nat) : Nat → Nat
  | 0 => 0
  | k + 1 => if wgt (rowF ((k + 1 : Nat) : Int) row up n) < wgt (rowF (bstN row up n k : Nat) row up n) then k + 1 else bstN row up n k
def bst (row up : List Int) (n : Nat) : Nat := bstN row up n 4
theorem bstN_le (row up : List Int) (n : Nat) : ∀ k, bstN row up n k ≤ k
  | 0 => Nat.le_refl _
  | k + 1 => by
    have := bstN_le row up n k
    rw [bstN]
    split <;> omega
theorem bstN_min (row up : List Int) (n : Nat) : ∀ k j, j ≤ k → wgt (rowF (bstN row up n k : Nat) row up n) ≤ wgt (rowF (j : Nat) row up n)
  | 0, j, h => by
    obtain rfl : j = 0 := by omega
    exact Nat.le_refl _
  | k + 1, j, h => by
    have ih := bstN_min row up n k
    rw [bstN]
    split
    · rename_i hlt
      rcases Nat.lt_or_ge k j with hj | hj
      · obtain rfl : j = k + 1 := by omega
        exact Nat.le_refl _
      · have := ih j hj
        omega
    · rename_i hge
      rcases Nat.lt_or_ge k j with hj | hj
      · obtain rfl : j = k + 1 := by omega
        omega
      · exact ih j hj
theorem wgN_zero {l : List Int} (h : B8 l) : ∀ j, wgN l j = 0 → ∀ i, i < j → l.getD i 0 = 0
  | j + 1, h0, i, hi => by
    have hx := h.at_ j
    rw [wgN] at h0
    have h1 : wgN l j = 0 := by omega
    have h2 : wgb (l.getD j 0) = 0 := by omega
    rcases Nat.lt_or_ge i j with h3 | h3
    · exact wgN_zero h j h1 i h3
    · obtain rfl : i = j := by omega
      unfold wgb at h2
      split at h2 <;> omega
theorem wgN_nil {l : List Int} : ∀ j, (∀ i, i < j → l.getD i 0 = 0) → wgN l j = 0
  | 0, _ => rfl
  | j + 1, h => by
    rw [wgN, wgN_nil j (fun i hi => h i (by omega)), h j (by omega)]
    rfl
/-- A row that is like the one ahead: nothing is left by kind 2, nor by the best one, which is 2 at most. -/
theorem flat_two {row : List Int} {n i : Nat} (hi : i < row.length) : (rowF 2 row row n).getD i 0 = 0 := by
  rw [rowF, tn_getD hi]
  have : ges 2 row row i n = row.getD i 0 := rfl
  rw [this]
  omega
theorem flat_best {row : List Int} {n : Nat} : bst row row n ≤ 2 ∧ ∀ i, i < row.length → (rowF (bst row row n : Nat) row row n).getD i 0 = 0 := by
  have h2 : ∀ k, wgt (rowF (bstN row row n (k + 2) : Nat) row row n) = 0 := fun k => by
    have h1 := bstN_min row row n (k + 2) 2 (by omega)
    have h0 : wgt (rowF ((2 : Nat) : Int) row row n) = 0 := by
      unfold wgt
      rw [rowF_length]
      exact wgN_nil _ fun i hi => flat_two hi
    omega
  have e3 : bstN row row n 3 = bstN row row n 2 := by
    rw [bstN, if_neg]
    have : wgt (rowF (bstN row row n 2 : Nat) row row n) = 0 := h2 0
    omega
  have e4 : bstN row row n 4 = bstN row row n 3 := by
    rw [bstN, if_neg]
    have : wgt (rowF (bstN row row n 3 : Nat) row row n) = 0 := h2 1
    omega
  refine ⟨by unfold bst; rw [e4, e3]; exact bstN_le _ _ _ _, fun i hi => ?_⟩
  have h : wgt (rowF (bst row row n : Nat) row row n) = 0 := h2 2
  unfold wgt at h
  rw [rowF_length] at h
  exact wgN_zero (rowF_byte _ _ _ _) _ h i hi

end Go.Proofs.Ytbbkdgbgfncjaaa
