/- Records of one width, as plain mathematics. -/
import Derived.Test.YtbbkdgbgfncjaaaFilMath
namespace Go.Proofs.Ytbbkdgbgfncjaaa
open Go.RowKit
set_option maxRecDepth 100000

/-- At how many places from i on the byte is the one k ahead of it. -/
def scN (b : List Int) (k i : Nat) : Nat := if i < b.length then (if b.getD i 0 = b.getD (i - k) 0 then 1 else 0) + scN b k (i + 1) else 0
termination_by b.length - i
theorem scN_le (b : List Int) (k i : Nat) : scN b k i ≤ b.length - i := by
  rw [scN]
  split
  · have := scN_le b k (i + 1)
    split <;> omega
  · exact Nat.zero_le _
termination_by b.length - i
/-- The score of a width. -/
def scr (b : List Int) (width : Int) : Nat := if width < 1 then 0 else scN b width.toNat width.toNat
theorem scr_le (b : List Int) (width : Int) : scr b width ≤ b.length := by
  unfold scr
  split
  · exact Nat.zero_le _
  · have := scN_le b width.toNat width.toNat
    omega
theorem scr_nat (b : List Int) {w : Nat} (h : 1 ≤ w) : scr b (w : Int) = scN b w w := by
  unfold scr
  rw [if_neg (by omega), Int.toNat_natCast]
/-- A width more. -/
def wst (b : List Int) (s : Nat × Nat) (w : Nat) : Nat × Nat := if 4 * w ≤ b.length ∧ b.length < 2 * scr b (w : Int) ∧ s.2 < scr b (w : Int) then (w, scr b (w : Int)) else s
def wfo (b : List Int) : Nat → Nat × Nat
  | 0 => (0, 0)
  | j + 1 => wst b (wfo b j) (j + 2)
/-- The best width. -/
def wdt (b : List Int) : Nat := (wfo b 15).1
theorem wfo_in (b : List Int) : ∀ j, (wfo b j = (0, 0)) ∨ (2 ≤ (wfo b j).1 ∧ (wfo b j).1 ≤ j + 1 ∧ (wfo b j).2 = scr b ((wfo b j).1 : Int) ∧ 4 * (wfo b j).1 ≤ b.length ∧ b.length < 2 * (wfo b j).2)
  | 0 => .inl rfl
  | j + 1 => by
    rw [wfo]
    unfold wst
    split
    · rename_i h
      right
      exact ⟨by simp only []; omega, by simp only []; omega, rfl, h.1, h.2.1⟩
    · rcases wfo_in b j with h | ⟨h1, h2, h3⟩
      · exact .inl h
      · exact .inr ⟨h1, by omega, h3⟩
theorem wdt_in (b : List Int) : wdt b = 0 ∨ (2 ≤ wdt b ∧ wdt b ≤ 16 ∧ 4 * wdt b ≤ b.length) := by
  rcases wfo_in b 15 with h | ⟨h1, h2, _, h4, _⟩
  · left; unfold wdt; rw [h]
  · exact .inr ⟨h1, by unfold wdt; omega, h4⟩
theorem wst_top (b : List Int) (s : Nat × Nat) (w : Nat) : s.2 ≤ (wst b s w).2 := by
  unfold wst
  split
  · rename_i h; exact Nat.le_of_lt h.2.2
  · exact Nat.le_refl _

/-- A byte less the one k ahead. -/
def dl (b : List Int) (k i : Nat) : Int := if i < k then b.getD i 0 else (b.getD i 0 - b.getD (i - k) 0) % 256
def dlt (b : List Int) (k : Nat) : List Int := (List.range b.length).map (dl b k)
theorem dlt_len (b : List Int) (k : Nat) : (dlt b k).length = b.length := by simp [dlt]
theorem dlt_get (b : List Int) (k : Nat) {i : Nat} (h : i < b.length) : (dlt b k).getD i 0 = dl b k i := by
  unfold dlt
  rw [List.getD_eq_getElem?_getD, List.getElem?_map, List.getElem?_range h]
  rfl
/-- .. and back. -/
def unA (b : List Int) (k : Nat) : Nat → List Int
  | 0 => []
  | i + 1 => unA b k i ++ [if i < k then b.getD i 0 else (b.getD i 0 + (unA b k i).getD (i - k) 0) % 256]
def und (b : List Int) (k : Nat) : List Int := unA b k b.length
theorem unA_len (b : List Int) (k : Nat) : ∀ i, (unA b k i).length = i
  | 0 => rfl
  | i + 1 => by rw [unA, List.length_append, unA_len b k i]; rfl
theorem und_len (b : List Int) (k : Nat) : (und b k).length = b.length := unA_len b k _
/-- The byte of a place. -/
def un (b : List Int) (k i : Nat) : Int := if i < k then b.getD i 0 else (b.getD i 0 + (unA b k i).getD (i - k) 0) % 256
theorem unA_get (b : List Int) (k : Nat) : ∀ {i j : Nat}, j < i → (unA b k i).getD j 0 = un b k j
  | 0, j, h => absurd h (Nat.not_lt_zero _)
  | i + 1, j, h => by
    rw [unA, List.getD_eq_getElem?_getD]
    by_cases e : j < i
    · rw [List.getElem?_append_left (by rw [unA_len]; exact e), ← List.getD_eq_getElem?_getD]
      exact unA_get b k e
    · have : j = i := by omega
      subst this
      rw [List.getElem?_append_right (by rw [unA_len]; exact Nat.le_refl _), unA_len, Nat.sub_self]
      rfl
theorem un_step (b : List Int) {k i : Nat} (hk : 1 ≤ k) (h : ¬ i < k) : un b k i = (b.getD i 0 + un b k (i - k)) % 256 := by
  unfold un
  rw [if_neg h, unA_get b k (show i - k < i by omega)]
  rfl
theorem und_get (b : List Int) (k : Nat) {i : Nat} (h : i < b.length) : (und b k).getD i 0 = un b k i := unA_get b k h
theorem ext_getD {a b : List Int} (hl : a.length = b.length) (h : ∀ i, i < a.length → a.getD i 0 = b.getD i 0) : a = b := by
  apply List.ext_getElem hl
  intro i h1 h2
  have := h i h1
  rw [List.getD_eq_getElem?_getD, List.getElem?_eq_getElem h1, List.getD_eq_getElem?_getD, List.getElem?_eq_getElem h2] at this
  exact this
theorem byte_at {b : List Int} (h8 : ∀ x ∈ b, 0 ≤ x ∧ x < 256) (i : Nat) : 0 ≤ b.getD i 0 ∧ b.getD i 0 < 256 := by
  rcases Nat.lt_or_ge i b.length with h | h
  · rw [List.getD_eq_getElem?_getD, List.getElem?_eq_getElem h]
    exact h8 _ (List.getElem_mem _)
  · rw [List.getD_eq_getElem?_getD, List.getElem?_eq_none h]
    decide
theorem dl_byte {b : List Int} (h8 : ∀ x ∈ b, 0 ≤ x ∧ x < 256) (k i : Nat) : 0 ≤ dl b k i ∧ dl b k i < 256 := by
  unfold dl
  split
  · exact byte_at h8 i
  · omega
theorem dlt_byte {b : List Int} (h8 : ∀ x ∈ b, 0 ≤ x ∧ x < 256) (k : Nat) : ∀ x ∈ dlt b k, 0 ≤ x ∧ x < 256 := by
  intro x hx
  obtain ⟨i, _, rfl⟩ := List.mem_map.1 hx
  exact dl_byte h8 k i
theorem un_byte {b : List Int} (h8 : ∀ x ∈ b, 0 ≤ x ∧ x < 256) (k i : Nat) : 0 ≤ un b k i ∧ un b k i < 256 := by
  unfold un
  split
  · exact byte_at h8 i
  · omega
theorem unA_byte {b : List Int} (h8 : ∀ x ∈ b, 0 ≤ x ∧ x < 256) (k : Nat) : ∀ i, ∀ x ∈ unA b k i, 0 ≤ x ∧ x < 256
  | 0, x, hx => by cases hx
  | i + 1, x, hx => by
    rw [unA] at hx
    rcases List.mem_append.1 hx with h | h
    · exact unA_byte h8 k i x h
    · rw [List.mem_singleton] at h
      rw [h]
      exact un_byte h8 k i
theorem und_byte {b : List Int} (h8 : ∀ x ∈ b, 0 ≤ x ∧ x < 256) (k : Nat) : ∀ x ∈ und b k, 0 ≤ x ∧ x < 256 := unA_byte h8 k _
theorem un_dlt {b : List Int} (h8 : ∀ x ∈ b, 0 ≤ x ∧ x < 256) {k : Nat} (hk : 1 ≤ k) (i : Nat) (hi : i < b.length) : un (dlt b k) k i = b.getD i 0 := by
  by_cases h : i < k
  · unfold un
    rw [if_pos h, dlt_get b k hi]
    exact if_pos h
  · rw [un_step _ hk h, un_dlt h8 hk (i - k) (by omega), dlt_get b k hi]
    unfold dl
    rw [if_neg h]
    have := byte_at h8 i
    omega
termination_by i
/-- What is taken away is there again. -/
theorem und_dlt {b : List Int} (h8 : ∀ x ∈ b, 0 ≤ x ∧ x < 256) {k : Nat} (hk : 1 ≤ k) : und (dlt b k) k = b := by
  refine ext_getD (by rw [und_len, dlt_len]) fun i hi => ?_
  rw [und_len, dlt_len] at hi
  rw [und_get _ _ (by rw [dlt_len]; exact hi)]
  exact un_dlt h8 hk i hi
theorem dlt_und {b : List Int} (h8 : ∀ x ∈ b, 0 ≤ x ∧ x < 256) {k : Nat} (hk : 1 ≤ k) : dlt (und b k) k = b := by
  refine ext_getD (by rw [dlt_len, und_len]) fun i hi => ?_
  rw [dlt_len, und_len] at hi
  rw [dlt_get _ _ (by rw [und_len]; exact hi)]
  unfold dl
  by_cases h : i < k
  · rw [if_pos h, und_get _ _ hi]
    exact if_pos h
  · rw [if_neg h, und_get _ _ hi, und_get _ _ (show i - k < b.length by omega), un_step _ hk h]
    have := byte_at h8 i
    omega

/-- Amid what is taken away, in place; and amid what is put back. -/
theorem dlt_to (b : List Int) (k : Nat) {i : Nat} (h : i < b.length) : ((dlt b k).take i ++ b.drop i).set i (dl b k i) = (dlt b k).take (i + 1) ++ b.drop (i + 1) := by
  have hl : ((dlt b k).take i).length = i := by rw [List.length_take, dlt_len]; omega
  rw [List.set_append_right _ _ (by omega), hl, Nat.sub_self, List.drop_eq_getElem_cons h, List.set_cons_zero]
  have hg : dl b k i = (dlt b k)[i]'(by rw [dlt_len]; exact h) := by
    have := dlt_get b k h
    rw [List.getD_eq_getElem?_getD, List.getElem?_eq_getElem (by rw [dlt_len]; exact h)] at this
    exact this.symm
  rw [hg, List.take_succ_eq_append_getElem (by rw [dlt_len]; exact h), List.append_assoc]
  rfl
theorem und_to (b : List Int) (k : Nat) {i : Nat} (h : i < b.length) : (unA b k i ++ b.drop i).set i (un b k i) = unA b k (i + 1) ++ b.drop (i + 1) := by
  have hl : (unA b k i).length = i := unA_len b k i
  rw [List.set_append_right _ _ (by omega), hl, Nat.sub_self, List.drop_eq_getElem_cons h, List.set_cons_zero, unA, List.append_assoc]
  rfl

/-- Records that are alike. -/
theorem rep_get (r : List Int) : ∀ (c i : Nat), i + r.length < c * r.length → ((List.replicate c r).flatten).getD (i + r.length) 0 = ((List.replicate c r).flatten).getD i 0
  | 0, i, h => by omega
  | c + 1, i, h => by
    have hl : ∀ c, ((List.replicate c r).flatten).length = c * r.length := fun c => by simp
    rw [Nat.succ_mul] at h
    rw [List.replicate_succ, List.flatten_cons, List.getD_eq_getElem?_getD, List.getD_eq_getElem?_getD, List.getElem?_append_right (by omega), Nat.add_sub_cancel]
    by_cases e : i < r.length
    · rw [List.getElem?_append_left e]
      obtain ⟨d, rfl⟩ : ∃ d, c = d + 1 := by
        rcases c with _ | d
        · omega
        · exact ⟨d, rfl⟩
      rw [List.replicate_succ, List.flatten_cons, List.getElem?_append_left e]
    · rw [List.getElem?_append_right (by omega)]
      have ih := rep_get r c (i - r.length) (by omega)
      rw [Nat.sub_add_cancel (by omega), List.getD_eq_getElem?_getD, List.getD_eq_getElem?_getD] at ih
      exact ih
theorem scN_all (b : List Int) (k : Nat) : ∀ i, k ≤ i → (∀ j, i ≤ j → j < b.length → b.getD j 0 = b.getD (j - k) 0) → scN b k i = b.length - i := by
  intro i hi h
  rw [scN]
  split
  · rename_i hl
    rw [if_pos (h i (Nat.le_refl _) hl), scN_all b k (i + 1) (by omega) (fun j h1 h2 => h j (by omega) h2)]
    omega
  · omega
termination_by i => b.length - i
theorem rep_scr (r : List Int) (c : Nat) (hr : 1 ≤ r.length) : scr (List.replicate c r).flatten (r.length : Int) = c * r.length - r.length := by
  have hl : ((List.replicate c r).flatten).length = c * r.length := by simp
  rw [scr_nat _ hr, scN_all _ _ _ (Nat.le_refl _), hl]
  intro j h1 h2
  rw [hl] at h2
  have := rep_get r c (j - r.length) (by omega)
  rwa [Nat.sub_add_cancel h1] at this
theorem rep_wdt (r : List Int) (c : Nat) (h2 : 2 ≤ r.length) (h16 : r.length ≤ 16) (hc : 4 ≤ c) :
    2 ≤ wdt (List.replicate c r).flatten ∧ wdt (List.replicate c r).flatten ≤ r.length ∧ scr (List.replicate c r).flatten (r.length : Int) ≤ scr (List.replicate c r).flatten (wdt (List.replicate c r).flatten : Int) := by
  obtain ⟨b, hb⟩ : ∃ b, b = (List.replicate c r).flatten := ⟨_, rfl⟩
  have hl : b.length = c * r.length := by rw [hb]; simp
  have hs : scr b (r.length : Int) = c * r.length - r.length := by rw [hb]; exact rep_scr r c (by omega)
  rw [← hb]
  obtain ⟨L, hL⟩ : ∃ L, L = r.length := ⟨_, rfl⟩
  rw [← hL] at hs hl h2 h16 ⊢
  have hcl : 4 * L ≤ c * L := Nat.mul_le_mul_right L hc
  -- up to the record's own width
  have h1 : ∀ j, L ≤ j + 1 → (wfo b j).1 ≤ L ∧ 2 ≤ (wfo b j).1 ∧ c * L - L ≤ (wfo b j).2 := by
    intro j
    induction j with
    | zero => intro h; omega
    | succ j ih =>
      intro h
      by_cases e : L ≤ j + 1
      · obtain ⟨i1, i2, i3⟩ := ih e
        rw [wfo]
        unfold wst
        rw [if_neg]
        · exact ⟨i1, i2, i3⟩
        · intro hc2
          have hw := scN_le b (j + 2) (j + 2)
          rw [scr_nat b (by omega)] at hc2
          omega
      · have hj : j + 2 = L := by omega
        rw [wfo, hj]
        unfold wst
        by_cases hcd : 4 * L ≤ b.length ∧ b.length < 2 * scr b (L : Int) ∧ (wfo b j).2 < scr b (L : Int)
        · rw [if_pos hcd, hs]
          exact ⟨Nat.le_refl _, h2, Nat.le_refl _⟩
        · rw [if_neg hcd]
          rcases wfo_in b j with e0 | ⟨i1, i2, i3, _⟩
          · exfalso
            apply hcd
            rw [e0, hs, hl]
            refine ⟨hcl, by omega, by simp only []; omega⟩
          · refine ⟨by omega, i1, ?_⟩
            rw [hs, hl] at hcd
            omega
  obtain ⟨i1, i2, i3⟩ := h1 15 (by omega)
  refine ⟨i2, i1, ?_⟩
  rcases wfo_in b 15 with e0 | ⟨_, _, i4, _⟩
  · rw [e0] at i2; exact absurd i2 (by simp)
  · rw [hs]
    show c * L - L ≤ scr b ((wfo b 15).1 : Int)
    rw [← i4]
    exact i3

end Go.Proofs.Ytbbkdgbgfncjaaa
