/- The code's head of a plain picture, as plain mathematics; it is the document's. -/
import Derived.Test.YtlmhodkdcllcjaaPicC
namespace Go.Proofs.Ytlmhodkdcllcjaa
open Go.RowKit
set_option maxRecDepth 100000

/-- Behind a remark, if one begins here. -/
def rmk (l : List Int) (i : Nat) : Nat := if l.getD i 0 = 35 then eol l i else i
theorem rmk_ge (l : List Int) (i : Nat) : i ≤ rmk l i := by
  unfold rmk
  split
  · exact eol_ge l i
  · exact Nat.le_refl _
theorem rmk_le (l : List Int) (i : Nat) (h : i ≤ l.length) : rmk l i ≤ l.length := by
  unfold rmk
  split
  · exact eol_le l i h
  · exact h
theorem getD_past {l : List Int} {i : Nat} (h : l.length ≤ i) : l.getD i 0 = 0 := by
  rw [List.getD_eq_getElem?_getD, List.getElem?_eq_none h]; rfl
theorem blk_lt {l : List Int} {i : Nat} (h : blk (l.getD i 0)) : i < l.length := by
  rcases Nat.lt_or_ge i l.length with h1 | h1
  · exact h1
  · rw [getD_past h1] at h
    exact absurd h (by decide)
/-- Behind white, and whether there was some. -/
def cwh (l : List Int) (t : Bool) (i : Nat) : Bool × Nat := if blk (l.getD (rmk l i) 0) then cwh l true (rmk l i + 1) else (t, rmk l i)
termination_by l.length - i
decreasing_by
  rename_i h
  have h1 := blk_lt h
  have h2 := rmk_ge l i
  omega
theorem cwh_le (l : List Int) (t : Bool) (i : Nat) (h : i ≤ l.length) : (cwh l t i).2 ≤ l.length := by
  rw [cwh]
  split
  · rename_i hb
    exact cwh_le l true (rmk l i + 1) (blk_lt hb)
  · exact rmk_le l i h
termination_by l.length - i
decreasing_by
  rename_i h
  have h1 := blk_lt h
  have h2 := rmk_ge l i
  omega
/-- Is it a digit? -/
def dgt (x : Int) : Prop := 48 ≤ x ∧ x ≤ 57
instance (x : Int) : Decidable (dgt x) := by unfold dgt; infer_instance
theorem dgt_lt {l : List Int} {i : Nat} (h : dgt (l.getD i 0)) : i < l.length := by
  rcases Nat.lt_or_ge i l.length with h1 | h1
  · exact h1
  · rw [getD_past h1] at h
    exact absurd h (by decide)
/-- So many digits at most. -/
def dgs (l : List Int) : Nat → Nat → Nat → Nat × Nat
  | 0, i, v => (v, i)
  | f + 1, i, v => if dgt (l.getD i 0) then dgs l f (i + 1) (10 * v + (l.getD i 0 - 48).toNat) else (v, i)
theorem dgs_le (l : List Int) : ∀ f i v, i ≤ l.length → (dgs l f i v).2 ≤ l.length
  | 0, i, v, h => h
  | f + 1, i, v, h => by
    rw [dgs]
    split
    · rename_i hd
      exact dgs_le l f _ _ (dgt_lt hd)
    · exact h
theorem dgs_lt (l : List Int) : ∀ f i v k, v < 10 ^ k → (dgs l f i v).1 < 10 ^ (k + f)
  | 0, i, v, k, h => h
  | f + 1, i, v, k, h => by
    rw [dgs]
    split
    · rename_i hd
      have := dgs_lt l f (i + 1) (10 * v + (l.getD i 0 - 48).toNat) (k + 1) (by
        have h1 := hd.1
        have h2 := hd.2
        rw [Nat.pow_succ]
        omega)
      rwa [show k + 1 + f = k + (f + 1) by omega] at this
    · exact Nat.lt_of_lt_of_le h (Nat.pow_le_pow_right (by decide) (by omega))
/-- White, and a number. -/
def cnm (l : List Int) (i : Nat) : Nat × Nat := if (cwh l false i).1 then dgs l 5 (cwh l false i).2 0 else (0, (cwh l false i).2)
theorem cnm_le (l : List Int) (i : Nat) (h : i ≤ l.length) : (cnm l i).2 ≤ l.length := by
  unfold cnm
  split
  · exact dgs_le l 5 _ 0 (cwh_le l false i h)
  · exact cwh_le l false i h
theorem cnm_lt (l : List Int) (i : Nat) : (cnm l i).1 < 100000 := by
  unfold cnm
  split
  · exact dgs_lt l 5 _ 0 0 (by decide)
  · exact (by decide : 0 < 100000)

theorem eol_at (l : List Int) (i : Nat) (h : eol l i < l.length) : l.getD (eol l i) 0 = 10 := by
  rw [eol] at h ⊢
  split
  · split
    · assumption
    · rename_i h1 h2
      rw [if_pos h1, if_neg h2] at h
      exact eol_at l (i + 1) h
  · rename_i h1
    rw [if_neg h1] at h
    exact absurd h h1
termination_by l.length - i
/-- The document's white is the code's. -/
theorem whi_cwh (l : List Int) (f i : Nat) (t : Bool) (hf : f ≤ i) (hi : i ≤ l.length) (ht : t = decide (f < i)) :
    (∀ k : Nat, whi l f i = k → cwh l t i = (true, k)) ∧ (whi l f i = -1 → (cwh l t i).1 = false ∨ (cwh l t i).2 = l.length) := by
  rw [whi, cwh]
  by_cases h1 : i < l.length
  · rw [if_pos h1]
    by_cases h2 : blk (l.getD i 0)
    · have h3 : l.getD i 0 ≠ 35 := fun e => by rw [e] at h2; exact absurd h2 (by decide)
      rw [if_pos h2, show rmk l i = i from if_neg h3, if_pos h2]
      exact whi_cwh l f (i + 1) true (by omega) h1 (decide_eq_true (by omega)).symm
    · rw [if_neg h2]
      by_cases h3 : l.getD i 0 = 35
      · rw [if_pos h3, show rmk l i = eol l i from if_pos h3]
        have hg := eol_ge l i
        by_cases h4 : eol l i < l.length
        · rw [if_pos h4, if_pos (show blk (l.getD (eol l i) 0) by rw [eol_at l i h4]; decide)]
          exact whi_cwh l f (eol l i + 1) true (by omega) h4 (decide_eq_true (by omega)).symm
        · have hl := eol_le l i hi
          have he : eol l i = l.length := by omega
          rw [if_neg h4, if_neg (fun h => h4 (blk_lt h))]
          exact ⟨fun k e => by omega, fun _ => .inr he⟩
      · rw [if_neg h3, show rmk l i = i from if_neg h3, if_neg h2]
        by_cases h4 : i = f
        · rw [if_pos h4]
          refine ⟨fun k e => by omega, fun _ => .inl ?_⟩
          rw [ht]
          exact decide_eq_false (by omega)
        · rw [if_neg h4]
          refine ⟨fun k e => ?_, fun e => by omega⟩
          have : k = i := by omega
          rw [this, ht, decide_eq_true (by omega)]
  · have he : i = l.length := by omega
    have h0 : l.getD i 0 = 0 := getD_past (by omega)
    rw [if_neg h1, show rmk l i = i from if_neg (by rw [h0]; decide), if_neg (by rw [h0]; decide)]
    exact ⟨fun k e => by omega, fun _ => .inr he⟩
termination_by l.length - i
decreasing_by
  · omega
  · have := eol_ge l i
    omega
/-- Digits. -/
theorem numR_dgs (l : List Int) : ∀ (f i v : Nat), ((numR l (f + 1) i v).2.2 ≠ 0 → (numR l (f + 1) i v).1 = ((dgs l f i v).1 : Nat) ∧ (numR l (f + 1) i v).2.1 = (dgs l f i v).2) ∧ ((numR l (f + 1) i v).2.2 = 0 → dgt (l.getD (dgs l f i v).2 0))
  | 0, i, v => by
    rw [numR]
    split
    · rename_i h
      exact ⟨fun e => absurd rfl e, fun _ => h.2⟩
    · exact ⟨fun _ => ⟨rfl, rfl⟩, fun e => absurd e (by simp)⟩
  | f + 1, i, v => by
    rw [numR, dgs]
    by_cases h : dgt (l.getD i 0)
    · rw [if_pos ⟨dgt_lt h, h⟩, if_pos h]
      have := numR_dgs l f (i + 1) (10 * v + (l.getD i 0 - 48).toNat)
      rw [show ((10 * v + (l.getD i 0 - 48).toNat : Nat) : Int) = 10 * (v : Int) + (l.getD i 0 - 48) from by have := h.1; omega] at this
      exact this
    · rw [if_neg (fun e => h e.2), if_neg h]
      exact ⟨fun _ => ⟨rfl, rfl⟩, fun e => absurd e (by simp)⟩

theorem tok_cnm {l : List Int} {i : Nat} (hi : i ≤ l.length) {t : Nat × Nat} (h : tok l i = some t) : cnm l i = t := by
  obtain ⟨j, h1, _, _, h4, _⟩ := tok_some h
  have h5 := (whi_cwh l i i false (Nat.le_refl _) hi (decide_eq_false (Nat.lt_irrefl _)).symm).1 j h1
  unfold cnm
  rw [h5]
  simp only [if_true]
  unfold numP at h4
  split at h4
  · exact absurd (congrArg Prod.fst h4) (by simp only []; omega)
  · rename_i hc
    obtain ⟨h6, _⟩ := numR_dgs l 5 j 0
    obtain ⟨h7, h8⟩ := h6 (fun e => hc (.inr e))
    have e1 := congrArg Prod.fst h4
    have e2 := congrArg Prod.snd h4
    simp only [] at e1 e2
    rw [show ((0 : Nat) : Int) = 0 from rfl, show 5 + 1 = 6 from rfl] at h7 h8
    apply Prod.ext <;> omega
theorem tok_none {l : List Int} {i : Nat} (hi : i ≤ l.length) (h : tok l i = none) : (cnm l i).1 = 0 ∨ dgt (l.getD (cnm l i).2 0) := by
  have hw := whi_cwh l i i false (Nat.le_refl _) hi (decide_eq_false (Nat.lt_irrefl _)).symm
  rcases whi_in l i i (Nat.le_refl _) with e | e
  · rcases hw.2 e with h1 | h1
    · left
      unfold cnm
      rw [h1]
      rfl
    · left
      unfold cnm
      split
      · rw [h1, dgs, if_neg (fun hd => absurd (dgt_lt hd) (Nat.lt_irrefl _))]
      · rfl
  · obtain ⟨j, hj⟩ : ∃ j : Nat, whi l i i = j := ⟨(whi l i i).toNat, by omega⟩
    have h5 := hw.1 j hj
    unfold tok at h
    rw [hj, if_neg (by omega), Int.toNat_natCast] at h
    split at h
    · rename_i hn
      unfold cnm
      rw [h5]
      simp only [if_true]
      obtain ⟨h6, h7⟩ := numR_dgs l 5 j 0
      unfold numP at hn
      split at hn
      · rename_i hc
        rcases hc with hc | hc
        · left
          rw [dgs]
          split
          · rename_i hd
            exfalso
            rw [numR, if_pos ⟨dgt_lt hd, hd⟩] at hc
            have := (numR_in l 5 (j + 1) (10 * 0 + (l.getD j 0 - 48)) (by have := hd.1; omega) (dgt_lt hd)).2.2.2.1
            omega
          · rfl
        · right
          exact h7 hc
      · simp only [] at hn
        omega
    · cases h
theorem cnm_dgt {l : List Int} {i : Nat} (h : dgt (l.getD i 0)) : cnm l i = (0, i) := by
  have h1 : l.getD i 0 ≠ 35 := fun e => by rw [e] at h; exact absurd h (by decide)
  have h2 : ¬ blk (l.getD i 0) := fun e => by unfold blk at e; unfold dgt at h; omega
  have h3 : cwh l false i = (false, i) := by rw [cwh, show rmk l i = i from if_neg h1, if_neg h2]
  unfold cnm
  rw [h3]
  rfl

/-- What the head of a plain picture tells. -/
def pnmH (l : List Int) : Option (Nat × Nat × Nat × Nat × Nat) :=
  if hdP l ∧ (1 ≤ (cnm l (cnm l (cnm l 2).2).2).1 ∧ (cnm l (cnm l (cnm l 2).2).2).1 ≤ 255) ∧ blk (l.getD (cnm l (cnm l (cnm l 2).2).2).2 0) then
    some ((cnm l 2).1, (cnm l (cnm l 2).2).1, plnP l, (cnm l 2).1 * plnP l, (cnm l (cnm l (cnm l 2).2).2).2 + 1) else none
theorem pnmH_ok {l : List Int} (hl : l.length ≤ 1000000000) {r : Nat × Nat × Nat × Nat × Nat} (h : pnmH l = some r) : okH r := by
  unfold pnmH at h
  split at h
  · rename_i hc
    injection h with h
    subst h
    have hp : plnP l ≤ 3 := by unfold plnP; split <;> omega
    have h1 := blk_lt hc.2.2
    refine ⟨hp, ?_, by simp only []; omega⟩
    simp only []
    have := Nat.mul_le_mul (Nat.le_of_lt (cnm_lt l 2)) hp
    omega
  · cases h
theorem fitP_zero1 {b s f n : Int} : ¬ fitP (0 : Nat) b s f n := fun h => absurd h.1 (by decide)
theorem fitP_zero2 {a s f n : Int} : ¬ fitP a (0 : Nat) s f n := fun h => absurd h.2.2.1 (by decide)
theorem pnmP_fit (l : List Int) : pnmP l = fitO l.length (pnmH l) := by
  unfold pnmP pnmH
  by_cases hh : hdP l
  · rw [if_pos hh]
    have hl2 := hh.1
    have l1 := cnm_le l 2 hl2
    have l2 := cnm_le l _ l1
    have l3 := cnm_le l _ l2
    -- a head that is none
    have no : ∀ (P : Prop) [Decidable P] (r : Nat × Nat × Nat × Nat × Nat), (P → r.1 = 0 ∨ r.2.1 = 0) → fitO l.length (if P then some r else none) = none := fun P _ r hr => by
      by_cases hp : P
      · rw [if_pos hp]
        unfold fitO
        rcases hr hp with e | e
        · simp only [e, fitP_zero1, if_false]
        · simp only [e, fitP_zero2, if_false]
      · rw [if_neg hp]; rfl
    cases t1 : tok l 2 with
    | none =>
      have hc : chn l 3 = none := chn_none (k := 1) (by simp [chn, t1]) 3 (by omega)
      rw [hc]
      refine (no _ _ fun _ => ?_).symm
      rcases tok_none hl2 t1 with e | e
      · exact .inl e
      · right
        simp only []
        rw [cnm_dgt e]
    | some a =>
      have e1 := tok_cnm hl2 t1
      rw [e1] at l1 l2 l3 ⊢
      have c1 : chn l 1 = some ([a.1], a.2) := by simp [chn, t1]
      cases t2 : tok l a.2 with
      | none =>
        have hc : chn l 3 = none := chn_none (k := 2) (by rw [chn, c1]; simp only [t2]) 3 (by omega)
        rw [hc]
        refine (no _ _ fun hp => ?_).symm
        rcases tok_none l1 t2 with e | e
        · exact .inr e
        · exfalso
          have h1 := hp.2.1.1
          rw [cnm_dgt e] at h1
          exact absurd h1 (Nat.not_succ_le_zero 0)
      | some b =>
        have e2 := tok_cnm l1 t2
        rw [e2] at l2 l3 ⊢
        have c2 : chn l 2 = some ([a.1, b.1], b.2) := by rw [chn, c1]; simp only [t2]; rfl
        cases t3 : tok l b.2 with
        | none =>
          have hc : chn l 3 = none := by rw [chn, c2]; simp only [t3]
          rw [hc, if_neg]
          · rfl
          · intro hp
            rcases tok_none l2 t3 with e | e
            · have h1 := hp.2.1.1
              rw [e] at h1
              exact absurd h1 (by decide)
            · have h1 := hp.2.2
              unfold blk at h1
              unfold dgt at e
              omega
        | some c =>
          have e3 := tok_cnm l2 t3
          rw [e3] at l3 ⊢
          have c3 : chn l 3 = some ([a.1, b.1, c.1], c.2) := by rw [chn, c2]; simp only [t3]; rfl
          rw [c3]
          simp only [List.getD_cons_zero, List.getD_cons_succ]
          by_cases hp : 1 ≤ c.1 ∧ c.1 ≤ 255 ∧ blk (l.getD c.2 0)
          · rw [if_pos ⟨blk_lt hp.2.2, hp.2.2, hp.1, hp.2.1⟩, if_pos ⟨hh, ⟨hp.1, hp.2.1⟩, hp.2.2⟩]
            rfl
          · rw [if_neg (fun h => hp ⟨h.2.2.1, h.2.2.2, h.2.1⟩), if_neg (fun h => hp ⟨h.2.1.1, h.2.1.2, h.2.2⟩)]
            rfl
  · rw [if_neg hh, if_neg (fun h => hh h.1)]
    rfl

end Go.Proofs.Ytlmhodkdcllcjaa
