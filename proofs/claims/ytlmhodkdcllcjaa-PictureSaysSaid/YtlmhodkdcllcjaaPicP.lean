/- The head of a plain picture, as plain mathematics: three numbers with white between. -/
import Derived.Test.YtlmhodkdcllcjaaPicN
import Derived.Test.YtlmhodkdcllcjaaPicB
namespace Go.Proofs.Ytlmhodkdcllcjaa
open Go.RowKit
set_option maxRecDepth 100000

/-- White and a number behind it: the number, the place behind. -/
def tok (l : List Int) (i : Nat) : Option (Nat × Nat) :=
  if whi l i i < 0 then none else if (numP l (whi l i i).toNat).2 < 0 then none else some ((numP l (whi l i i).toNat).1.toNat, (numP l (whi l i i).toNat).2.toNat)
/-- So many of them from place 2 on. -/
def chn (l : List Int) : Nat → Option (List Nat × Nat)
  | 0 => some ([], 2)
  | k + 1 => match chn l k with
    | none => none
    | some r => match tok l r.2 with
      | none => none
      | some t => some (r.1 ++ [t.1], t.2)
def hdP (l : List Int) : Prop := 2 ≤ l.length ∧ l.getD 0 0 = 80 ∧ (l.getD 1 0 = 53 ∨ l.getD 1 0 = 54)
instance (l : List Int) : Decidable (hdP l) := by unfold hdP; infer_instance
def plnP (l : List Int) : Nat := if l.getD 1 0 = 54 then 3 else 1
def pnmR (a b p f n : Nat) : Option (Nat × Nat × Nat × Nat × Nat) := if fitP a b ((a * p : Nat) : Int) f n then some (a, b, p, a * p, f) else none
def pnmP (l : List Int) : Option (Nat × Nat × Nat × Nat × Nat) :=
  if hdP l then match chn l 3 with
    | none => none
    | some r => if r.2 < l.length ∧ blk (l.getD r.2 0) ∧ 1 ≤ r.1.getD 2 0 ∧ r.1.getD 2 0 ≤ 255 then pnmR (r.1.getD 0 0) (r.1.getD 1 0) (plnP l) (r.2 + 1) l.length else none
  else none
def picP (l : List Int) : Option (Nat × Nat × Nat × Nat × Nat) := if (bmpP l).isSome then bmpP l else pnmP l

theorem numP_in {l : List Int} {i : Nat} (hi : i ≤ l.length) (h : ¬ (numP l i).2 < 0) : 0 ≤ (numP l i).1 ∧ (numP l i).1 < 100000 ∧ (i : Int) ≤ (numP l i).2 ∧ (numP l i).2 ≤ l.length := by
  obtain ⟨h1, h2, h3, h4, h5⟩ := numR_in l 6 i 0 (by omega) hi
  unfold numP at h ⊢
  split at h
  · exact absurd (show (-1 : Int) < 0 by omega) h
  · rename_i hc
    rw [if_neg hc]
    have h6 : 6 - (numR l 6 i 0).2.2 ≤ 5 := by omega
    have h7 : (10 : Int) ^ (6 - (numR l 6 i 0).2.2) ≤ 100000 := by
      rcases (show 6 - (numR l 6 i 0).2.2 = 0 ∨ 6 - (numR l 6 i 0).2.2 = 1 ∨ 6 - (numR l 6 i 0).2.2 = 2 ∨ 6 - (numR l 6 i 0).2.2 = 3 ∨ 6 - (numR l 6 i 0).2.2 = 4 ∨ 6 - (numR l 6 i 0).2.2 = 5 by omega) with e | e | e | e | e | e <;> rw [e] <;> decide
    simp only []
    omega
theorem tok_some {l : List Int} {i : Nat} {t : Nat × Nat} (h : tok l i = some t) : ∃ j : Nat, whi l i i = j ∧ i ≤ j ∧ j < l.length ∧ numP l j = ((t.1 : Int), (t.2 : Int)) ∧ t.1 < 100000 ∧ j ≤ t.2 ∧ t.2 ≤ l.length := by
  unfold tok at h
  split at h
  · cases h
  · rename_i h1
    split at h
    · cases h
    · rename_i h2
      injection h with h
      subst h
      rcases whi_in l i i (Nat.le_refl _) with e | e
      · omega
      · obtain ⟨j, hj⟩ : ∃ j : Nat, whi l i i = j := ⟨(whi l i i).toNat, by omega⟩
        rw [hj] at e h2 ⊢
        rw [Int.toNat_natCast] at h2 ⊢
        have := numP_in (l := l) (i := j) (by omega) h2
        refine ⟨j, rfl, by omega, by omega, ?_, by simp only []; omega, by simp only []; omega, by simp only []; omega⟩
        apply Prod.ext
        · simp only []; omega
        · simp only []; omega
theorem chn_len {l : List Int} : ∀ {k : Nat} {r : List Nat × Nat}, chn l k = some r → r.1.length = k ∧ (∀ v ∈ r.1, v < 100000) ∧ 2 ≤ r.2 ∧ (1 ≤ k → r.2 ≤ l.length)
  | 0, r, h => by
    injection h with h
    subst h
    simp
  | k + 1, r, h => by
    unfold chn at h
    split at h
    · cases h
    · rename_i q hq
      split at h
      · cases h
      · rename_i t ht
        injection h with h
        subst h
        obtain ⟨a1, a2, a3, _⟩ := chn_len hq
        obtain ⟨j, _, b2, b3, _, b5, b6, b7⟩ := tok_some ht
        refine ⟨by simp [a1], fun v hv => ?_, by simp only []; omega, fun _ => b7⟩
        rcases List.mem_append.1 hv with hv | hv
        · exact a2 v hv
        · simp only [List.mem_cons, List.not_mem_nil, or_false] at hv
          subst hv
          exact b5

end Go.Proofs.Ytlmhodkdcllcjaa
