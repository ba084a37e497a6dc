/- White and numbers of a picture's head, as plain mathematics. -/
import Derived.Test.YtlmhodkdcllcjaaFilMath
namespace Go.Proofs.Ytlmhodkdcllcjaa
open Go.RowKit
set_option maxRecDepth 100000

/-- A byte of white. -/
def blk (c : Int) : Prop := c = 32 ∨ c = 9 ∨ c = 10 ∨ c = 13
instance (c : Int) : Decidable (blk c) := by unfold blk; infer_instance
/-- The next end of a line, or the end. -/
def eol (b : List Int) (i : Nat) : Nat := if i < b.length then (if b.getD i 0 = 10 then i else eol b (i + 1)) else i
termination_by b.length - i
theorem eol_ge (b : List Int) (i : Nat) : i ≤ eol b i := by
  rw [eol]
  split
  · split
    · exact Nat.le_refl _
    · exact Nat.le_trans (Nat.le_succ i) (eol_ge b (i + 1))
  · exact Nat.le_refl _
termination_by b.length - i
theorem eol_le (b : List Int) (i : Nat) (h : i ≤ b.length) : eol b i ≤ b.length := by
  rw [eol]
  split
  · split
    · exact h
    · exact eol_le b (i + 1) (by omega)
  · exact h
termination_by b.length - i
/-- Behind white that began at f; -1, if there is none. -/
def whi (b : List Int) (f i : Nat) : Int :=
  if i < b.length then
    if blk (b.getD i 0) then whi b f (i + 1)
    else if b.getD i 0 = 35 then (if eol b i < b.length then whi b f (eol b i + 1) else -1)
    else if i = f then -1 else i
  else -1
termination_by b.length - i
decreasing_by
  · omega
  · have := eol_ge b i
    omega
theorem whi_in (b : List Int) (f i : Nat) (h : f ≤ i) : whi b f i = -1 ∨ (f ≤ whi b f i ∧ whi b f i < b.length) := by
  rw [whi]
  split
  · split
    · exact whi_in b f (i + 1) (by omega)
    · split
      · split
        · have := eol_ge b i
          exact whi_in b f (eol b i + 1) (by omega)
        · exact .inl rfl
      · split
        · exact .inl rfl
        · right; omega
  · exact .inl rfl
termination_by b.length - i
decreasing_by
  · omega
  · have := eol_ge b i
    omega
/-- Digits from i on, so many at most: the number, the place behind, how many more there might have been. -/
def numR (b : List Int) : Nat → Nat → Int → Int × Nat × Nat
  | 0, i, v => (v, i, 0)
  | f + 1, i, v => if i < b.length ∧ 48 ≤ b.getD i 0 ∧ b.getD i 0 ≤ 57 then numR b f (i + 1) (10 * v + (b.getD i 0 - 48)) else (v, i, f + 1)
/-- A number of one to five digits, and the place behind it. -/
def numP (b : List Int) (i : Nat) : Int × Int := if (numR b 6 i 0).2.2 = 6 ∨ (numR b 6 i 0).2.2 = 0 then (-1, -1) else ((numR b 6 i 0).1, ((numR b 6 i 0).2.1 : Nat))
theorem numR_in (b : List Int) : ∀ f i v, 0 ≤ v → i ≤ b.length → 0 ≤ (numR b f i v).1 ∧ i ≤ (numR b f i v).2.1 ∧ (numR b f i v).2.1 ≤ b.length ∧ (numR b f i v).2.2 ≤ f ∧ (numR b f i v).1 + 1 ≤ (v + 1) * 10 ^ (f - (numR b f i v).2.2)
  | 0, i, v, h, hi => by simp [numR, h, hi]
  | f + 1, i, v, h, hi => by
    rw [numR]
    split
    · rename_i hc
      obtain ⟨h1, h2, h3, h4, h5⟩ := numR_in b f (i + 1) (10 * v + (b.getD i 0 - 48)) (by omega) (by omega)
      refine ⟨h1, by omega, h3, by omega, Int.le_trans h5 ?_⟩
      rw [Nat.succ_sub h4, Int.pow_succ, ← Int.mul_assoc, Int.mul_right_comm]
      exact Int.mul_le_mul_of_nonneg_right (by omega) (Int.pow_nonneg (by omega))
    · simp [h, hi]

end Go.Proofs.Ytlmhodkdcllcjaa
