/- The contracts of the document's own reader of bits. -/
import Derived.Test.YtodmchjdflpbpaaBitsR2
import Derived.Lib.MinMax
namespace Go.Proofs.Ytodmchjdflpbpaa
open Go.RowKit
set_option maxRecDepth 100000





theorem sUnary_at (bs : List Int) (p m L j : Nat) (_hj : j ≤ m) (hL : j ≤ L) (ha : ∀ i, i < j → bitAt bs (p + i) ≠ 0) :
    (j = m → sUnary bs p 0 m L = (m, p + m, 0)) ∧ (j < m → j = L → sUnary bs p 0 m L = (0, p, 3)) ∧ (j < m → j < L → bitAt bs (p + j) = 0 → sUnary bs p 0 m L = (j, p + j + 1, 0)) := by
  refine ⟨fun e => ?_, fun h1 e => ?_, fun h1 h2 hb => ?_⟩
  · have := onesN_eq bs j p (min m L) (by omega) ha (.inl (by omega))
    unfold sUnary; rw [if_neg (by simp), this, if_pos e]
  · have := onesN_eq bs j p (min m L) (by omega) ha (.inl (by omega))
    unfold sUnary; rw [if_neg (by simp), this, if_neg (by omega), if_pos e]
  · have := onesN_eq bs j p (min m L) (by omega) ha (.inr hb)
    unfold sUnary; rw [if_neg (by simp), this, if_neg (by omega), if_neg (by omega)]



end Go.Proofs.Ytodmchjdflpbpaa
