/- What the laws of colours ask of the code; awake. -/
import Derived.Test.YtbbkdgbgfncjaaaColQ
import Derived.Test.YtbbkdgbgfncjaaaRetRow
namespace Go.Proofs.Ytbbkdgbgfncjaaa
open Go.RowKit
set_option maxRecDepth 100000

attribute [local go_sem ↓] Go.wp_at_zero Go.wp_at_succ


/-- A list of n bytes is told, with room. -/
def Told8 (w w' : World) (e : Ending) (n : Nat) (xs : List Int) : Prop := ∃ B cB, e = .returned (.slice B n cB) ∧ Row w' .u8 B n xs ∧ n ≤ cB ∧ Fresh w w'
theorem Told8.of {w w' : World} {e : Ending} {n : Nat} {xs : List Int} (hn : xs.length = n) (h : ∃ u, e = .returned u ∧ NewRow w w' 5 .u8 u xs) : Told8 w w' e n xs := by
  obtain ⟨u, rfl, hu, _, hf⟩ := h
  have hcap := hu
  obtain ⟨B, cB, rfl, hr, _⟩ := hu.row
  have hc := hcap.cap
  rw [hn] at hr hc
  rw [hn]
  exact ⟨B, cB, rfl, hr, hc, hf⟩
theorem turn_three : trn (-1) [5, 3, 4] = [2, 3, 1] := by decide +kernel



end Go.Proofs.Ytbbkdgbgfncjaaa
