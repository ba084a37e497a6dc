/- The document's test whether rows lie within a file. -/
import Derived.Test.YtlmhodkdcllcjaaPicL
namespace Go.Proofs.Ytlmhodkdcllcjaa
open Go.RowKit
set_option maxRecDepth 100000

attribute [local go_sem ↓] Go.wp_at_zero Go.wp_at_succ

/-- Do rows of so many bytes lie within so many? -/
def fitP (a b s f n : Int) : Prop := 1 ≤ a ∧ a ≤ 32768 ∧ 1 ≤ b ∧ b ≤ 32768 ∧ f ≤ n ∧ s * b ≤ n - f
instance (a b s f n : Int) : Decidable (fitP a b s f n) := by unfold fitP; infer_instance

set_option maxHeartbeats 1600000 in
theorem qFits_any (a b p s f n : Int) (w : World) (hs : 0 ≤ s ∧ s ≤ 1000000000000) (hf : 0 ≤ f ∧ f ≤ 10000000000) (hn : 0 ≤ n ∧ n ≤ 1000000000) :
    Calls Try.prog 22 #[.agg #[.int .i64 a, .int .i64 b, .int .i64 p, .int .i64 s, .int .i64 f], .int .i64 n] w fun e w' => e = .returned (.bool (decide (fitP a b s f n))) ∧ Fresh w w' := by
  have hcs : a < 1 ∨ (¬ a < 1 ∧ 32768 < a) ∨ (¬ a < 1 ∧ ¬ 32768 < a ∧ b < 1) ∨ (¬ a < 1 ∧ ¬ 32768 < a ∧ ¬ b < 1 ∧ 32768 < b) ∨ (¬ a < 1 ∧ ¬ 32768 < a ∧ ¬ b < 1 ∧ ¬ 32768 < b ∧ n < f) ∨ (¬ a < 1 ∧ ¬ 32768 < a ∧ ¬ b < 1 ∧ ¬ 32768 < b ∧ ¬ n < f) := by omega
  rcases hcs with h1 | ⟨h1, h2⟩ | ⟨h1, h2, h3⟩ | ⟨h1, h2, h3, h4⟩ | ⟨h1, h2, h3, h4, h5⟩ | ⟨h1, h2, h3, h4, h5⟩
  rotate_right
  · obtain ⟨m, hm⟩ : ∃ m, s * b = m := ⟨_, rfl⟩
    have m0 : 0 ≤ m := by rw [← hm]; exact Int.mul_nonneg hs.1 (by omega)
    have m1 : m ≤ 1000000000000 * 32768 := by rw [← hm]; exact Int.mul_le_mul hs.2 (by omega) (by omega) (by omega)
    have hd : decide (fitP a b s f n) = decide (m ≤ n - f) := decide_eq_decide.2 ⟨fun h => by rw [← hm]; exact h.2.2.2.2.2, fun h => ⟨by omega, by omega, by omega, by omega, by omega, by rw [hm]; exact h⟩⟩
    rw [hd]
    have w1 : IntKind.i64.wrap (s * b) = m := by rw [hm]; exact IntWalk.i64_in _ (by omega)
    clear hd
    go_enter Try.func22, Try.ntmps22
    go_wp2_with fail
    go_ret
    exact ⟨rfl, (Kept.refl _ _).alloc _⟩
  all_goals
    have hd : decide (fitP a b s f n) = false := decide_eq_false fun ⟨q1, q2, q3, q4, q5, _⟩ => by omega
    rw [hd]
    clear hd
    go_enter Try.func22, Try.ntmps22
    go_wp2_with fail
    go_ret
    exact ⟨rfl, (Kept.refl _ _).alloc _⟩

end Go.Proofs.Ytlmhodkdcllcjaa
