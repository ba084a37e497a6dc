/- The code's fits of filters. -/
import Derived.Test.YtnmapfoinhomdaaFilCe
namespace Go.Proofs.Ytnmapfoinhomdaa
open Go.RowKit
set_option maxRecDepth 100000

attribute [local go_sem ↓] Go.wp_at_zero Go.wp_at_succ

set_option maxHeartbeats 1600000 in
theorem cFitF_no (n : Nat) (wd mo p : Int) (w : World) (h : ¬ (1 ≤ wd ∧ wd ≤ 1048576 ∧ 1 ≤ p ∧ p ≤ 4)) :
    Calls Try.prog 34 #[.int .i64 n, .int .i64 wd, .int .i64 mo, .int .i64 p] w fun e w' => e = .returned (.bool false) ∧ w = w' := by
  have hc : wd < 1 ∨ (¬ wd < 1 ∧ 1048576 < wd) ∨ (¬ wd < 1 ∧ ¬ 1048576 < wd ∧ p < 1) ∨ (¬ wd < 1 ∧ ¬ 1048576 < wd ∧ ¬ p < 1 ∧ 4 < p) := by omega
  clear h
  rcases hc with h1 | ⟨h1, h2⟩ | ⟨h1, h2, h3⟩ | ⟨h1, h2, h3, h4⟩
  all_goals
    go_enter Try.func34, Try.ntmps34
    go_wp2_with fail
    go_ret
    exact ⟨rfl, rfl⟩

set_option maxHeartbeats 1600000 in
theorem cFitF_in (n v D : Nat) (mo p : Int) (w : World) (hv : 1 ≤ v ∧ v ≤ 1048576) (hp : 1 ≤ p ∧ p ≤ 4) (hD : (v : Int) + mo = D) (h1 : v ≤ D) (h2 : D ≤ 1048577) (hn : n ≤ 16777216) :
    Calls Try.prog 34 #[.int .i64 n, .int .i64 v, .int .i64 mo, .int .i64 p] w fun e w' => e = .returned (.bool (decide (n % D = 0 ∧ n / D * v ≤ 1048576))) ∧ w = w' := by
  have e1 : (n : Int).tmod (D : Int) = ((n % D : Nat) : Int) := by rw [Int.tmod_eq_emod_of_nonneg (by omega), ← Int.natCast_emod]
  have e2 : (n : Int).tdiv (D : Int) = ((n / D : Nat) : Int) := by rw [Int.tdiv_eq_ediv_of_nonneg (by omega), ← Int.natCast_ediv]
  have e3 : ((n / D : Nat) : Int) * (v : Int) = ((n / D * v : Nat) : Int) := (Int.natCast_mul _ _).symm
  have b1 : n / D ≤ n := Nat.div_le_self _ _
  have b2 : n / D * v ≤ n := Nat.le_trans (Nat.mul_le_mul_left _ h1) (Nat.div_mul_le_self _ _)
  have a1 : ¬ (v : Int) < 1 := by omega
  have a2 : ¬ (1048576 : Int) < (v : Int) := by omega
  have a3 : ¬ p < 1 := by omega
  have a4 : ¬ 4 < p := by omega
  have a5 : (D : Int) ≠ 0 := by omega
  have w1 : IntKind.i64.wrap (D : Int) = (D : Int) := IntWalk.i64_in _ (by omega)
  have b0 : n % D ≤ n := Nat.mod_le n D
  generalize n % D = r at *
  generalize n / D * v = m at *
  generalize n / D = q at *
  have w2 : IntKind.i64.wrap (r : Int) = (r : Int) := IntWalk.i64_in _ (by omega)
  have w3 : IntKind.i64.wrap (q : Int) = (q : Int) := IntWalk.i64_in _ (by omega)
  have w4 : IntKind.i64.wrap (m : Int) = (m : Int) := IntWalk.i64_in _ (by omega)
  clear hv hp h1 h2 hn b0 b1 b2
  by_cases hr : r = 0
  · subst hr
    by_cases hm : m ≤ 1048576
    · have m0 : (m : Int) ≤ 1048576 := by omega
      rw [decide_eq_true ⟨rfl, hm⟩]
      clear hm
      go_enter Try.func34, Try.ntmps34
      go_wp2_with fail
      go_ret
      exact ⟨rfl, rfl⟩
    · have m0 : ¬ (m : Int) ≤ 1048576 := by omega
      rw [decide_eq_false (fun h => hm h.2)]
      clear hm
      go_enter Try.func34, Try.ntmps34
      go_wp2_with fail
      go_ret
      exact ⟨rfl, rfl⟩
  · have r0 : ¬ (r : Int) = 0 := by omega
    rw [decide_eq_false (fun h => hr h.1)]
    clear hr
    go_enter Try.func34, Try.ntmps34
    go_wp2_with fail
    go_ret
    exact ⟨rfl, rfl⟩

/-- How much may be. -/
theorem okA_fit {v n : Nat} {p : Int} (hv : 1 ≤ v ∧ v ≤ 1048576) (hp : 1 ≤ p ∧ p ≤ 4) : (n % v = 0 ∧ n / v * v ≤ 1048576) ↔ okA v p n := by
  unfold okA
  rw [Int.toNat_natCast]
  have h := Nat.div_add_mod n v
  rw [Nat.mul_comm] at h
  constructor
  · rintro ⟨h1, h2⟩
    refine ⟨by omega, by omega, hp.1, hp.2, ?_, h1⟩
    omega
  · rintro ⟨_, _, _, _, h1, h2⟩
    exact ⟨h2, by omega⟩
theorem okU_fit {v n : Nat} {p : Int} (hv : 1 ≤ v ∧ v ≤ 1048576) (hp : 1 ≤ p ∧ p ≤ 4) : (n % (v + 1) = 0 ∧ n / (v + 1) * v ≤ 1048576) ↔ okU v p n := by
  unfold okU
  rw [Int.toNat_natCast]
  have h := Nat.div_add_mod n (v + 1)
  rw [Nat.mul_comm, Nat.mul_add, Nat.mul_one] at h
  constructor
  · rintro ⟨h1, h2⟩
    refine ⟨by omega, by omega, hp.1, hp.2, h1, ?_⟩
    omega
  · rintro ⟨_, _, _, _, h1, h2⟩
    exact ⟨h1, by omega⟩

end Go.Proofs.Ytnmapfoinhomdaa
