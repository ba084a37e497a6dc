/- The document's Undo where rows may not be turned back. -/
import Derived.Test.YtnmapfoinhomdaaFilU
namespace Go.Proofs.Ytnmapfoinhomdaa
open Go.RowKit
set_option maxRecDepth 100000

attribute [local go_sem ↓] Go.wp_at_zero Go.wp_at_succ

set_option maxHeartbeats 3200000 in
theorem qUndoNo_any (A : Option Addr) (n c : Nat) (wd p : Int) (w : World) (hn : n ≤ 1000000000) (h : ¬ okU wd p n) :
    Calls Try.prog 23 #[.slice A n c, .int .i64 wd, .int .i64 p] w fun e w' => e = .returned (.tuple #[.slice none 0 0, .int .i64 1]) ∧ Fresh w w' := by
  have hcs : (wd < 1) ∨ (¬ wd < 1 ∧ 1048576 < wd) ∨ (¬ wd < 1 ∧ ¬ 1048576 < wd ∧ p < 1) ∨ (¬ wd < 1 ∧ ¬ 1048576 < wd ∧ ¬ p < 1 ∧ 4 < p) ∨ (¬ wd < 1 ∧ ¬ 1048576 < wd ∧ ¬ p < 1 ∧ ¬ 4 < p ∧ n % (wd.toNat + 1) ≠ 0) ∨ (¬ wd < 1 ∧ ¬ 1048576 < wd ∧ ¬ p < 1 ∧ ¬ 4 < p ∧ n % (wd.toNat + 1) = 0 ∧ 1048576 < n - n / (wd.toNat + 1)) := by
    unfold okU at h
    omega
  clear h
  rcases hcs with k1 | ⟨k1, k2⟩ | ⟨k1, k2, k3⟩ | ⟨k1, k2, k3, k4⟩ | ⟨k1, k2, k3, k4, k5⟩ | ⟨k1, k2, k3, k4, k5, k6⟩
  rotate_right
  · obtain ⟨q, rfl⟩ : ∃ q : Nat, wd = q := ⟨wd.toNat, by omega⟩
    rw [Int.toNat_natCast] at k5 k6
    have hmz : ((n : Nat) : Int) % ((q : Int) + 1) = 0 := by exact_mod_cast k5
    have hmt : ((n : Nat) : Int).tmod ((q : Int) + 1) = 0 := by rw [Int.tmod_eq_emod_of_nonneg (by omega)]; exact hmz
    obtain ⟨R, hRe⟩ : ∃ R, n / (q + 1) = R := ⟨_, rfl⟩
    rw [hRe] at k6
    have hdz : ((n : Nat) : Int) / ((q : Int) + 1) = (R : Int) := by exact_mod_cast hRe
    have hR0 : R ≤ n := by rw [← hRe]; exact Nat.div_le_self _ _
    have g1 : ((q : Int) + 1 = 0) = False := by simp only [eq_iff_iff, iff_false]; omega
    have hn2 : 1048576 < (n : Int) - (R : Int) := by omega
    clear hRe k5
    go_enter Try.func23, Try.ntmps23
    go_wp2_with fail
    go_ret2
    exact ⟨rfl, Kept.refl _ _⟩
  rotate_right
  · obtain ⟨q, rfl⟩ : ∃ q : Nat, wd = q := ⟨wd.toNat, by omega⟩
    rw [Int.toNat_natCast] at k5
    obtain ⟨r, hr⟩ : ∃ r, n % (q + 1) = r := ⟨_, rfl⟩
    rw [hr] at k5
    have hmz : ((n : Nat) : Int) % ((q : Int) + 1) = (r : Int) := by exact_mod_cast hr
    have hmt : ((n : Nat) : Int).tmod ((q : Int) + 1) = (r : Int) := by rw [Int.tmod_eq_emod_of_nonneg (by omega)]; exact hmz
    have hm2 : ((r : Int) != 0) = true := by simp; omega
    have g1 : ((q : Int) + 1 = 0) = False := by simp only [eq_iff_iff, iff_false]; omega
    clear hr k5
    go_enter Try.func23, Try.ntmps23
    go_wp2_with fail
    go_ret2
    exact ⟨rfl, Kept.refl _ _⟩
  all_goals
    go_enter Try.func23, Try.ntmps23
    go_wp2_with fail
    go_ret2
    exact ⟨rfl, Kept.refl _ _⟩

end Go.Proofs.Ytnmapfoinhomdaa
