/- The document's Pnm, where it has no head. -/
import Derived.Test.YtlmhodkdcllcjaaPicM
namespace Go.Proofs.Ytlmhodkdcllcjaa
open Go.RowKit
set_option maxRecDepth 100000

attribute [local go_sem ↓] Go.wp_at_zero Go.wp_at_succ

set_option maxHeartbeats 6400000 in
theorem qPnmNo_any (A : Option Addr) (n c : Nat) (l : List Int) (w : World) (hr : Row w .u8 A n l) (h8 : B8 l) (hn : n ≤ 1000000000) (hno : ¬ hdP l) :
    Calls Try.prog 12 #[.slice A n c] w fun e w' => e = .returned (.tuple #[pval none, .bool false]) ∧ Fresh w w' := by
  obtain rfl := hr.len
  have hcs : l.length < 2 ∨ (¬ l.length < 2 ∧ l.getD 0 0 ≠ 80) ∨ (¬ l.length < 2 ∧ l.getD 0 0 = 80 ∧ l.getD 1 0 ≠ 53 ∧ l.getD 1 0 ≠ 54) := by
    unfold hdP at hno
    omega
  clear hno
  rcases hcs with h1 | ⟨h1, h2⟩ | ⟨h1, h2, h3, h4⟩
  · clear hr
    have l0 : (l.length : Int) < 2 := by omega
    go_enter Try.func12, Try.ntmps12
    go_wp2_with fail
    refine bodyPost_ret (v := .tuple #[pval none, .bool false]) (by simp [results, Try.f12, go_sem, pval]) rfl ?_
    exact ⟨rfl, (Kept.refl _ _).alloc _⟩
  · obtain ⟨b, o, rfl, hb, hc⟩ := hr.at_ 0 (by omega)
    rw [Nat.add_zero] at hc
    have hx := h8.at_ 0
    generalize l.getD 0 0 = x at *
    have bx : (x != 80) = true := by simp [h2]
    have l0 : ¬ (l.length : Int) < 2 := by omega
    have i0 : (0 : Int) < (l.length : Int) := by omega
    clear hr
    go_enter Try.func12, Try.ntmps12
    go_wp2_with fail
    refine bodyPost_ret (v := .tuple #[pval none, .bool false]) (by simp [results, Try.f12, go_sem, pval]) rfl ?_
    exact ⟨rfl, (Kept.refl _ _).alloc _⟩
  · obtain ⟨b, o, rfl, hb, hc⟩ := hr.at_ 0 (by omega)
    obtain ⟨b', o', eA, hb', hc'⟩ := hr.at_ 1 (by omega)
    injection eA with eA
    injection eA with e1 e2
    subst e1 e2
    rw [h2, Nat.add_zero] at hc
    have hx := h8.at_ 1
    generalize l.getD 1 0 = x at *
    have bx : (x != 53) = true := by simp [h3]
    have by_ : (x != 54) = true := by simp [h4]
    have l0 : ¬ (l.length : Int) < 2 := by omega
    have i0 : (0 : Int) < (l.length : Int) := by omega
    have i1 : (1 : Int) < (l.length : Int) := by omega
    clear hr
    go_enter Try.func12, Try.ntmps12
    go_wp2_with fail
    refine bodyPost_ret (v := .tuple #[pval none, .bool false]) (by simp [results, Try.f12, go_sem, pval]) rfl ?_
    exact ⟨rfl, (Kept.refl _ _).alloc _⟩

/-- Pnm: P16.2. -/
theorem qPnm_any (A : Option Addr) (n c : Nat) (l : List Int) (w : World) (hr : Row w .u8 A n l) (h8 : B8 l) (hn : n ≤ 1000000000) :
    Calls Try.prog 12 #[.slice A n c] w fun e w' => e = .returned (.tuple #[pval (pnmP l), .bool (pnmP l).isSome]) ∧ Fresh w w' := by
  by_cases hh : hdP l
  · exact qPnmIn_any A n c l w hr h8 hn hh
  · have hq : pnmP l = none := if_neg hh
    rw [hq]
    exact qPnmNo_any A n c l w hr h8 hn hh

end Go.Proofs.Ytlmhodkdcllcjaa
