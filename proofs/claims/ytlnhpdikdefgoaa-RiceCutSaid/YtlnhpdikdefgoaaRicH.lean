/- The code of rice keeps what its laws ask. -/
import Derived.Test.YtlnhpdikdefgoaaRicG
namespace Go.Proofs.Ytlnhpdikdefgoaa
open Go.RowKit
set_option maxRecDepth 100000

attribute [local go_sem ↓] Go.wp_at_zero Go.wp_at_succ

set_option maxHeartbeats 800000 in
theorem cUnpackR_not (A : Option Addr) (n c : Nat) (m : Int) (w : World) (h : m < 0 ∨ 1048576 < m) :
    Calls Try.prog 19 #[.slice A n c, .int .i64 m] w fun e w' => e = .returned (.tuple #[.slice none 0 0, .int .i64 (if m < 0 then 1 else 5)]) ∧ Fresh w w' := by
  have hk : ∀ v : Value, Fresh w ((w.alloc (.cells #[.slice none 0 0] 22)).alloc (.cells #[v] 26)) := fun v => ((Kept.refl _ _).alloc _).alloc _
  by_cases h0 : m < 0
  · rw [if_pos h0]
    go_enter Try.func19, Try.ntmps19
    go_wp2
    refine bodyPost_ret (v := .tuple #[.slice none 0 0, .int .i64 1]) (by simp [results, Try.f19, go_sem]) rfl ?_
    exact ⟨rfl, hk _⟩
  · have h1 : 1048576 < m := by omega
    rw [if_neg h0]
    clear h
    go_enter Try.func19, Try.ntmps19
    go_wp2
    refine bodyPost_ret (v := .tuple #[.slice none 0 0, .int .i64 5]) (by simp [results, Try.f19, go_sem]) rfl ?_
    exact ⟨rfl, hk _⟩

theorem riceOK : RiceOK where
  pack := fun A n c l w hr h32 hn hnc => cPackR_any A n c l w hr h32 hn hnc
  unpack := fun A n c xs m w hr hb hn hm => cUnpackR_any A n c xs m w hr hb hn hm
  refuse := fun A n c m w h => cUnpackR_not A n c m w h
  cost := fun A n c l k w hr h32 hn => (cCost_any A n c l k w hr h32 hn).mono fun _ _ ⟨e1, e2⟩ => ⟨e1, e2 ▸ Kept.refl _ _⟩
  best := fun A n c l w hr h32 hn => (cBest_any A n c l w hr h32 hn).mono fun _ _ ⟨e1, e2⟩ => ⟨e1, e2 ▸ Kept.refl _ _⟩

end Go.Proofs.Ytlnhpdikdefgoaa
