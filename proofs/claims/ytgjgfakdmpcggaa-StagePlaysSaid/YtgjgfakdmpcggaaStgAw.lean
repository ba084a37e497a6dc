/- The contract of valiselaw07.awake. -/
import Derived.Test.YtgjgfakdmpcggaaStgNew
namespace Go.Proofs.Ytgjgfakdmpcggaa
open Go.RowKit

attribute [local go_sem ↓] Go.wp_at_zero Go.wp_at_succ

theorem awake_rd : rd fs (sx 2048) = 2048 := by decide +kernel
theorem awake_fs : fs (pl 16 33) = 32768 := by decide +kernel

set_option maxHeartbeats 800000 in
theorem awake_any (w : World) : Calls Try.prog 8 #[] w fun e w' => e = .returned (.bool true) ∧ Fresh w w' := by
  go_enter Try.func8, Try.ntmps8
  go_wp2_with fail
  refine (sNew_any 1 _).mono ?_
  rintro e w1 ⟨g, h, rfl, hm, hg, hh, hf⟩
  rw [show nc 1 = 1 from rfl] at hm
  have HM := Lib.hid hm
  have HF := Lib.hid hf
  clear hm hf
  go_wp2_with fail
  refine (sRefine_any g h 1 _ _ 2048 0 _ HM.out).mono ?_
  rw [awake_rd]
  rintro e w2 ⟨rfl, hm2, hk2⟩
  have HM2 := Lib.hid hm2
  have HF2 := Lib.hid (HF.out.trans hk2 (fun i hi e => by omega))
  clear hm2 hk2
  go_wp2_with fail
  refine (sAt_any g h 1 _ _ 0 16 _ HM2.out).mono ?_
  rw [awake_fs]
  rintro e w3 ⟨rfl, N, rfl⟩
  go_wp2_with fail
  go_ret
  exact ⟨rfl, HF2.out.drewN _⟩

end Go.Proofs.Ytgjgfakdmpcggaa
