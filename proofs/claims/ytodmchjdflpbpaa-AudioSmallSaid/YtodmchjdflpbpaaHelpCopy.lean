/- The contract of valisehelp.CopyBytes. -/
import Derived.Test.YtodmchjdflpbpaaKit
namespace Go.Proofs.Ytodmchjdflpbpaa
open Go.RowKit
set_option maxRecDepth 100000

theorem Try.infoByteP : (Try.prog.info? 5).map (fun i => (i.zero, i.size, i.bytes)) = some (some (.int .u8 0), 1, 1) := by kernel_rfl

set_option maxHeartbeats 800000 in
theorem hCopyBytes_any (A : Option Addr) (n c : Nat) (xs : List Int) (w : World) (hr : Row w .u8 A n xs) (hn : n ≤ 140737488355328) :
    Calls Try.prog 8 #[.slice A n c] w fun e w' => ∃ v, e = .returned v ∧ NewRow w w' 5 .u8 v xs := by
  obtain ⟨i0, hi, hz0, hz1, hz2⟩ := info_parts Try.infoByteP
  go_enter Try.func8, Try.ntmps8
  go_wp2_with (at_builtin; refine wpList_app _ rfl _ _ 27 rfl 5 i0 .u8 1 Try.underlying27 hi hz0 hz1 hz2 (.slice none 0 0) [] rfl (Own.nil _ _ _) A n c xs rfl hr (by unfold maxLen; simp; omega) (by simp; omega) ?_)
  intro v' w1 hown hg hat
  have hk : Fresh w w1 := (Kept.refl _ _).grown hg (fun k e _ => by cases e)
  have hnew : ∀ g, v'.ownBlock = some g → w.heap.size ≤ g := by
    intro g e
    rcases hat with e' | e'
    · rw [e'] at e; cases e
    · rw [e'] at e; injection e with e; omega
  have H : Hid (NewRow w w1 5 .u8 v' xs) := Lib.hid ⟨by simpa using hown, hnew, hk⟩
  clear hown hg hat hk hnew
  go_wp2_with fail
  go_ret
  exact ⟨_, rfl, H.out⟩

end Go.Proofs.Ytodmchjdflpbpaa
