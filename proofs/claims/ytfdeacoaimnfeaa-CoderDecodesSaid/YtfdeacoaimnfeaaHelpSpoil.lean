/- The contract of valisehelp.Spoil. -/
import Derived.Test.YtfdeacoaimnfeaaHelpByte
namespace Go.Proofs.Ytfdeacoaimnfeaa
open Go.RowKit

set_option maxHeartbeats 1600000 in
/-- Spoil: bytes of one's own are turned; of all else nothing. -/
theorem hSpoil_any (b o n c : Nat) (A : Option Addr) (xs : List Int) (w : World) (h : Row w .u8 A n xs) (hA : A = some ⟨b, o, none⟩) (hf : ∀ j, w.frozen? ⟨b, o + j, none⟩ = false) (hn : n ≤ 1000000000) :
    Calls Try.prog 16 #[.slice A n c] w fun e w' => e = .returned (.tuple #[]) ∧ Kept (fun k => k = b) w w' := by
  subst hA
  have H := Lib.hid h
  have HF := Lib.hid hf
  clear h hf
  go_enter Try.func16, Try.ntmps16
  go_wp2_with fail
  go_loopw [2] (fun i wr => ∃ j : Nat, j ≤ n ∧ i = .int .i64 j ∧ Kept (fun k => k = b) w wr ∧ ∀ i, i < n → (∃ x : Int, wr.cell? ⟨b, o + i, none⟩ = some (.int .u8 x)) ∧ wr.frozen? ⟨b, o + i, none⟩ = false) (fun i _ => (n - intOf i).toNat)
  case atStart => exact ⟨0, by omega, rfl, Kept.refl _ _, fun i hi => ⟨by
    obtain ⟨b', o', e, _, hc⟩ := H.out.at_ i hi
    injection e with e; injection e with e1 e2; subst e1; subst e2
    exact ⟨_, hc⟩, HF.out i⟩⟩
  case round =>
    obtain ⟨j, hj, rfl, hk, hall⟩ := hrel
    have Hall := Lib.hid hall
    have Hk := Lib.hid hk
    clear hall hk
    by_cases hlt : j < n
    · obtain ⟨⟨x, hx⟩, hfj⟩ := Hall.out j hlt
      have hi0 : (0 : Int) ≤ (j : Int) := by omega
      have hi1 : (j : Int) < (n : Int) := by omega
      go_wp2_with fail
      go_roundw
      case rel => exact ⟨j + 1, by omega, by go_num, Hk.out.setCell (fun _ => rfl) _, fun i hi => by
        obtain ⟨⟨y, hy⟩, hfi⟩ := Hall.out i hi
        refine ⟨?_, by simpa using hfi⟩
        by_cases e : j = i
        · subst e
          exact ⟨_, World.cell?_setCell_same _ _ _ hx⟩
        · exact ⟨y, by rw [World.cell?_setCell_other _ _ _ _ (by intro h'; injection h' with h1 h2; omega)]; exact hy⟩⟩
      case measure => simp [intOf]; omega
    · go_wp2_with fail
      go_end0
      exact ⟨rfl, Hk.out⟩

end Go.Proofs.Ytfdeacoaimnfeaa
