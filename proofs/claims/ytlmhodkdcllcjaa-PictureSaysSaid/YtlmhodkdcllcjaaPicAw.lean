/- What a program that does nothing does not answer. -/
import Derived.Test.YtlmhodkdcllcjaaPicSy
import Derived.Test.YtlmhodkdcllcjaaPicJ
import Derived.Test.YtlmhodkdcllcjaaArgs
import Derived.Lib.SlBytesConst
namespace Go.Proofs.Ytlmhodkdcllcjaa
open Go.RowKit
set_option maxRecDepth 100000

attribute [local go_sem ↓] Go.wp_at_zero Go.wp_at_succ

/-- A constant's bytes. -/
theorem laidP (w : World) (e : TypeId) (fz : Nat × Nat) (xs : List Int) : Row (w.alloc (.cells (ivs .u8 xs).toArray e fz)) .u8 (some ⟨w.heap.size, 0, none⟩) xs.length xs :=
  ⟨rfl, fun j hj => ⟨w.heap.size, 0, rfl, by simp, by
    rw [Nat.zero_add, World.cell?_alloc_mark, List.getElem?_toArray, ivs_get (by simpa using hj)]⟩⟩
def oneP : List Int := [80, 53, 32, 49, 32, 49, 32, 50, 53, 53, 32, 120]
theorem pnm_one : pnmP oneP = some (1, 1, 1, 1, 11) := by
  have h := say_pnm (s := 53) (g := [32]) (da := [49]) (db := [49]) (px := [120]) (a := 1) (b := 1) (.inl rfl) ⟨[32], [], by decide, by decide, by decide, .inl rfl⟩ (by decide) (by decide) (by decide) rfl (by decide) (by decide) (by decide) rfl
  exact h

set_option maxHeartbeats 1600000 in
theorem awakeP_any (w : World) : Calls Try.prog 7 #[] w fun e w' => e = .returned (.bool true) ∧ Fresh w w' := by
  have hcv := Lib.run_convert_bytes_const (P := Try.prog) w 22 5 (ivs .u8 oneP).toArray 12 12 Try.underlying22 Try.underlying5
  have hrow := laidP w 5 ((ivs .u8 oneP).toArray.size, (ivs .u8 oneP).toArray.size + 1) oneP
  have hk : Fresh w (w.alloc (.cells (ivs .u8 oneP).toArray 5 ((ivs .u8 oneP).toArray.size, (ivs .u8 oneP).toArray.size + 1))) := (Kept.refl _ _).alloc _
  generalize w.alloc (.cells (ivs .u8 oneP).toArray 5 ((ivs .u8 oneP).toArray.size, (ivs .u8 oneP).toArray.size + 1)) = W1 at *
  simp only [ivs, oneP, List.map_cons, List.map_nil] at hcv
  have HM := Lib.hid (cPnm_any (some ⟨w.heap.size, 0, none⟩) 12 12 oneP _ hrow (show ∀ x ∈ oneP, 0 ≤ x ∧ x < 256 by decide) (by omega))
  rw [pnm_one] at HM
  have HK := Lib.hid hk
  clear hrow hk
  go_enter Try.func7, Try.ntmps7
  go_wp2_with fail
  refine HM.out.mono ?_
  rintro e w1 ⟨rfl, hf1⟩
  have H1 := Lib.hid (HK.out.trans hf1 (fun _ _ h => h))
  simp only [pval, Option.isSome_some]
  clear hf1 HM hcv
  go_wp2_with fail
  go_ret
  exact ⟨rfl, H1.out.alloc _⟩

end Go.Proofs.Ytlmhodkdcllcjaa
