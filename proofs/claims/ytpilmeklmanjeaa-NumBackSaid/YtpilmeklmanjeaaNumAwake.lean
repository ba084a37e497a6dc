/- awake of the statements on num: 300 by sevens, and 258 in two bytes, are ac 02 01 02. -/
import Derived.Test.YtpilmeklmanjeaaNumW
namespace Go.Proofs.Ytpilmeklmanjeaa
open Go.RowKit

theorem nAwake_bytes : [] ++ sv 300 ++ beBytes 258 (wid 2) = [172, 2, 1, 2] := by
  rw [sv_hi (by decide), sv_lo (by decide)]; decide +kernel

set_option maxHeartbeats 800000 in
theorem nAwake_any (w : World) : Calls Try.prog 6 #[] w fun e w' => e = .returned (.bool true) ∧ Fresh w w' := by
  go_enter Try.func6, Try.ntmps6
  go_wp2_with fail
  have h0 := NW.new w
  have hk0 : Fresh w (w.alloc (.cells #[.slice none 0 0] 26)) := (Kept.refl _ _).alloc _
  generalize w.alloc (.cells #[.slice none 0 0] 26) = w0 at *
  refine (nNum_any _ _ _ 300 _ h0 (by omega) (by simp)).mono ?_
  rintro e w1 ⟨rfl, h1⟩
  obtain ⟨v1, hw1, hto1⟩ := h1.mid
  have Hto1 := Lib.hid hto1
  clear hto1 h1
  go_wp2_with fail
  refine (nBig_any _ _ _ 258 2 _ hw1 (by omega) (by have := sv_le10 300 (by omega); simp; omega)).mono ?_
  rintro e w2 ⟨rfl, h2⟩
  rw [nAwake_bytes] at h2
  obtain ⟨v2, hw2, hv2, hk2⟩ := Hto1.out _ _ h2
  have hf2 : Fresh w w2 := hk0.trans hk2 fun i hi hf => by
    rcases hf with rfl | hf
    · omega
    · cases hf
  clear h2 Hto1 hw1 hv2 hk2 h0
  go_wp2_with fail
  refine (nBytes_any _ _ _ _ hw2 (by simp)).mono ?_
  rintro e w3 ⟨u, rfl, hown, _, hk3⟩
  have hf3 : Fresh w w3 := hf2.trans hk3 fun i hi hf => hf
  obtain ⟨q, cap, rfl, hq⟩ := hown.form (by simp)
  have c0 := hown.cell (j := 0) (by simp)
  have c1 := hown.cell (j := 1) (by simp)
  have c2 := hown.cell (j := 2) (by simp)
  have c3 := hown.cell (j := 3) (by simp)
  clear hk3 hw2 hf2
  go_wp2_with fail
  go_ret
  exact ⟨rfl, hf3⟩

end Go.Proofs.Ytpilmeklmanjeaa
