/- awake: a writer that is given 5 in three bits, and two ones and a 0, has six bits and the byte b8. -/
import Derived.Test.YtlfelnbdlgmmiaaBitsW
namespace Go.Proofs.Ytlfelnbdlgmmiaa
open Go.RowKit

theorem awake_bytes : wmany (wmany [] 0 (bitsOf 5 (wBitsN 3))) (0 + wBitsN 3) (List.replicate (wUnaryN 2) true ++ [false]) = [184] := by decide +kernel
theorem awake_len : 0 + wBitsN 3 + (wUnaryN 2 + 1) = 6 := by decide +kernel

set_option maxHeartbeats 800000 in
theorem awake_any (w : World) : Calls Try.prog 5 #[] w fun e w' => e = .returned (.bool true) ∧ Fresh w w' := by
  go_enter Try.func5, Try.ntmps5
  go_wp2_with fail
  have h0 : Wtr (w.alloc (.cells #[.slice none 0 0, .int .i64 0] 48)) w.heap.size (.slice none 0 0) [] 0 := ⟨Blk.new _ _ _, Own.nil _ _ _, rfl, fun j => by simp⟩
  have hk0 : Fresh w (w.alloc (.cells #[.slice none 0 0, .int .i64 0] 48)) := (Kept.refl _ _).alloc _
  generalize w.alloc (.cells #[.slice none 0 0, .int .i64 0] 48) = w0 at *
  refine (wBits_any _ _ _ _ _ 5 3 h0 (by omega) (by omega)).mono ?_
  rintro e w1 ⟨rfl, h1⟩
  obtain ⟨v1, hw1, hv1, hk1⟩ := h1
  have hf1 : Fresh w w1 := hk0.trans hk1 fun i hi hf => by
    rcases hf with rfl | hf
    · omega
    · cases hf
  have hb1 : ∀ k, v1.ownBlock = some k → w.heap.size ≤ k := fun k hk => by
    rcases hv1 k hk with e | e
    · cases e
    · exact Nat.le_trans hk0.size e
  go_wp2_with fail
  refine (wUnary_any _ _ _ _ _ 2 hw1 (by decide +kernel)).mono ?_
  rintro e w2 ⟨rfl, h2⟩
  obtain ⟨v2, hw2, hv2, hk2⟩ := h2
  have hf2 : Fresh w w2 := hf1.trans hk2 fun i hi hf => by
    rcases hf with rfl | hf
    · omega
    · have := hb1 i hf; omega
  rw [awake_bytes, awake_len] at hw2
  clear hk2 hv2 hk1 hv1 hw1 hk0 h0 hb1 hf1
  go_wp2_with fail
  refine (wBytes_any _ _ _ _ _ hw2 (by omega)).mono ?_
  rintro e w3 ⟨u, rfl, hown, _, hk3⟩
  have hf3 : Fresh w w3 := hf2.trans hk3 fun i hi hf => hf
  have hw3 : Wtr w3 w.heap.size v2 [184] 6 := ⟨hw2.blk.kept hk3 id, hw2.own.kept hk3 (fun _ _ => id), hw2.len, hw2.byte⟩
  obtain ⟨q, cap, rfl, hq⟩ := hown.form (by simp)
  have cq := hown.cell (j := 0) (by simp)
  clear hk3 hw2 hf2
  go_wp2_with fail
  refine (wLen_any _ _ _ _ _ hw3).mono ?_
  rintro e w4 ⟨rfl, rfl⟩
  go_wp2_with fail
  go_ret
  exact ⟨rfl, hf3⟩

end Go.Proofs.Ytlfelnbdlgmmiaa
