/- The code's adaptive filter: sixteen cells (the numbers, then the weights, of 64 bits); Guess, Learn, New, Residual, Restore; lmsOK. -/
import Derived.Test.YtgcbjfkneigijaaLmsAw
import Derived.Test.YtgcbjfkneigijaaArr
import Derived.Deep.MidRow
import Derived.StillTailTactics
import Derived.BigQuiet
import Derived.BigRegion
namespace Go.Proofs.Ytgcbjfkneigijaa
open Go.RowKit
set_option maxRecDepth 100000

attribute [local go_sem ↓] Go.wp_at_zero Go.wp_at_succ

/-- The cells of the code's filter: S has the weights first. -/
def fcs (S : List Int) : Array Value := ((List.range 16).map fun i => if i < 8 then Value.int .i32 (S.getD (8 + i) 0) else Value.int .i64 (S.getD (i - 8) 0)).toArray
theorem fcs_size (S : List Int) : (fcs S).size = 16 := by simp [fcs]
theorem fcs_num (S : List Int) {i : Nat} (h : i < 8) : (fcs S)[i]? = some (.int .i32 (S.getD (8 + i) 0)) := by
  simp only [fcs, List.getElem?_toArray, List.getElem?_map, List.getElem?_range (show i < 16 by omega), Option.map_some, if_pos h]
theorem fcs_weight (S : List Int) {i : Nat} (h : i < 8) : (fcs S)[8 + i]? = some (.int .i64 (S.getD i 0)) := by
  simp only [fcs, List.getElem?_toArray, List.getElem?_map, List.getElem?_range (show 8 + i < 16 by omega), Option.map_some, if_neg (show ¬ 8 + i < 8 by omega), Nat.add_sub_cancel_left]
theorem fcs_all (S : List Int) (i : Nat) (h : i < 16) : (fcs S)[i]? = some (if i < 8 then Value.int .i32 (S.getD (8 + i) 0) else Value.int .i64 (S.getD (i - 8) 0)) := by
  simp only [fcs, List.getElem?_toArray, List.getElem?_map, List.getElem?_range h, Option.map_some]
theorem getD_put {S : List Int} {i : Nat} (hi : i < S.length) (x : Int) (k : Nat) : (S.set i x).getD k 0 = if k = i then x else S.getD k 0 := by
  by_cases h : k = i
  · subst h; rw [if_pos rfl]; simp [List.getD, hi]
  · rw [if_neg h]; simp only [List.getD, List.getElem?_set_ne (show i ≠ k by omega)]
theorem fcs_setNum {S : List Int} (hS : S.length = 16) {i : Nat} (h : i < 8) (x : Int) : (fcs S).setIfInBounds i (.int .i32 x) = fcs (S.set (8 + i) x) := by
  apply Array.ext_getElem?
  intro k
  rw [Array.getElem?_setIfInBounds, fcs_size]
  rcases Nat.lt_or_ge k 16 with hk | hk
  · rw [fcs_all _ k hk, fcs_all _ k hk, getD_put (by omega), getD_put (by omega)]
    by_cases e : i = k
    · subst e
      rw [if_pos rfl, if_pos hk, if_pos h, if_pos rfl]
    · rw [if_neg e, if_neg (show ¬ 8 + k = 8 + i by omega)]
      by_cases e8 : k < 8
      · rw [if_pos e8, if_pos e8]
      · rw [if_neg e8, if_neg e8, if_neg (show ¬ k - 8 = 8 + i by omega)]
  · rw [if_neg (by omega), Array.getElem?_eq_none (by rw [fcs_size]; exact hk), Array.getElem?_eq_none (by rw [fcs_size]; exact hk)]
theorem fcs_setWeight {S : List Int} (hS : S.length = 16) {i : Nat} (h : i < 8) (x : Int) : (fcs S).setIfInBounds (8 + i) (.int .i64 x) = fcs (S.set i x) := by
  apply Array.ext_getElem?
  intro k
  rw [Array.getElem?_setIfInBounds, fcs_size]
  rcases Nat.lt_or_ge k 16 with hk | hk
  · rw [fcs_all _ k hk, fcs_all _ k hk, getD_put (by omega), getD_put (by omega)]
    by_cases e : 8 + i = k
    · subst e
      rw [if_pos rfl, if_pos hk, if_neg (show ¬ 8 + i < 8 by omega), if_pos (by omega)]
    · rw [if_neg e]
      by_cases e8 : k < 8
      · rw [if_pos e8, if_pos e8, if_neg (show ¬ 8 + k = i by omega)]
      · rw [if_neg e8, if_neg e8, if_neg (show ¬ k - 8 = i by omega)]
  · rw [if_neg (by omega), Array.getElem?_eq_none (by rw [fcs_size]; exact hk), Array.getElem?_eq_none (by rw [fcs_size]; exact hk)]
/-- The numbers moved on by one place. -/
theorem fcs_moved {U : List Int} (h : U.length = 16) : ((fcs U).toList.take 1 ++ ((fcs U).toList.take 7 ++ (fcs U).toList.drop (1 + 7))).toArray = fcs (shS U 7) := by
  match U, h with
  | [_, _, _, _, _, _, _, _, _, _, _, _, _, _, _, _], _ => rfl

/-- The code's filter at block g. -/
structure CFil (w : World) (g : Nat) (S : List Int) : Prop where
  blk : Blk w g 44 (fcs S)
  len : S.length = 16
  rng : I32 S
section
variable {w w' : World} {g : Nat} {S : List Int}
theorem CFil.num (h : CFil w g S) {i : Nat} (hi : i < 8) : w.cell? ⟨g, i, none⟩ = some (.int .i32 (S.getD (8 + i) 0)) := by rw [h.blk.cell, fcs_num S hi]
theorem CFil.weight (h : CFil w g S) {i : Nat} (hi : i < 8) : w.cell? ⟨g, 8 + i, none⟩ = some (.int .i64 (S.getD i 0)) := by rw [h.blk.cell, fcs_weight S hi]
theorem CFil.drewN (h : CFil w g S) (n : Nat) : CFil (w.drewN n) g S := ⟨h.blk.drewN n, h.len, h.rng⟩
theorem CFil.drew (h : CFil w g S) : CFil w.drew g S := ⟨h.blk.drew, h.len, h.rng⟩
theorem CFil.kept {P : Nat → Prop} (h : CFil w g S) (hk : Kept P w w') (hn : ¬ P g) : CFil w' g S := ⟨h.blk.kept hk hn, h.len, h.rng⟩
theorem CFil.setNum (h : CFil w g S) {i : Nat} (hi : i < 8) {x : Int} (hx : -2147483648 ≤ x ∧ x < 2147483648) : CFil (w.setCell ⟨g, i, none⟩ (.int .i32 x)) g (S.set (8 + i) x) := by
  refine ⟨?_, by rw [List.length_set]; exact h.len, h.rng.set _ hx⟩
  rw [← fcs_setNum h.len hi]
  exact h.blk.set_ i _
theorem CFil.setWeight (h : CFil w g S) {i : Nat} (hi : i < 8) {x : Int} (hx : -2147483648 ≤ x ∧ x < 2147483648) : CFil (w.setCell ⟨g, 8 + i, none⟩ (.int .i64 x)) g (S.set i x) := by
  refine ⟨?_, by rw [List.length_set]; exact h.len, h.rng.set _ hx⟩
  rw [← fcs_setWeight h.len hi]
  exact h.blk.set_ (8 + i) _
theorem CFil.range (h : CFil w g S) : w.rangeAt g 0 (ivs .i32 (S.drop 8)) := fun j v hv => by
  have hj : j < (S.drop 8).length := by
    have := (List.getElem?_eq_some_iff.1 hv).1
    simpa [ivs] using this
  have hj8 : j < 8 := by rw [List.length_drop, h.len] at hj; omega
  rw [ivs_get hj] at hv
  rw [Nat.zero_add, h.num hj8, ← hv]
  simp [List.getD]
end

set_option maxHeartbeats 800000 in
theorem cNaN_any (x : Int) (w : World) : Calls Try.prog 27 #[.int .i32 x] w fun e w' => e = .returned (.bool false) ∧ w' = w := by
  have hx : (x != x) = false := by simp
  go_enter Try.func27, Try.ntmps27
  go_wp2_with fail
  go_ret
  exact ⟨rfl, rfl⟩

set_option maxHeartbeats 800000 in
theorem cCompare_any (x : Int) (w : World) : Calls Try.prog 26 #[.int .i32 x, .int .i32 0] w fun e w' => e = .returned (.int .i64 (sgn x)) ∧ w' = w := by
  have HE : Hid (∀ s : Int, sgn x = s → Ending.returned (.int .i64 s) = .returned (.int .i64 (sgn x))) := Lib.hid fun s h => by rw [h]
  have HN := Lib.hid (cNaN_any x w)
  have HZ := Lib.hid (cNaN_any 0 w)
  have hs : (x < 0 ∧ sgn x = -1) ∨ (x = 0 ∧ sgn x = 0) ∨ (0 < x ∧ sgn x = 1) := by unfold sgn; split <;> (try split) <;> omega
  rcases hs with ⟨h, e⟩ | ⟨h, e⟩ | ⟨h, e⟩
  · have E := Lib.hid (HE.out _ e)
    clear HE e
    go_enter Try.func26, Try.ntmps26
    go_wp2_with fail
    refine HN.out.mono ?_
    rintro e w1 ⟨rfl, rfl⟩
    go_wp2_with fail
    refine HZ.out.mono ?_
    rintro e w2 ⟨rfl, rfl⟩
    go_wp2_with fail
    go_ret
    exact ⟨E.out, rfl⟩
  · subst h
    have E := Lib.hid (HE.out _ e)
    clear HE e
    go_enter Try.func26, Try.ntmps26
    go_wp2_with fail
    refine HN.out.mono ?_
    rintro e w1 ⟨rfl, rfl⟩
    go_wp2_with fail
    refine HZ.out.mono ?_
    rintro e w2 ⟨rfl, rfl⟩
    go_wp2_with fail
    go_ret
    exact ⟨E.out, rfl⟩
  · have E := Lib.hid (HE.out _ e)
    have h1 : ¬ x < 0 := by omega
    clear HE e
    go_enter Try.func26, Try.ntmps26
    go_wp2_with fail
    refine HN.out.mono ?_
    rintro e w1 ⟨rfl, rfl⟩
    go_wp2_with fail
    refine HZ.out.mono ?_
    rintro e w2 ⟨rfl, rfl⟩
    go_wp2_with fail
    go_ret
    exact ⟨E.out, rfl⟩

set_option maxHeartbeats 800000 in
theorem cSign_any (x : Int) (w : World) : Calls Try.prog 25 #[.int .i32 x] w fun e w' => e = .returned (.int .i64 (sgn x)) ∧ w' = w := by
  have HC := Lib.hid (cCompare_any x w)
  go_enter Try.func25, Try.ntmps25
  go_wp2_with fail
  refine HC.out.mono ?_
  rintro e w1 ⟨rfl, rfl⟩
  go_wp2_with fail
  go_ret
  exact ⟨rfl, rfl⟩

/-- The number of a place, out of the loaded array. -/
theorem run_index_num (V : World) {S : List Int} (hS : S.length = 16) {j : Nat} (h : j < 8) : (Instr.index 26 (.agg (ivs .i32 (S.drop 8)).toArray) (.int .i64 j)).run Try.prog V = .ok (.int .i32 (S.getD (8 + j) 0)) V := by
  have hg : (ivs .i32 (S.drop 8)).toArray[j]? = some (.int .i32 (S.getD (8 + j) 0)) := by
    rw [List.getElem?_toArray, ivs_get (by rw [List.length_drop, hS]; exact h)]
    simp [List.getD]
  generalize (ivs .i32 (S.drop 8)).toArray = X at *
  have h0 : (0 : Int) ≤ (j : Int) := by omega
  simp [Instr.index, run_underlying Try.underlying26, asIntOf, go_sem, hg, h, h0]

set_option maxHeartbeats 1600000 in
/-- guess: P12.1. -/
theorem clGuess_any (g : Nat) (S : List Int) (w : World) (h : CFil w g S) :
    Calls Try.prog 20 #[.pointer (some ⟨g, 0, none⟩)] w fun e w' => e = .returned (.int .i32 (gl S)) ∧ w' = w := by
  have hl8 : (ivs .i32 (S.drop 8)).length = 8 := by rw [ivs_length, List.length_drop, h.len]
  have HL : Hid ((Instr.loadAt 26 (.pointer (some ⟨g, 0, none⟩))).run Try.prog w = .ok (.agg (ivs .i32 (S.drop 8)).toArray) w) := Lib.hid (run_loadAt_mid w g 0 26 _ _ h.range Try.underlying26 rfl (by rw [hl8]; kernel_rfl))
  have HX : Hid (∀ (j : Nat) (_ : j < 8) (V : World), (Instr.index 26 (.agg (ivs .i32 (S.drop 8)).toArray) (.int .i64 j)).run Try.prog V = .ok (.int .i32 (S.getD (8 + j) 0)) V) := Lib.hid fun j hj V => run_index_num V h.len hj
  have H := Lib.hid h
  clear h hl8
  generalize (ivs .i32 (S.drop 8)).toArray = X at *
  go_enter Try.func20, Try.ntmps20
  go_wp2_with (refine wpList_load_eq rfl (.tmp 8) 26 rfl _ _ rfl HL.out ?_)
  go_loop [3, 10] (fun x i => ∃ j : Nat, j ≤ 8 ∧ i = .int .i64 j ∧ x = .int .i64 (wrap64 (dotS S j))) (fun _ i => (8 - intOf i).toNat)
  case atStart => exact ⟨0, by omega, rfl, by simp [dotS, wrap64]⟩
  case round =>
    obtain ⟨j, hj, rfl, rfl⟩ := hrel
    by_cases hlt : j < 8
    · have j0 : (j : Int) < 8 := by omega
      have j1 : (0 : Int) ≤ (j : Int) := by omega
      have hx := HX.out j hlt
      have c1 := H.out.weight hlt
      have hs : Hid (dotS S (j + 1) = dotS S j + S.getD j 0 * S.getD (8 + j) 0) := Lib.hid rfl
      have hm := mul_32 (H.out.rng.at_ (8 + j)) (H.out.rng.at_ j)
      have hc := Int.mul_comm (S.getD (8 + j) 0) (S.getD j 0)
      have Hc := Lib.hid hc
      clear hc
      have ha := H.out.rng.at_ j
      have hb := H.out.rng.at_ (8 + j)
      generalize S.getD j 0 = a at *
      generalize S.getD (8 + j) 0 = b at *
      generalize dotS S j = d at *
      go_wp2_with fail
      go_round
      case rel => exact ⟨j + 1, by omega, by go_num, by rw [hs.out, ← Hc.out, ← w64_step' d (b * a)]⟩
      case measure => simp [intOf]; omega
    · obtain rfl : j = 8 := by omega
      have hg : Hid (gl S = w32 (wrap64 (dotS S 8) / 256)) := Lib.hid rfl
      have hd : -9223372036854775808 ≤ wrap64 (dotS S 8) ∧ wrap64 (dotS S 8) ≤ 9223372036854775807 := by unfold wrap64; omega
      generalize wrap64 (dotS S 8) = d at *
      go_wp2_with fail
      go_ret
      exact ⟨ret_int (by rw [hg.out]; unfold w32 wrap32; rfl), rfl⟩

theorem fcs_first (U : List Int) {i : Nat} {v : Value} (h : ((fcs U).toList.take 7)[i]? = some v) : (fcs U)[i]? = some v := by
  rw [List.getElem?_take] at h
  split at h
  · simpa using h
  · cases h
theorem fcs_one (U : List Int) : ∀ v ∈ (fcs U).toList, v.oneCell' = true := fun v hv => by
  simp only [fcs, List.mem_map] at hv
  obtain ⟨i, _, rfl⟩ := hv
  split <;> rfl

theorem upS_step {S : List Int} (hb : WB S) (e x : Int) {j : Nat} (hj : j < 8) : w32 (S.getD j 0 + w32 (sgn e * sgn x)) = S.getD j 0 + sgn e * sgn x ∧ -2147483648 ≤ S.getD j 0 + sgn e * sgn x ∧ S.getD j 0 + sgn e * sgn x < 2147483648 := by
  have := hb j hj
  have := sgn_mul e x
  generalize sgn e * sgn x = p at *
  unfold w32
  omega

set_option maxHeartbeats 1600000 in
/-- learn: P12.1. -/
theorem clLearn_any (g : Nat) (S : List Int) (v e : Int) (w : World) (h : CFil w g S) (hb : WB S) (hv : -2147483648 ≤ v ∧ v < 2147483648) :
    Calls Try.prog 21 #[.pointer (some ⟨g, 0, none⟩), .int .i32 v, .int .i32 e] w fun r w' => r = .returned (.tuple #[]) ∧ CFil w' g ((shS (upS (sgn e) S 8) 7).set 8 v) ∧ Kept (fun k => k = g) w w' := by
  have hl8 : (ivs .i32 (S.drop 8)).length = 8 := by rw [ivs_length, List.length_drop, h.len]
  have HL : Hid ((Instr.loadAt 26 (.pointer (some ⟨g, 0, none⟩))).run Try.prog w = .ok (.agg (ivs .i32 (S.drop 8)).toArray) w) := Lib.hid (run_loadAt_mid w g 0 26 _ _ h.range Try.underlying26 rfl (by rw [hl8]; kernel_rfl))
  have HX : Hid (∀ (j : Nat) (_ : j < 8) (V : World), (Instr.index 26 (.agg (ivs .i32 (S.drop 8)).toArray) (.int .i64 j)).run Try.prog V = .ok (.int .i32 (S.getD (8 + j) 0)) V) := Lib.hid fun j hj V => run_index_num V h.len hj
  have HB := Lib.hid hb
  have H := Lib.hid h
  have HS := Lib.hid (cSign_any e w)
  have HP : Hid (∀ x, -1 ≤ sgn e * sgn x ∧ sgn e * sgn x ≤ 1) := Lib.hid fun x => sgn_mul e x
  have HU : Hid (∀ j, upS (sgn e) S (j + 1) = (upS (sgn e) S j).set j (w32 (S.getD j 0 + w32 (sgn e * sgn (S.getD (8 + j) 0))))) := Lib.hid fun _ => rfl
  have HW : Hid (∀ j, j < 8 → w32 (S.getD j 0 + w32 (sgn e * sgn (S.getD (8 + j) 0))) = S.getD j 0 + sgn e * sgn (S.getD (8 + j) 0) ∧ -2147483648 ≤ S.getD j 0 + sgn e * sgn (S.getD (8 + j) 0) ∧ S.getD j 0 + sgn e * sgn (S.getD (8 + j) 0) < 2147483648) := Lib.hid fun j hj => upS_step hb e _ hj
  have he := sgn_in e
  obtain ⟨R, hR⟩ : ∃ R, R = (shS (upS (sgn e) S 8) 7).set 8 v := ⟨_, rfl⟩
  rw [← hR]
  have HR := Lib.hid hR
  clear h hl8 hb hR
  generalize (ivs .i32 (S.drop 8)).toArray = X at *
  generalize sgn e = s at *
  go_enter Try.func21, Try.ntmps21
  go_wp2_with fail
  refine HS.out.mono ?_
  rintro e w1 ⟨rfl, hw1⟩
  subst hw1
  clear HS
  go_wp2_with (refine wpList_load_eq rfl (.tmp 13) 26 rfl _ _ rfl HL.out ?_)
  go_loopw [15] (fun i wr => ∃ j : Nat, j ≤ 8 ∧ i = .int .i64 j ∧ CFil wr g (upS s S j) ∧ Kept (fun k => k = g) w1 wr) (fun i _ => (8 - intOf i).toNat)
  case atStart => exact ⟨0, by omega, rfl, H.out, Kept.refl _ _⟩
  case round =>
    obtain ⟨j, hj, rfl, hf, hk⟩ := hrel
    clear H HL
    have HF := Lib.hid (And.intro hf hk)
    clear hf hk
    by_cases hlt : j < 8
    · have j0 : (j : Int) < 8 := by omega
      have j1 : (0 : Int) ≤ (j : Int) := by omega
      have hx := HX.out j hlt
      have c1 := HF.out.1.weight hlt
      have fz := HF.out.1.blk.frozen (8 + j)
      rw [upS_far s S j j (Nat.le_refl _)] at c1
      have hs := Lib.hid (HU.out j)
      have hw := Lib.hid (HW.out j hlt)
      have hp := HP.out (S.getD (8 + j) 0)
      have hr := HB.out j hlt
      clear HX HU HW HP HB
      generalize S.getD j 0 = a at *
      generalize S.getD (8 + j) 0 = b at *
      have HSg := Lib.hid (cSign_any b wr.drew)
      have hb := sgn_in b
      generalize sgn b = sb at *
      go_wp2_with fail
      go_still_tail 14, (by kernel_rfl)
      still_call HSg.out
      still_step
      still_step
      still_step
      still_step
      still_step
      refine wpStill_nil ?_
      change wpList _ _ _ _ _ wr.drew
      have hfd : Hid (CFil wr.drew g (upS s S j) ∧ Kept (fun k => k = g) w1 wr.drew) := Lib.hid ⟨HF.out.1.drew, HF.out.2.drew⟩
      clear c1 HSg HF
      have fz' : wr.drew.frozen? ⟨g, 8 + j, none⟩ = false := fz
      clear fz
      generalize wr.drew = wd at *
      have c1' := hfd.out.1.weight hlt
      go_wp2_with fail
      go_roundw
      case rel => exact ⟨j + 1, by omega, by go_num, by rw [hs.out, hw.out.1]; exact hfd.out.1.setWeight hlt hw.out.2, hfd.out.2.setCell (fun _ => rfl) _⟩
      case measure => simp [intOf]; omega
    · obtain rfl : j = 8 := by omega
      generalize upS s S 8 = U at *
      go_wp2_with fail
      go_still_tail 8, (by kernel_rfl)
      change wpList _ _ _ _ _ wr.drew
      have HD : Hid (CFil wr.drew g U ∧ Kept (fun k => k = g) w1 wr.drew) := Lib.hid ⟨HF.out.1.drew, HF.out.2.drew⟩
      clear HF
      generalize wr.drew = wd at *
      have hsz : (fcs U).toList.length = 16 := by rw [Array.length_toList, fcs_size]
      have h7 : ((fcs U).toList.take 7).length = 7 := by rw [List.length_take, hsz]; rfl
      refine wpList_copy_own rfl (.tmp 37) (.tmp 41) 22 22 rfl 21 Try.underlying22 (by kernel_rfl) g 1 7 7 ⟨g, 0, none⟩ 8 8 rfl rfl (fcs U) 44 HD.out.1.blk ((fcs U).toList.take 7) (by rw [h7]; rfl) ?_ (by rw [h7, fcs_size]; omega) (fun v hv => fcs_one U v (List.mem_of_mem_take hv)) ?_
      · intro i v hv
        have := HD.out.1.blk.cell i
        rw [fcs_first U hv] at this
        rw [Addr.add_mid, Nat.zero_add]
        exact this
      rw [h7, fcs_moved HD.out.1.len]
      have HE : Hid (CFil (wd.setRow g (fcs (shS U 7))) g (shS U 7) ∧ Kept (fun k => k = g) w1 (wd.setRow g (fcs (shS U 7)))) := Lib.hid ⟨⟨HD.out.1.blk.rowed, by rw [shS_length]; exact HD.out.1.len, shS_32 HD.out.1.rng 7⟩, HD.out.2.rowed _ (fun _ => rfl)⟩
      clear HD hsz h7
      generalize wd.setRow g (fcs (shS U 7)) = we at *
      have c0 := HE.out.1.num (i := 0) (by omega)
      have f0 := HE.out.1.blk.frozen 0
      go_wp2_with fail
      go_end0
      rw [HR.out]
      exact ⟨rfl, HE.out.1.setNum (i := 0) (by omega) hv, HE.out.2.setCell (fun _ => rfl) _⟩

set_option maxHeartbeats 800000 in
theorem clNew_any (w : World) : Calls Try.prog 7 #[] w fun e w' => ∃ g, e = .returned (.pointer (some ⟨g, 0, none⟩)) ∧ CFil w' g (List.replicate 16 0) ∧ w.heap.size ≤ g ∧ Fresh w w' := by
  have HF : Hid (CFil (w.alloc (.cells (fcs (List.replicate 16 0)) 44)) w.heap.size (List.replicate 16 0) ∧ Fresh w (w.alloc (.cells (fcs (List.replicate 16 0)) 44))) := Lib.hid ⟨⟨Blk.new _ _ _, rfl, stN_32 (l := []) (fun _ h => by cases h) 0⟩, (Kept.refl _ _).alloc _⟩
  rw [show fcs (List.replicate 16 0) = #[.int .i32 0, .int .i32 0, .int .i32 0, .int .i32 0, .int .i32 0, .int .i32 0, .int .i32 0, .int .i32 0, .int .i64 0, .int .i64 0, .int .i64 0, .int .i64 0, .int .i64 0, .int .i64 0, .int .i64 0, .int .i64 0] from rfl] at HF
  go_enter Try.func7, Try.ntmps7
  go_wp2_with fail
  go_ret
  exact ⟨_, rfl, HF.out.1, Nat.le_refl _, HF.out.2⟩

set_option maxHeartbeats 1600000 in
/-- Guess: P12.1. -/
theorem cfGuess_any (g : Nat) (S : List Int) (w : World) (h : CFil w g S) :
    Calls Try.prog 9 #[.pointer (some ⟨g, 0, none⟩)] w fun e w' => e = .returned (.int .i32 (gl S)) ∧ Fresh w w' := by
  have HG := Lib.hid (clGuess_any g S w h)
  have c0 := h.num (i := 0) (by omega)
  clear h
  go_enter Try.func9, Try.ntmps9
  go_wp2_with fail
  refine HG.out.mono ?_
  rintro e w1 ⟨rfl, rfl⟩
  go_wp2_with fail
  go_ret
  exact ⟨rfl, Kept.refl _ _⟩

theorem cfGuessNil_any (w : World) : Calls Try.prog 9 #[.pointer none] w fun e w' => e = .returned (.int .i32 0) ∧ Fresh w w' := by
  go_enter Try.func9, Try.ntmps9
  go_wp2_with fail
  go_ret
  exact ⟨rfl, Kept.refl _ _⟩

theorem cfLearnNil_any (v : Int) (w : World) : Calls Try.prog 11 #[.pointer none, .int .i32 v] w fun e w' => e = .returned (.tuple #[]) ∧ Fresh w w' := by
  go_enter Try.func11, Try.ntmps11
  go_wp2_with fail
  refine bodyPost_ret (results_none rfl _ _ _) rfl ?_
  exact ⟨rfl, Kept.refl _ _⟩

set_option maxHeartbeats 1600000 in
/-- Learn: P12.1. -/
theorem cfLearn_any (g : Nat) (S : List Int) (v : Int) (w : World) (h : CFil w g S) (hb : WB S) (hv : -2147483648 ≤ v ∧ v < 2147483648) :
    Calls Try.prog 11 #[.pointer (some ⟨g, 0, none⟩), .int .i32 v] w fun e w' => e = .returned (.tuple #[]) ∧ CFil w' g (learnS S v) ∧ Kept (fun k => k = g) w w' := by
  have HG := Lib.hid (clGuess_any g S w.drew h.drew)
  have HE : Hid (learnS S v = (shS (upS (sgn (w32 (v - gl S))) S 8) 7).set 8 v) := Lib.hid rfl
  have HL : Hid (∀ e, Calls Try.prog 21 #[.pointer (some ⟨g, 0, none⟩), .int .i32 v, .int .i32 e] w.drew fun r w' => r = .returned (.tuple #[]) ∧ CFil w' g ((shS (upS (sgn e) S 8) 7).set 8 v) ∧ Kept (fun k => k = g) w.drew w') := Lib.hid fun e => clLearn_any g S v e w.drew h.drew hb hv
  have c0 := h.num (i := 0) (by omega)
  have HK := Lib.hid ((Kept.refl (fun k => k = g) w).drew)
  clear h hb hv
  generalize gl S = gu at *
  go_enter Try.func11, Try.ntmps11
  go_wp2_with fail
  go_still_tail 10, (by kernel_rfl)
  still_call HG.out
  still_step
  refine wpStill_nil ?_
  change wpList _ _ _ _ _ w.drew
  generalize w.drew = wd at *
  go_wp2_with fail
  rw [w32_wr']
  refine (HL.out _).mono ?_
  rintro e w1 ⟨rfl, hf, hk⟩
  rw [← HE.out] at hf
  have HF := Lib.hid (And.intro hf (HK.out.trans hk (fun _ _ h => h)))
  clear hf hk
  go_wp2_with fail
  go_end0
  exact ⟨rfl, HF.out⟩

set_option maxHeartbeats 1600000 in
/-- Residual: P12.2. -/
theorem clResidual_any (A : Option Addr) (n c : Nat) (l : List Int) (w : World) (hr : Row w .i32 A n l) (h32 : I32 l) (hn : n ≤ 1048576) :
    Calls Try.prog 15 #[.slice A n c] w fun e w' => ∃ u, e = .returned u ∧ NewRow w w' 21 .i32 u (lres l) := by
  obtain ⟨i4, hi4, h40, h41, h42⟩ := info_parts Try.infoI32L
  obtain rfl := hr.len
  have HR : Hid (∀ V, Fresh w V → Row V .i32 A l.length l) := Lib.hid fun V hV => hr.kept hV (fun _ _ _ _ => id)
  have H32 := Lib.hid h32
  have hm : l.length ≤ 1048576 := hn
  clear hr h32 hn
  have HA : Hid (CFil (w.alloc (.cells (fcs (List.replicate 16 0)) 44)) w.heap.size (stN l 0)) := Lib.hid ⟨Blk.new _ _ _, rfl, stN_32 (l := []) (fun _ h => by cases h) 0⟩
  rw [show fcs (List.replicate 16 0) = #[.int .i32 0, .int .i32 0, .int .i32 0, .int .i32 0, .int .i32 0, .int .i32 0, .int .i32 0, .int .i32 0, .int .i64 0, .int .i64 0, .int .i64 0, .int .i64 0, .int .i64 0, .int .i64 0, .int .i64 0, .int .i64 0] from rfl] at HA
  go_enter Try.func15, Try.ntmps15
  go_wp2_with (at_make; refine wpList_make_zeros _ rfl _ _ 22 rfl 21 i4 .i32 4 Try.underlying22 hi4 h40 h41 h42 _ _ _ _ l.length rfl rfl rfl rfl (by omega) (by unfold maxLen; omega) ?_)
  intro w1 ho1 hf1
  have H1 := Lib.hid (And.intro (HA.out.kept hf1 id) (And.intro ho1 (((Kept.refl (fun _ => False) w).alloc _).trans hf1 (fun _ _ h => h))))
  clear ho1 hf1 HA
  go_wp2_with fail
  generalize hg : w.heap.size = g at *
  have HG := Lib.hid hg
  clear hg
  go_loopw [12] (fun i wr => ∃ j : Nat, j ≤ l.length ∧ i = .int .i64 j ∧ CFil wr g (stN l j) ∧ Own wr 21 .i32 (.slice (some ⟨g + 1, 0, none⟩) l.length l.length) (lrN l j ++ List.replicate (l.length - j) 0) ∧ Fresh w wr) (fun i _ => (l.length - intOf i).toNat)
  case atStart => exact ⟨0, by omega, rfl, H1.out.1, H1.out.2.1, H1.out.2.2⟩
  case round =>
    obtain ⟨j, hj, rfl, hp, ho, hf⟩ := hrel
    clear H1
    have hol : (lrN l j ++ List.replicate (l.length - j) 0).length = l.length := by rw [List.length_append, lrN_length, List.length_replicate]; omega
    have hgl := ho.lt (g := g + 1) rfl
    have hws := HG.out
    have HX := Lib.hid (And.intro hp (And.intro ho hf))
    by_cases hlt : j < l.length
    · obtain ⟨b, o, rfl, hbw, _⟩ := (HR.out w (Kept.refl _ _)).at_ j hlt
      obtain ⟨b', o', e', hb, hc⟩ := (HR.out wr hf).at_ j hlt
      injection e' with e'
      injection e' with e1 e2
      subst e1 e2
      have j0 : (j : Int) < (l.length : Int) := by omega
      have hv := H32.out.at_ j
      have HC := Lib.hid (clGuess_any g (stN l j) wr hp)
      have HB := Lib.hid (stN_WB l (n := j) (by omega))
      have Hr : Hid (lrN l (j + 1) = lrN l j ++ [w32 (l.getD j 0 - gl (stN l j))]) := Lib.hid rfl
      have HSt : Hid (stN l (j + 1) = (shS (upS (sgn (w32 (l.getD j 0 - gl (stN l j)))) (stN l j) 8) 7).set 8 (l.getD j 0)) := Lib.hid rfl
      generalize gl (stN l j) = gu at *
      generalize l.getD j 0 = v at *
      clear hp ho hf
      go_wp2_with fail
      refine HC.out.mono ?_
      rintro e w2 ⟨rfl, rfl⟩
      clear HC
      have cg : w2.cell? ⟨g + 1, j, none⟩ = _ := HX.out.2.1.cellN hol hlt
      have fg := HX.out.2.1.frozenN hol j
      have ho3 := HX.out.2.1.storeN hol j (w32 (v - gu))
      have hp3 : CFil (w2.setCell ⟨g + 1, j, none⟩ (.int .i32 (w32 (v - gu)))) g (stN l j) := ⟨HX.out.1.blk.far (by simp) _, HX.out.1.len, HX.out.1.rng⟩
      have hf3 := HX.out.2.2.setCell (p := ⟨g + 1, j, none⟩) (fun h => absurd h (by simp only; omega)) (.int .i32 (w32 (v - gu)))
      have cx : (w2.setCell ⟨g + 1, j, none⟩ (.int .i32 (w32 (v - gu)))).cell? ⟨g + 1, j, none⟩ = some (.int .i32 (w32 (v - gu))) := by
        have := ho3.cellN (by rw [List.length_set]; exact hol) hlt
        rw [this]
        simp [List.getD, hol, hlt]
      rw [set_next _ _ _ _ (lrN_length _ _) hlt, ← Hr.out] at ho3
      have H3 := Lib.hid (And.intro hp3 (And.intro ho3 hf3))
      clear hp3 ho3 hf3
      go_wp2_with fail
      rw [w32_wr']
      generalize w2.setCell ⟨g + 1, j, none⟩ (.int .i32 (w32 (v - gu))) = w3 at *
      refine (clLearn_any g (stN l j) v _ w3 H3.out.1 HB.out hv).mono ?_
      rintro e w4 ⟨rfl, hp4, hk4⟩
      rw [← HSt.out] at hp4
      have ho4 := H3.out.2.1.kept hk4 (fun g' e e2 => by
        have e1 : g + 1 = g' := by simpa [Value.ownBlock] using e
        have e2' : g' = g := e2
        omega)
      have hf4 := H3.out.2.2.trans hk4 (fun i hi e => by have e' : i = g := e; omega)
      have H4 := Lib.hid (And.intro hp4 (And.intro ho4 hf4))
      clear hp4 ho4 hf4 hk4 H3
      go_wp2_with fail
      go_roundw
      case rel => exact ⟨j + 1, by omega, by go_num, H4.out.1, H4.out.2.1, H4.out.2.2⟩
      case measure => simp [intOf]; omega
    · obtain rfl : j = l.length := by omega
      rw [Nat.sub_self, List.replicate_zero, List.append_nil] at ho
      have HE : Hid (NewRow w wr 21 .i32 (.slice (some ⟨g + 1, 0, none⟩) l.length l.length) (lres l)) := Lib.hid ⟨ho, fun m e => by
        have e' : g + 1 = m := by simpa [Value.ownBlock] using e
        omega, hf⟩
      clear HX hp ho hf
      go_wp2_with fail
      go_ret
      exact ⟨_, rfl, HE.out⟩

set_option maxHeartbeats 1600000 in
/-- Restore: P12.2. -/
theorem clRestore_any (A : Option Addr) (n c : Nat) (l : List Int) (w : World) (hr : Row w .i32 A n l) (h32 : I32 l) (hn : n ≤ 1048576) :
    Calls Try.prog 17 #[.slice A n c] w fun e w' => ∃ u, e = .returned u ∧ NewRow w w' 21 .i32 u (lrst l) := by
  obtain ⟨i4, hi4, h40, h41, h42⟩ := info_parts Try.infoI32L
  obtain rfl := hr.len
  have HR : Hid (∀ V, Fresh w V → Row V .i32 A l.length l) := Lib.hid fun V hV => hr.kept hV (fun _ _ _ _ => id)
  have H32 := Lib.hid h32
  have hm : l.length ≤ 1048576 := hn
  clear hr h32 hn
  have HA : Hid (CFil (w.alloc (.cells (fcs (List.replicate 16 0)) 44)) w.heap.size (stN [] 0)) := Lib.hid ⟨Blk.new _ _ _, rfl, stN_32 (l := []) (fun _ h => by cases h) 0⟩
  rw [show fcs (List.replicate 16 0) = #[.int .i32 0, .int .i32 0, .int .i32 0, .int .i32 0, .int .i32 0, .int .i32 0, .int .i32 0, .int .i32 0, .int .i64 0, .int .i64 0, .int .i64 0, .int .i64 0, .int .i64 0, .int .i64 0, .int .i64 0, .int .i64 0] from rfl] at HA
  go_enter Try.func17, Try.ntmps17
  go_wp2_with (at_make; refine wpList_make_zeros _ rfl _ _ 22 rfl 21 i4 .i32 4 Try.underlying22 hi4 h40 h41 h42 _ _ _ _ l.length rfl rfl rfl rfl (by omega) (by unfold maxLen; omega) ?_)
  intro w1 ho1 hf1
  have H1 := Lib.hid (And.intro (HA.out.kept hf1 id) (And.intro ho1 (((Kept.refl (fun _ => False) w).alloc _).trans hf1 (fun _ _ h => h))))
  clear ho1 hf1 HA
  go_wp2_with fail
  generalize hg : w.heap.size = g at *
  have HG := Lib.hid hg
  clear hg
  go_loopw [12] (fun i wr => ∃ j : Nat, j ≤ l.length ∧ i = .int .i64 j ∧ CFil wr g (stN (lsN l j) j) ∧ Own wr 21 .i32 (.slice (some ⟨g + 1, 0, none⟩) l.length l.length) (lsN l j ++ List.replicate (l.length - j) 0) ∧ Fresh w wr) (fun i _ => (l.length - intOf i).toNat)
  case atStart => exact ⟨0, by omega, rfl, H1.out.1, H1.out.2.1, H1.out.2.2⟩
  case round =>
    obtain ⟨j, hj, rfl, hp, ho, hf⟩ := hrel
    clear H1
    have hol : (lsN l j ++ List.replicate (l.length - j) 0).length = l.length := by rw [List.length_append, lsN_length, List.length_replicate]; omega
    have hgl := ho.lt (g := g + 1) rfl
    have hws := HG.out
    have HX := Lib.hid (And.intro hp (And.intro ho hf))
    by_cases hlt : j < l.length
    · obtain ⟨b, o, rfl, hbw, _⟩ := (HR.out w (Kept.refl _ _)).at_ j hlt
      obtain ⟨b', o', e', hb, hc⟩ := (HR.out wr hf).at_ j hlt
      injection e' with e'
      injection e' with e1 e2
      subst e1 e2
      have j0 : (j : Int) < (l.length : Int) := by omega
      have hv := H32.out.at_ j
      have HC := Lib.hid (clGuess_any g (stN (lsN l j) j) wr hp)
      have HB := Lib.hid (stN_WB (lsN l j) (n := j) (by omega))
      have Hr : Hid (lsN l (j + 1) = lsN l j ++ [w32 (l.getD j 0 + gl (stN (lsN l j) j))]) := Lib.hid rfl
      have HSt : Hid (stN (lsN l (j + 1)) (j + 1) = (shS (upS (sgn (l.getD j 0)) (stN (lsN l j) j) 8) 7).set 8 (w32 (l.getD j 0 + gl (stN (lsN l j) j)))) := Lib.hid (by
        have e1 : (lsN l (j + 1)).getD j 0 = w32 (l.getD j 0 + gl (stN (lsN l j) j)) := by
          rw [show lsN l (j + 1) = lsN l j ++ [w32 (l.getD j 0 + gl (stN (lsN l j) j))] from rfl]
          simp [List.getD, lsN_length]
        have e2 : stN (lsN l (j + 1)) j = stN (lsN l j) j := stN_append _ _ (by rw [lsN_length]; exact Nat.le_refl j)
        have e3 : w32 (w32 (l.getD j 0 + gl (stN (lsN l j) j)) - gl (stN (lsN l j) j)) = l.getD j 0 := by
          generalize gl (stN (lsN l j) j) = q
          unfold w32
          omega
        show learnS (stN (lsN l (j + 1)) j) ((lsN l (j + 1)).getD j 0) = _
        rw [e1, e2]
        unfold learnS
        rw [e3])
      generalize gl (stN (lsN l j) j) = gu at *
      generalize l.getD j 0 = v at *
      clear hp ho hf
      go_wp2_with fail
      refine HC.out.mono ?_
      rintro e w2 ⟨rfl, rfl⟩
      clear HC
      have cg : w2.cell? ⟨g + 1, j, none⟩ = _ := HX.out.2.1.cellN hol hlt
      have fg := HX.out.2.1.frozenN hol j
      have ho3 := HX.out.2.1.storeN hol j (w32 (v + gu))
      have hp3 : CFil (w2.setCell ⟨g + 1, j, none⟩ (.int .i32 (w32 (v + gu)))) g (stN (lsN l j) j) := ⟨HX.out.1.blk.far (by simp) _, HX.out.1.len, HX.out.1.rng⟩
      have hf3 := HX.out.2.2.setCell (p := ⟨g + 1, j, none⟩) (fun h => absurd h (by simp only; omega)) (.int .i32 (w32 (v + gu)))
      have cx : (w2.setCell ⟨g + 1, j, none⟩ (.int .i32 (w32 (v + gu)))).cell? ⟨g + 1, j, none⟩ = some (.int .i32 (w32 (v + gu))) := by
        have := ho3.cellN (by rw [List.length_set]; exact hol) hlt
        rw [this]
        simp [List.getD, hol, hlt]
      rw [set_next _ _ _ _ (lsN_length _ _) hlt, ← Hr.out] at ho3
      have H3 := Lib.hid (And.intro hp3 (And.intro ho3 hf3))
      clear hp3 ho3 hf3
      go_wp2_with fail
      rw [w32_wr']
      generalize w2.setCell ⟨g + 1, j, none⟩ (.int .i32 (w32 (v + gu))) = w3 at *
      refine (clLearn_any g (stN (lsN l j) j) _ v w3 H3.out.1 HB.out (w32_in _)).mono ?_
      rintro e w4 ⟨rfl, hp4, hk4⟩
      rw [← HSt.out] at hp4
      have ho4 := H3.out.2.1.kept hk4 (fun g' e e2 => by
        have e1 : g + 1 = g' := by simpa [Value.ownBlock] using e
        have e2' : g' = g := e2
        omega)
      have hf4 := H3.out.2.2.trans hk4 (fun i hi e => by have e' : i = g := e; omega)
      have H4 := Lib.hid (And.intro hp4 (And.intro ho4 hf4))
      clear hp4 ho4 hf4 hk4 H3
      go_wp2_with fail
      go_roundw
      case rel => exact ⟨j + 1, by omega, by go_num, H4.out.1, H4.out.2.1, H4.out.2.2⟩
      case measure => simp [intOf]; omega
    · obtain rfl : j = l.length := by omega
      rw [Nat.sub_self, List.replicate_zero, List.append_nil] at ho
      have HE : Hid (NewRow w wr 21 .i32 (.slice (some ⟨g + 1, 0, none⟩) l.length l.length) (lrst l)) := Lib.hid ⟨ho, fun m e => by
        have e' : g + 1 = m := by simpa [Value.ownBlock] using e
        omega, hf⟩
      clear HX hp ho hf
      go_wp2_with fail
      go_ret
      exact ⟨_, rfl, HE.out⟩

/-- What the laws ask of the code. -/
theorem lmsOK : LmsOK CFil := ⟨fun h => h.kept, fun h => h.blk.lt, clNew_any, cfGuess_any, cfLearn_any, cfGuessNil_any, cfLearnNil_any, clResidual_any, clRestore_any⟩

end Go.Proofs.Ytgcbjfkneigijaa
