/- Filters in memory (sixteen cells: the weights, then the numbers); the document's Guess and Learn. -/
import Derived.Test.YtgcbjfkneigijaaLmsMath
import Derived.Test.YtgcbjfkneigijaaZeros
import Derived.BigQuiet
import Derived.BigRegion
import Derived.Deep.QuietTactic
import Derived.Deep.DrawnRows
import Derived.StillTailTactics
namespace Go.Proofs.Ytgcbjfkneigijaa
open Go.RowKit
set_option maxRecDepth 100000

attribute [local go_sem ↓] Go.wp_at_zero Go.wp_at_succ

/-- A filter at block g. -/
structure Fil (w : World) (g : Nat) (t : TypeId) (S : List Int) : Prop where
  blk : Blk w g t (ivs .i32 S).toArray
  len : S.length = 16
  rng : I32 S
section
variable {w w' : World} {g : Nat} {t : TypeId} {S : List Int}
theorem Fil.cell (h : Fil w g t S) {i : Nat} (hi : i < 16) : w.cell? ⟨g, i, none⟩ = some (.int .i32 (S.getD i 0)) := by
  rw [h.blk.cell, List.getElem?_toArray, ivs_get (by rw [h.len]; exact hi)]
theorem Fil.drewN (h : Fil w g t S) (n : Nat) : Fil (w.drewN n) g t S := ⟨h.blk.drewN n, h.len, h.rng⟩
theorem Fil.drew (h : Fil w g t S) : Fil w.drew g t S := ⟨h.blk.drew, h.len, h.rng⟩
theorem Fil.kept {P : Nat → Prop} (h : Fil w g t S) (hk : Kept P w w') (hn : ¬ P g) : Fil w' g t S := ⟨h.blk.kept hk hn, h.len, h.rng⟩
theorem Fil.set_ (h : Fil w g t S) (i : Nat) {x : Int} (hx : -2147483648 ≤ x ∧ x < 2147483648) : Fil (w.setCell ⟨g, i, none⟩ (.int .i32 x)) g t (S.set i x) := by
  refine ⟨?_, by rw [List.length_set]; exact h.len, h.rng.set i hx⟩
  have := h.blk.set_ i (.int .i32 x)
  have e : (ivs .i32 S).toArray.setIfInBounds i (.int .i32 x) = (ivs .i32 (S.set i x)).toArray := by rw [← ivs_set]; simp
  rwa [e] at this
end
/-- What a call of a filter leaves. -/
def FlP (w w' : World) (g : Nat) (t : TypeId) (S : List Int) : Prop := Fil w' g t S ∧ Kept (fun k => k = g) w w'

theorem drewN_two (w : World) (n m : Nat) : (w.drewN n).drewN m = w.drewN (n + m) := by simp [World.drewN, Nat.add_assoc]
theorem w32_wr' (x : Int) : wrap32 x = w32 x := by unfold w32 wrap32; rfl
theorem w64_step (s p : Int) : wrap64 (wrap64 s + wrap64 p) = wrap64 (s + p) := by unfold wrap64; omega
theorem w64_step' (s p : Int) : wrap64 (wrap64 s + p) = wrap64 (s + p) := by unfold wrap64; omega
theorem mul_32 {a b : Int} (ha : -2147483648 ≤ a ∧ a < 2147483648) (hb : -2147483648 ≤ b ∧ b < 2147483648) : -9223372036854775808 ≤ a * b ∧ a * b ≤ 9223372036854775807 := by
  have h1 : a.natAbs ≤ 2147483648 := by omega
  have h2 : b.natAbs ≤ 2147483648 := by omega
  have h3 : (a * b).natAbs ≤ 2147483648 * 2147483648 := by rw [Int.natAbs_mul]; exact Nat.mul_le_mul h1 h2
  omega

set_option maxHeartbeats 800000 in
theorem qSign_any (x : Int) (w : World) : Calls Try.prog 22 #[.int .i32 x] w fun e w' => e = .returned (.int .i32 (sgn x)) ∧ w' = w := by
  rcases Int.lt_trichotomy x 0 with h | h | h
  · have h1 : ¬ 0 < x := by omega
    have e : sgn x = -1 := by unfold sgn; rw [if_neg h1, if_pos h]
    have E := Lib.hid e
    clear e
    go_enter Try.func22, Try.ntmps22
    go_wp2
    go_ret
    exact ⟨by rw [E.out]; rfl, rfl⟩
  · subst h
    go_enter Try.func22, Try.ntmps22
    go_wp2
    go_ret
    exact ⟨rfl, rfl⟩
  · have e : sgn x = 1 := by unfold sgn; rw [if_pos h]
    have E := Lib.hid e
    clear e
    go_enter Try.func22, Try.ntmps22
    go_wp2
    go_ret
    exact ⟨by rw [E.out]; rfl, rfl⟩

set_option maxHeartbeats 1600000 in
/-- Guess: P12.1. -/
theorem qlGuess_any (g : Nat) (S : List Int) (w : World) (h : Fil w g 28 S) :
    Calls Try.prog 10 #[.pointer (some ⟨g, 0, none⟩)] w fun e w' => e = .returned (.int .i32 (gl S)) ∧ ∃ n, w' = w.drewN n := by
  have H := Lib.hid h
  clear h
  go_enter Try.func10, Try.ntmps10
  go_wp2_with fail
  go_loopw [4, 3] (fun i x wr => ∃ j : Nat, j ≤ 8 ∧ i = .int .i64 j ∧ x = .int .i64 (wrap64 (dotS S j)) ∧ ∃ n, wr = w.drewN n) (fun i _ _ => (8 - intOf i).toNat)
  case atStart => exact ⟨0, by omega, rfl, by simp [dotS, wrap64], 0, rfl⟩
  case round =>
    obtain ⟨j, hj, rfl, rfl, n, hn⟩ := hrel
    have HW := Lib.hid (And.intro (hn ▸ H.out.drewN n) hn)
    clear hn
    by_cases hlt : j < 8
    · have j0 : (j : Int) < 8 := by omega
      have c0 := HW.out.1.cell (i := j) (by omega)
      have c1 := HW.out.1.cell (i := 8 + j) (by omega)
      have hs : Hid (dotS S (j + 1) = dotS S j + S.getD j 0 * S.getD (8 + j) 0) := Lib.hid rfl
      have hm := mul_32 (H.out.rng.at_ j) (H.out.rng.at_ (8 + j))
      have ha := H.out.rng.at_ j
      have hb := H.out.rng.at_ (8 + j)
      generalize S.getD j 0 = a at *
      generalize S.getD (8 + j) 0 = b at *
      generalize dotS S j = d at *
      go_wp2_with fail
      go_quiet (fail)
      go_wp2_with fail
      go_roundw
      case rel => exact ⟨j + 1, by omega, by go_num, by rw [hs.out, ← w64_step' d (a * b)], n + nq, by rw [HW.out.2]; exact drewN_two _ _ _⟩
      case measure => simp [intOf]; omega
    · obtain rfl : j = 8 := by omega
      have hg : Hid (gl S = w32 (wrap64 (dotS S 8) / 256)) := Lib.hid rfl
      have hd : -9223372036854775808 ≤ wrap64 (dotS S 8) ∧ wrap64 (dotS S 8) ≤ 9223372036854775807 := by unfold wrap64; omega
      generalize wrap64 (dotS S 8) = d at *
      go_wp2_with fail
      go_ret
      exact ⟨ret_int (by rw [hg.out]; unfold w32 wrap32; rfl), n, HW.out.2⟩

set_option maxHeartbeats 1600000 in
/-- Learn: P12.1. -/
theorem qlLearn_any (g : Nat) (S : List Int) (v : Int) (w : World) (h : Fil w g 28 S) (hv : -2147483648 ≤ v ∧ v < 2147483648) :
    Calls Try.prog 12 #[.pointer (some ⟨g, 0, none⟩), .int .i32 v] w fun e w' => e = .returned (.tuple #[]) ∧ FlP w w' g 28 (learnS S v) := by
  have H := Lib.hid h
  have HG := Lib.hid (qlGuess_any g S w h)
  have He : Hid (learnS S v = (shS (upS (sgn (w32 (v - gl S))) S 8) 7).set 8 v) := Lib.hid rfl
  clear h
  generalize gl S = gu at *
  go_enter Try.func12, Try.ntmps12
  go_wp2_with fail
  refine HG.out.mono ?_
  rintro e w1 ⟨rfl, n, hn⟩
  have H1 : Hid (Fil w1 g 28 S ∧ Kept (fun k => k = g) w w1) := Lib.hid (by rw [hn]; exact ⟨H.out.drewN n, (Kept.refl _ _).drewN n⟩)
  clear HG H hn
  go_wp2_with fail
  rw [w32_wr']
  generalize w32 (v - gu) = d at *
  refine (qSign_any d w1).mono ?_
  rintro e w2 ⟨rfl, rfl⟩
  have he := sgn_in d
  generalize sgn d = s at *
  go_wp2_with fail
  go_loopw [5] (fun i wr => ∃ j : Nat, j ≤ 8 ∧ i = .int .i64 j ∧ FlP w wr g 28 (upS s S j)) (fun i _ => (8 - intOf i).toNat)
  case atStart => exact ⟨0, by omega, rfl, H1.out.1, H1.out.2⟩
  case round =>
    obtain ⟨j, hj, rfl, hf, hk⟩ := hrel
    clear H1
    have HF := Lib.hid (And.intro hf hk)
    clear hf hk
    by_cases hlt : j < 8
    · have j0 : (j : Int) < 8 := by omega
      have c0 := HF.out.1.cell (i := j) (by omega)
      have c1 := HF.out.1.cell (i := 8 + j) (by omega)
      have fz := HF.out.1.blk.frozen j
      rw [upS_far s S j j (Nat.le_refl _)] at c0
      rw [upS_far s S j (8 + j) (by omega)] at c1
      have hs : Hid (upS s S (j + 1) = (upS s S j).set j (w32 (S.getD j 0 + w32 (s * sgn (S.getD (8 + j) 0))))) := Lib.hid rfl
      generalize S.getD j 0 = a at *
      generalize S.getD (8 + j) 0 = b at *
      have HSg := Lib.hid (qSign_any b wr.drew)
      have hb := sgn_in b
      generalize sgn b = sb at *
      go_wp2_with fail
      go_still_tail 21, (by kernel_rfl)
      still_call HSg.out
      still_step
      still_step
      still_step
      still_step
      still_step
      refine wpStill_nil ?_
      change wpList _ _ _ _ _ wr.drew
      have hfd : Hid (FlP w wr.drew g 28 (upS s S j)) := Lib.hid ⟨HF.out.1.drew, HF.out.2.drew⟩
      clear c0 c1 HSg HF
      have fz' : wr.drew.frozen? ⟨g, j, none⟩ = false := fz
      clear fz
      generalize wr.drew = wd at *
      have c0' := hfd.out.1.cell (i := j) (by omega)
      go_wp2_with fail
      go_roundw
      case rel => exact ⟨j + 1, by omega, by go_num, by rw [hs.out, ← w32_wr', ← w32_wr']; exact hfd.out.1.set_ j (by rw [w32_wr']; exact w32_in _), hfd.out.2.setCell (fun _ => rfl) _⟩
      case measure => simp [intOf]; omega
    · obtain rfl : j = 8 := by omega
      have hl16 : (upS s S 8).length = 16 := HF.out.1.len
      generalize upS s S 8 = U at *
      go_wp2_with fail
      go_loopw [6] (fun i wr => ∃ k : Nat, k ≤ 7 ∧ i = .int .i64 k ∧ FlP w wr g 28 (shS U (7 - k))) (fun i _ => (intOf i).toNat)
      case atStart => exact ⟨7, by omega, rfl, HF.out.1, HF.out.2⟩
      case round =>
        obtain ⟨k, hk, rfl, hf, hkp⟩ := hrel
        clear HF
        have HF := Lib.hid (And.intro hf hkp)
        clear hf hkp
        rcases k with _ | m
        · have HE : Hid (FlP w wr g 28 (shS U 7)) := Lib.hid ⟨HF.out.1, HF.out.2⟩
          have c8 := HE.out.1.cell (i := 8) (by omega)
          have f8 := HE.out.1.blk.frozen 8
          clear HF
          go_wp2_with fail
          go_end0
          rw [He.out]
          exact ⟨rfl, HE.out.1.set_ 8 hv, HE.out.2.setCell (fun _ => rfl) _⟩
        · have m0 : (0 : Int) < ((m + 1 : Nat) : Int) := by omega
          have cr := HF.out.1.cell (i := 8 + m) (by omega)
          have cw := HF.out.1.cell (i := 8 + (m + 1)) (by omega)
          have fw := HF.out.1.blk.frozen (8 + (m + 1))
          have hs : Hid (shS U (7 - m) = (shS U (7 - (m + 1))).set (8 + (m + 1)) ((shS U (7 - (m + 1))).getD (8 + m) 0)) := Lib.hid (by
            rw [show 7 - m = 7 - (m + 1) + 1 from by omega]
            show (shS U (7 - (m + 1))).set (15 - (7 - (m + 1))) ((shS U (7 - (m + 1))).getD (14 - (7 - (m + 1))) 0) = _
            rw [show 15 - (7 - (m + 1)) = 8 + (m + 1) from by omega, show 14 - (7 - (m + 1)) = 8 + m from by omega])
          have hr := HF.out.1.rng.at_ (8 + m)
          generalize (shS U (7 - (m + 1))).getD (8 + m) 0 = x at *
          go_wp2_with fail
          go_region
          go_wp2_with fail
          go_roundw
          case rel => exact ⟨m, by omega, by go_num, by rw [hs.out]; exact (HF.out.1.set_ (8 + (m + 1)) hr).drew, (HF.out.2.setCell (p := ⟨g, 8 + (m + 1), none⟩) (fun _ => rfl) _).drew⟩
          case measure => simp [intOf]

end Go.Proofs.Ytgcbjfkneigijaa
