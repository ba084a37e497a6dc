/- The contracts of within, Squash and Stretch, the code's and the document's, of the document's Round. -/
import Derived.Test.YtpknbfkknnaajaaDoorMixMath
import Derived.Lib.MinMax
namespace Go.Proofs.YtpknbfkknnaajaaDoor
open Go.RowKit

theorem wrap_is {x S : Int} (h : S = x) (h1 : -9223372036854775808 ≤ S) (h2 : S ≤ 9223372036854775807) : wrap64 x = S := by subst h; exact IntWalk.wrap64_in _ ⟨h1, h2⟩

set_option maxHeartbeats 400000 in
theorem within_any (v m : Int) (w : World) (h0 : 0 ≤ m) (h1 : m ≤ 16777216) :
    Calls Tryd.prog 99 #[.int .i64 v, .int .i64 m] w fun e w' => e = .returned (.int .i64 (cl v m)) ∧ w' = w := by
  go_enter Tryd.func99, Tryd.ntmps99
  go_wp2
  go_ret
  exact ⟨ret_int (cl_int v m), rfl⟩

set_option maxHeartbeats 400000 in
theorem squash_any (d : Int) (w : World) :
    Calls Tryd.prog 86 #[.int .i64 d] w fun e w' => e = .returned (.int .i64 (sq d)) ∧ w' = w := by
  have hb := cl_bd (v := d) (m := 2047) (by omega)
  have HW := Lib.hid (within_any d 2047 · (by omega) (by omega))
  unfold sq
  have hs : sq0 (cl d 2047) = 2048 + (2560 * cl d 2047).tdiv (512 + max (cl d 2047) (-cl d 2047)) := rfl
  have HS := Lib.hid hs
  clear hs
  have hsb := sq_bd d
  unfold sq at hsb
  generalize sq0 (cl d 2047) = S at *
  generalize cl d 2047 = a at *
  have hn : (512 + max a (-a) == 0) = false := by rw [beq_eq_false_iff_ne]; omega
  go_enter Tryd.func86, Tryd.ntmps86
  go_wp2_with fail
  refine (HW.out _).mono ?_
  rintro e w' ⟨rfl, rfl⟩
  go_wp2_with fail
  go_ret
  exact ⟨ret_int (wrap_is HS.out (by omega) (by omega)), rfl⟩

set_option maxHeartbeats 400000 in
theorem qSquash_any (d : Int) (w : World) :
    Calls Tryd.prog 64 #[.int .i64 d] w fun e w' => e = .returned (.int .i64 (sq d)) ∧ w' = w := by
  have hb := cl_bd (v := d) (m := 2047) (by omega)
  have hc := cl_int2 (v := d) (m := 2047) (by omega)
  unfold sq
  have hs : sq0 (cl d 2047) = 2048 + (2560 * cl d 2047).tdiv (512 + max (cl d 2047) (-cl d 2047)) := rfl
  have HS := Lib.hid hs
  clear hs
  have hsb := sq_bd d
  unfold sq at hsb
  generalize sq0 (cl d 2047) = S at *
  generalize cl d 2047 = a at *
  have hn : (512 + max a (-a) == 0) = false := by rw [beq_eq_false_iff_ne]; omega
  go_enter Tryd.func64, Tryd.ntmps64
  go_wp2_with fail
  go_ret
  exact ⟨ret_int (wrap_is HS.out (by omega) (by omega)), rfl⟩

theorem st_hi {p : Int} (h : 2048 < p) : st p = (512 * (p - 2048) + (2560 - (p - 2048)) - 1) / (2560 - (p - 2048)) := if_pos h
theorem st_lo {p : Int} (h : ¬ 2048 < p) : st p = -((512 * (2048 - p + 1) - 1) / (2560 - (2048 - p + 1))) := if_neg h

set_option maxHeartbeats 400000 in
/-- Stretch: P6.1. -/
theorem stretch_any (p : Int) (w : World) :
    Calls Tryd.prog 83 #[.int .i64 p] w fun e w' => e = .returned (.int .i64 (st (pc p))) ∧ w' = w := by
  have hb := pc_bd p
  have hc : min (max p 1) 4095 = pc p := rfl
  generalize pc p = a at *
  by_cases h : 2048 < a
  · have HS := Lib.hid (st_hi h)
    generalize st a = S at *
    go_enter Tryd.func83, Tryd.ntmps83
    go_wp2_with fail
    go_ret
    exact ⟨ret_int HS.out.symm, rfl⟩
  · have HS := Lib.hid (st_lo h)
    have hs := st_bd hb.1 hb.2
    generalize st a = S at *
    go_enter Tryd.func83, Tryd.ntmps83
    go_wp2_with fail
    go_ret
    exact ⟨ret_int (wrap_is HS.out (by omega) (by omega)), rfl⟩

set_option maxHeartbeats 800000 in
/-- The document's Stretch: P6.1. -/
theorem qStretch_any (p : Int) (w : World) :
    Calls Tryd.prog 46 #[.int .i64 p] w fun e w' => e = .returned (.int .i64 (st (pc p))) ∧ w' = w := by
  have hb := pc_bd p
  have hc := pc_int2 p
  have hs := st_bd hb.1 hb.2
  have HS := Lib.hid (And.intro (fun d => st_below (d := d) hb.1 hb.2) (fun d => st_above (d := d) hb.1 hb.2))
  generalize pc p = a at *
  generalize st a = S at *
  go_enter Tryd.func46, Tryd.ntmps46
  go_wp2_with fail
  go_loop [3, 4] (fun x y => ∃ lo hi : Int, x = .int .i64 lo ∧ y = .int .i64 hi ∧ -2047 ≤ lo ∧ lo ≤ S ∧ S ≤ hi ∧ hi ≤ 2047) (fun x y => (intOf y - intOf x).toNat)
  case atStart => exact ⟨-2047, 2047, rfl, rfl, by omega, by omega, by omega, by omega⟩
  case round =>
    obtain ⟨lo, hi, rfl, rfl, h1, h2, h3, h4⟩ := hrel
    by_cases hlt : lo < hi
    · have hm : ∃ m : Int, (lo + hi + 4094) / 2 - 2047 = m := ⟨_, rfl⟩
      obtain ⟨m, hm⟩ := hm
      have hm1 : lo ≤ m := by omega
      have hm2 : m < hi := by omega
      by_cases hlm : m < S
      · have hq := HS.out.1 m (by omega) hlm
        have hd : decide (sq m < a) = true := by simp; omega
        go_wp2_with fail
        refine (qSquash_any m _).mono ?_
        rintro e w' ⟨rfl, rfl⟩
        generalize sq m = z at *
        go_wp2_with fail
        go_round
        case rel => exact ⟨m + 1, hi, rfl, rfl, by omega, by omega, by omega, by omega⟩
        case measure => simp [intOf]; omega
      · have hq := HS.out.2 m (by omega)
        have hd : decide (sq m < a) = false := by simp; omega
        go_wp2_with fail
        refine (qSquash_any m _).mono ?_
        rintro e w' ⟨rfl, rfl⟩
        generalize sq m = z at *
        go_wp2_with fail
        go_round
        case rel => exact ⟨lo, m, rfl, rfl, by omega, by omega, by omega, by omega⟩
        case measure => simp [intOf]; omega
    · obtain rfl : lo = S := by omega
      go_wp2_with fail
      go_ret
      exact ⟨rfl, rfl⟩

end Go.Proofs.YtpknbfkknnaajaaDoor
