/- The document's blank, white, number. -/
import Derived.Test.YtlmhodkdcllcjaaPicMath
import Derived.Test.YtlmhodkdcllcjaaFilQ
namespace Go.Proofs.Ytlmhodkdcllcjaa
open Go.RowKit
set_option maxRecDepth 100000

attribute [local go_sem ↓] Go.wp_at_zero Go.wp_at_succ

set_option maxHeartbeats 1600000 in
theorem qBlank_any (c : Int) (w : World) (h : 0 ≤ c ∧ c < 256) : Calls Try.prog 27 #[.int .u8 c] w fun e w' => e = .returned (.bool (decide (blk c))) ∧ w = w' := by
  have hcs : c = 32 ∨ c = 9 ∨ c = 10 ∨ c = 13 ∨ (c ≠ 32 ∧ c ≠ 9 ∧ c ≠ 10 ∧ c ≠ 13) := by omega
  rcases hcs with rfl | rfl | rfl | rfl | ⟨h1, h2, h3, h4⟩
  rotate_right
  · have hd : decide (blk c) = false := by simp [blk, h1, h2, h3, h4]
    rw [hd]
    clear hd
    have b1 : (c == 32) = false := by simp [h1]
    have b2 : (c == 9) = false := by simp [h2]
    have b3 : (c == 10) = false := by simp [h3]
    have b4 : (c == 13) = false := by simp [h4]
    go_enter Try.func27, Try.ntmps27
    go_wp2_with fail
    go_ret
    exact ⟨rfl, rfl⟩
  all_goals
    rw [show decide (blk _) = true from by simp [blk]]
    go_enter Try.func27, Try.ntmps27
    go_wp2_with fail
    go_ret
    exact ⟨rfl, rfl⟩

set_option maxHeartbeats 3200000 in
theorem qWhite_any (A : Option Addr) (n c : Nat) (l : List Int) (i : Nat) (w : World) (hr : Row w .u8 A n l) (h8 : B8 l) (hn : n ≤ 1000000000) (hi : i ≤ n) :
    Calls Try.prog 25 #[.slice A n c, .int .i64 (i : Int)] w fun e w' => e = .returned (.int .i64 (whi l i i)) ∧ Fresh w w' := by
  obtain rfl := hr.len
  have HR : Hid (∀ V, Fresh w V → Row V .u8 A l.length l) := Lib.hid fun V hV => hr.kept hV (fun _ _ _ _ => id)
  have H8 := Lib.hid h8
  clear hr h8
  go_enter Try.func25, Try.ntmps25
  go_wp2_with fail
  go_loopw [1] (fun v wr => ∃ j : Nat, i ≤ j ∧ j ≤ l.length ∧ v = .int .i64 (j : Int) ∧ Fresh w wr ∧ whi l i j = whi l i i) (fun v _ => (l.length - intOf v).toNat)
  case atStart => exact ⟨i, by omega, by omega, rfl, Kept.refl _ _, rfl⟩
  case round =>
    obtain ⟨j, hij, hj, rfl, hfr, hw⟩ := hrel
    have HF := Lib.hid hfr
    have HW := Lib.hid hw
    clear hw
    by_cases hlt : j < l.length
    · obtain ⟨b, o, rfl, hb, hc⟩ := (HR.out wr hfr).at_ j hlt
      have hx := H8.out.at_ j
      have HU : Hid (whi l i j = if blk (l.getD j 0) then whi l i (j + 1) else if l.getD j 0 = 35 then (if eol l j < l.length then whi l i (eol l j + 1) else -1) else if j = i then -1 else j) := Lib.hid (by rw [whi, if_pos hlt])
      have HE : Hid (l.getD j 0 ≠ 10 → eol l j = eol l (j + 1)) := Lib.hid fun h => by rw [eol, if_pos hlt, if_neg h]
      generalize l.getD j 0 = x at *
      have HB := Lib.hid (qBlank_any x wr hx)
      have j0 : (j : Int) < (l.length : Int) := by omega
      clear hfr
      by_cases hbk : blk x
      · rw [if_pos hbk] at HU
        rw [show decide (blk x) = true from by simp [hbk]] at HB
        go_wp2_with fail
        refine HB.out.mono ?_
        rintro e wx ⟨rfl, rfl⟩
        clear HB hc
        go_wp2_with fail
        go_roundw
        case rel => exact ⟨j + 1, by omega, by omega, by go_num, HF.out, by rw [← HU.out]; exact HW.out⟩
        case measure => simp [intOf]; omega
      · rw [if_neg hbk] at HU
        rw [show decide (blk x) = false from by simp [hbk]] at HB
        by_cases h35 : x = 35
        · subst h35
          rw [if_pos rfl] at HU
          go_wp2_with fail
          refine HB.out.mono ?_
          rintro e wx ⟨rfl, rfl⟩
          clear HB HE hx
          go_wp2_with fail
          go_loopw [1] (fun v wi => ∃ e : Nat, j ≤ e ∧ e ≤ l.length ∧ v = .int .i64 (e : Int) ∧ Fresh w wi ∧ eol l e = eol l j) (fun v _ => (l.length - intOf v).toNat)
          case atStart => exact ⟨j, by omega, by omega, rfl, HF.out, rfl⟩
          case round =>
            obtain ⟨e, hje, hel, rfl, hfr2, heq⟩ := hrel
            have HF2 := Lib.hid hfr2
            by_cases hlt2 : e < l.length
            · obtain ⟨b2, o2, eA, hb2, hc2⟩ := (HR.out wr hfr2).at_ e hlt2
              injection eA with eA
              injection eA with e1 e2
              subst e1 e2
              have hx2 := H8.out.at_ e
              have HE2 : Hid (eol l j = if l.getD e 0 = 10 then e else eol l (e + 1)) := Lib.hid (by rw [← heq, eol, if_pos hlt2])
              generalize l.getD e 0 = y at *
              have e0 : (e : Int) < (l.length : Int) := by omega
              clear heq hfr2
              by_cases h10 : y = 10
              · rw [if_pos h10] at HE2
                rw [HE2.out, if_pos hlt2] at HU
                have b10 : (y != 10) = false := by simp [h10]
                have ne : ((e : Int) == (l.length : Int)) = false := by simp; omega
                clear HE2 h10
                go_wp2_with fail
                go_roundw
                case rel => exact ⟨e + 1, by omega, by omega, by go_num, HF2.out, by rw [← HU.out]; exact HW.out⟩
                case measure => simp [intOf]; omega
              · rw [if_neg h10] at HE2
                have b10 : (y != 10) = true := by simp [h10]
                clear h10
                go_wp2_with fail
                go_roundw
                case rel => exact ⟨e + 1, by omega, by omega, by go_num, HF2.out, HE2.out.symm⟩
                case measure => simp [intOf]; omega
            · have HE2 : eol l j = e := by rw [← heq, eol, if_neg hlt2]
              rw [HE2, if_neg hlt2] at HU
              have e0 : ¬ (e : Int) < (l.length : Int) := by omega
              have ne : ((e : Int) == (l.length : Int)) = true := by simp; omega
              have HEnd : Hid (whi l i i = -1) := Lib.hid (HW.out.symm.trans HU.out)
              clear heq hfr2 HE2 HU HW
              go_wp2_with fail
              go_ret
              exact ⟨by rw [HEnd.out]; rfl, HF2.out⟩
        · rw [if_neg h35] at HU
          have b35 : (x == 35) = false := by simp [h35]
          by_cases hji : j = i
          · rw [if_pos hji] at HU
            have bji : ((j : Int) == (i : Int)) = true := by simp [hji]
            have HEnd : Hid (whi l i i = -1) := Lib.hid (HW.out.symm.trans HU.out)
            clear HW HU hji
            go_wp2_with fail
            refine HB.out.mono ?_
            rintro e wx ⟨rfl, rfl⟩
            clear HB
            go_wp2_with fail
            go_ret
            exact ⟨by rw [HEnd.out]; rfl, HF.out⟩
          · rw [if_neg hji] at HU
            have bji : ((j : Int) == (i : Int)) = false := by simp; omega
            have HEnd : Hid (whi l i i = j) := Lib.hid (HW.out.symm.trans HU.out)
            clear HW HU
            go_wp2_with fail
            refine HB.out.mono ?_
            rintro e wx ⟨rfl, rfl⟩
            clear HB
            go_wp2_with fail
            go_ret
            exact ⟨by rw [HEnd.out]; rfl, HF.out⟩
    · have j0 : ¬ (j : Int) < (l.length : Int) := by omega
      have HEnd : Hid (whi l i i = -1) := Lib.hid (HW.out.symm.trans (by rw [whi, if_neg hlt]))
      clear hfr HW
      go_wp2_with fail
      go_ret
      exact ⟨by rw [HEnd.out]; rfl, HF.out⟩

end Go.Proofs.Ytlmhodkdcllcjaa
