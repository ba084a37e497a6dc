/- The document's Best, Apply, Undo of filters. -/
import Derived.Test.YtnmapfoinhomdaaFilR
import Derived.Test.YtnmapfoinhomdaaFilAll
import Derived.Test.YtnmapfoinhomdaaRetRow
namespace Go.Proofs.Ytnmapfoinhomdaa
open Go.RowKit
set_option maxRecDepth 100000

attribute [local go_sem ↓] Go.wp_at_zero Go.wp_at_succ

set_option maxHeartbeats 3200000 in
/-- Best: P17.2. -/
theorem qBestF_any (A : Option Addr) (n c : Nat) (l : List Int) (B : Option Addr) (m d : Nat) (up : List Int) (p : Int) (w : World)
    (hr : Row w .u8 A n l) (hb : Row w .u8 B m up) (h1 : B8 l) (h2 : B8 up) (hn : n ≤ 16777216) (hm : m ≤ 16777216) (hp : p ≤ 9223372036854775807) :
    Calls Try.prog 16 #[.slice A n c, .slice B m d, .int .i64 p] w fun e w' => e = .returned (.int .i64 (bst l up (plN p) : Nat)) ∧ Fresh w w' := by
  have hl := hr.len
  have HC : Hid (∀ (k : Nat) V, Fresh w V → Calls Try.prog 12 #[.int .i64 (k : Int), .slice A n c, .slice B m d, .int .i64 p] V fun e w' => ∃ D cD, e = .returned (.slice D n cD) ∧ Row w' .u8 D n (rowF (k : Nat) l up (plN p)) ∧ Fresh V w') := Lib.hid fun k V hV => by
    refine (qRowF_any A n c l B m d up k p V (hr.fresh hV) (hb.fresh hV) h1 h2 hn hm hp).mono ?_
    rintro e w' ⟨u, rfl, hu, _, hf⟩
    obtain ⟨D, cD, rfl, hrow, _⟩ := hu.row
    rw [rowF_length, hl] at hrow ⊢
    exact ⟨D, cD, rfl, hrow, hf⟩
  have HW : Hid (∀ (k : Nat) D cD V, Row V .u8 D n (rowF (k : Nat) l up (plN p)) → Calls Try.prog 30 #[.slice D n cD] V fun e w' => e = .returned (.int .i64 (wgt (rowF (k : Nat) l up (plN p)) : Nat)) ∧ V = w') := Lib.hid fun k D cD V hV => qWeightF_any D n cD _ V hV (rowF_byte _ _ _ _) hn
  have HL : Hid (∀ k : Nat, wgt (rowF (k : Nat) l up (plN p)) ≤ 128 * 16777216) := Lib.hid fun k => by
    have := wgN_le (rowF_byte (k : Nat) l up (plN p)) (rowF (k : Nat) l up (plN p)).length
    unfold wgt
    rw [rowF_length, hl] at *
    omega
  clear hr hb h1 h2 hl
  go_enter Try.func16, Try.ntmps16
  go_wp2_with fail
  go_loopw [8, 7] (fun i x wr => ∃ j : Nat, j ≤ 4 ∧ i = .int .i64 ((j : Int) + 1) ∧ x = .int .i64 (bstN l up (plN p) j : Nat) ∧ Fresh w wr) (fun i _ _ => (5 - intOf i).toNat)
  case atStart => exact ⟨0, by omega, rfl, rfl, Kept.refl _ _⟩
  case round =>
    obtain ⟨j, hj, rfl, rfl, hf⟩ := hrel
    have hb := bstN_le l up (plN p) j
    have HF := Lib.hid hf
    by_cases hlt : j < 4
    · have hs : bstN l up (plN p) (j + 1) = if wgt (rowF ((j + 1 : Nat) : Int) l up (plN p)) < wgt (rowF (bstN l up (plN p) j : Nat) l up (plN p)) then j + 1 else bstN l up (plN p) j := rfl
      have Hs := Lib.hid hs
      have b1 := HL.out (j + 1)
      have b2 := HL.out (bstN l up (plN p) j)
      have HC1 := Lib.hid (HC.out (j + 1) wr hf)
      have HC2 : Hid (∀ V, Fresh w V → _) := Lib.hid fun V hV => HC.out (bstN l up (plN p) j) V hV
      have HW1 : Hid (∀ D cD V, Row V .u8 D n (rowF ((j + 1 : Nat) : Int) l up (plN p)) → _) := Lib.hid fun D cD V hV => HW.out (j + 1) D cD V hV
      have HW2 : Hid (∀ D cD V, Row V .u8 D n (rowF (bstN l up (plN p) j : Nat) l up (plN p)) → _) := Lib.hid fun D cD V hV => HW.out (bstN l up (plN p) j) D cD V hV
      clear hs HC HW HL hf
      generalize bstN l up (plN p) j = m' at *
      generalize hx : rowF ((j + 1 : Nat) : Int) l up (plN p) = X at *
      generalize hy : rowF (m' : Nat) l up (plN p) = Y at *
      have HXY := Lib.hid (And.intro hx hy)
      clear hx hy
      generalize hx : wgt X = x at *
      generalize hy : wgt Y = y at *
      clear hx hy
      have j0 : (j : Int) + 1 ≤ 4 := by omega
      go_wp2_with fail
      rw [show ((j : Int) + 1) = ((j + 1 : Nat) : Int) from by omega]
      refine HC1.out.mono ?_
      rintro e w1 ⟨D1, c1, rfl, hr1, hf1⟩
      have HF1 := Lib.hid (Fresh.two HF.out hf1)
      have HWa := Lib.hid (HW1.out D1 c1 w1 hr1)
      clear hr1 hf1 HC1 HW1
      go_wp2_with fail
      refine HWa.out.mono ?_
      rintro e w2 ⟨rfl, rfl⟩
      have HCb := Lib.hid (HC2.out w1 HF1.out)
      clear HWa HC2
      go_wp2_with fail
      refine HCb.out.mono ?_
      rintro e w3 ⟨D3, c3, rfl, hr3, hf3⟩
      have HF3 := Lib.hid (Fresh.two HF1.out hf3)
      have HWb := Lib.hid (HW2.out D3 c3 w3 hr3)
      clear hr3 hf3 HCb HW2
      go_wp2_with fail
      refine HWb.out.mono ?_
      rintro e w4 ⟨rfl, rfl⟩
      clear HWb
      by_cases hxy : x < y
      · rw [if_pos hxy] at Hs
        have hx : (x : Int) < (y : Int) := by omega
        go_wp2_with fail
        go_roundw
        case rel => exact ⟨j + 1, by omega, by go_num, by rw [Hs.out]; go_num, HF3.out⟩
        case measure => simp [intOf]; omega
      · rw [if_neg hxy] at Hs
        have hx : ¬ (x : Int) < (y : Int) := by omega
        go_wp2_with fail
        go_roundw
        case rel => exact ⟨j + 1, by omega, by go_num, by rw [Hs.out], HF3.out⟩
        case measure => simp [intOf]; omega
    · obtain rfl : j = 4 := by omega
      clear hf
      go_wp2_with fail
      go_ret
      exact ⟨rfl, HF.out⟩

end Go.Proofs.Ytnmapfoinhomdaa
