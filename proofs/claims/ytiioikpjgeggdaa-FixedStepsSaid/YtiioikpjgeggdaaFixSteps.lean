/- FixedSteps: the residuals of order 2 are those of order 1, of order 1; those of order 3 likewise once more. Of any numbers. -/
import Derived.Test.YtiioikpjgeggdaaFixC
import Derived.Test.YtiioikpjgeggdaaHelpInt32
import Derived.Test.YtiioikpjgeggdaaArgs
namespace Go.Proofs.Ytiioikpjgeggdaa.fixedSteps
open Go.ChangeShapes Go.WideShapes Go.ChangeAt Go.RowKit

attribute [local go_sem ↓] Go.wp_at_zero Go.wp_at_succ

set_option maxRecDepth 100000 in
set_option maxHeartbeats 1600000 in
theorem walk (ok : FixedOK) (A : Option Addr) (n c : Nat) (l : List Int) (w : World) (_ : A = none → c = 0) (hr : Row w .i32 A n l) (hb : I32 l) (_ : n ≤ maxLen) (_ : n ≤ c) :
    Calls Try.prog 6 #[.slice A n c] w fun e w' => e = .returned (.bool true) ∧ Below w.heap.size w w' := by
  by_cases hlong : 3000 < n
  · have h1 : 3000 < (n : Int) := by omega
    have HA := Lib.hid (awakeF_any ok w)
    clear hr ok
    go_enter Try.func6, Try.ntmps6
    go_wp2_with fail
    refine HA.out.mono ?_
    rintro e w1 ⟨rfl, hf⟩
    have HF := Lib.hid hf.toBelow
    clear hf HA
    go_wp2_with fail
    go_ret
    exact ⟨rfl, HF.out⟩
  · have h1 : ¬ 3000 < (n : Int) := by omega
    have hn : n ≤ 1048576 := by omega
    have HQ : Hid (∀ V, Fresh w V → Row V .i32 A n l) := Lib.hid fun V hV => hr.fresh hV
    have HO := Lib.hid ok
    have HF0 : Hid (Fresh w w) := Lib.hid (Kept.refl _ _)
    clear hr ok
    go_enter Try.func6, Try.ntmps6
    have HC1 := Lib.hid (HO.out.resR c 1 (HQ.out w HF0.out) hb hn)
    go_wp2_with fail
    refine HC1.out.mono ?_
    rintro e w1 ⟨B1, c1, rfl, hr1, hf1⟩
    have HR1 := Lib.hid hr1
    have HF1 := Lib.hid (Fresh.two HF0.out hf1)
    have HG1 := Lib.hid hf1
    clear hr1 hf1 HC1
    have HC2 := Lib.hid (HO.out.resR c1 1 HR1.out (res_32 _ _) hn)
    go_wp2_with fail
    refine HC2.out.mono ?_
    rintro e w2 ⟨B2, c2, rfl, hr2, hf2⟩
    have HR2 := Lib.hid hr2
    have HF2 := Lib.hid (Fresh.two HF1.out hf2)
    have HG2 := Lib.hid hf2
    clear hr2 hf2 HC2
    rw [show ko 1 = 1 from rfl, res_two] at HR2
    have HA := Lib.hid (awakeF_any HO.out w2)
    go_wp2_with fail
    refine HA.out.mono ?_
    rintro e w3 ⟨rfl, hf⟩
    have HF3 := Lib.hid (Fresh.two HF2.out hf)
    have HG3 : Hid (∀ V, Fresh w3 V → Row V .i32 B2 n (res 2 l)) := Lib.hid fun V hV => (HR2.out.fresh hf).fresh hV
    clear hf HA HR1 HG1 HG2 HR2 HF1 HF2
    have HC4 := Lib.hid (HO.out.resR c 0 (HQ.out w3 HF3.out) hb hn)
    go_wp2_with fail
    refine HC4.out.mono ?_
    rintro e w4 ⟨B4, c4, rfl, hr4, hf4⟩
    have HR4 := Lib.hid hr4
    have HF4 := Lib.hid (Fresh.two HF3.out hf4)
    have HG4 := Lib.hid hf4
    clear hr4 hf4 HC4
    rw [show ko 0 = 0 from rfl, res_zero hb] at HR4
    have HP4 := Lib.hid (hPlainInt32_any B4 A n n c4 c l l w4 HR4.out (HQ.out w4 HF4.out) (by omega) (by omega))
    rw [decide_eq_true rfl] at HP4
    go_wp2_with fail
    refine HP4.out.mono ?_
    rintro e w5 ⟨rfl, k5, rfl⟩
    have HF5 := Lib.hid (HF4.out.drewN k5)
    have HG5 : Hid (Fresh w3 (w4.drewN k5)) := Lib.hid (HG4.out.drewN k5)
    generalize w4.drewN k5 = w5 at *
    clear HP4 HR4 HG4 HF3 HF4
    have HC6 := Lib.hid (HO.out.resR c 2 (HQ.out w5 HF5.out) hb hn)
    go_wp2_with fail
    refine HC6.out.mono ?_
    rintro e w6 ⟨B6, c6, rfl, hr6, hf6⟩
    have HR6 := Lib.hid hr6
    have HF6 := Lib.hid (Fresh.two HF5.out hf6)
    have HG6 := Lib.hid hf6
    clear hr6 hf6 HC6
    rw [show ko 2 = 2 from rfl] at HR6
    have HG7 := Lib.hid (Fresh.two HG5.out HG6.out)
    have HP6 := Lib.hid (hPlainInt32_any B2 B6 n n c2 c6 (res 2 l) (res 2 l) w6 (HG3.out w6 HG7.out) HR6.out (by omega) (by omega))
    rw [decide_eq_true rfl] at HP6
    clear HG5 HG6
    go_wp2_with fail
    refine HP6.out.mono ?_
    rintro e w7 ⟨rfl, k7, rfl⟩
    have HF7 := Lib.hid (HF6.out.drewN k7)
    have HG8 : Hid (Fresh w3 (w6.drewN k7)) := Lib.hid (HG7.out.drewN k7)
    generalize w6.drewN k7 = w7 at *
    clear HP6 HR6 HF5 HF6 HG7
    have HC8 := Lib.hid (HO.out.resR c2 1 (HG3.out w7 HG8.out) (res_32 _ _) hn)
    go_wp2_with fail
    refine HC8.out.mono ?_
    rintro e w8 ⟨B8, c8, rfl, hr8, hf8⟩
    have HR8 := Lib.hid hr8
    have HF8 := Lib.hid (Fresh.two HF7.out hf8)
    have HG8' := Lib.hid hf8
    clear hr8 hf8 HC8
    rw [show ko 1 = 1 from rfl, res_three] at HR8
    have HC9 := Lib.hid (HO.out.resR c 3 (HQ.out w8 HF8.out) hb hn)
    go_wp2_with fail
    refine HC9.out.mono ?_
    rintro e w9 ⟨B9, c9, rfl, hr9, hf9⟩
    have HR9 := Lib.hid hr9
    have HF9 := Lib.hid (Fresh.two HF8.out hf9)
    have HG9 := Lib.hid hf9
    clear hr9 hf9 HC9
    rw [show ko 3 = 3 from rfl] at HR9
    have HP9 := Lib.hid (hPlainInt32_any B8 B9 n n c8 c9 (res 3 l) (res 3 l) w9 (HR8.out.fresh HG9.out) HR9.out (by omega) (by omega))
    rw [decide_eq_true rfl] at HP9
    go_wp2_with fail
    refine HP9.out.mono ?_
    rintro e w10 ⟨rfl, k10, rfl⟩
    have HFE := Lib.hid (HF9.out.drewN k10).toBelow
    clear HP9 HR8 HR9 HG8' HG9 HF9 HF8
    go_wp2_with fail
    go_ret
    exact ⟨rfl, HFE.out⟩

set_option maxRecDepth 100000 in
theorem lifted (os : Os) (started : os.Started) (H : Type) (enc : TypeId × Value → H) :
    ReturnsInHanded {} Try.checked os 6 .any (Rows.fixedStepsSpec.pre6 enc Try.prog Try.f6 Rows.fixedStepsRow.domain false) (Rows.fixedStepsSpec.post enc Try.prog Try.f6 false true false false) := by
  refine returnsInHanded_of_change (C := Try.checked) Try.own started (by kernel_rfl) Try.func6
    (ChangeSpec.witness6 (enc := enc) (C := Try.checked) false ⟨#[], #[.slice none 0 0], []⟩ 8 (by kernel_rfl) (by kernel_rfl) (by kernel_rfl) (by kernel_rfl)) ?_
  intro W base args ds gs before hval0 hW hcnd _
  have hval : ∀ (j : Nat) t v, Try.f6.params[j]? = some t → args[j]? = some v → Value.okWide Try.prog W .any base t v := hval0
  have hpost : ∀ W', Below W.heap.size W W' → Rows.fixedStepsSpec.post enc Try.prog Try.f6 false true false false W args (.bool true) W' := fun W' hb =>
    law_post (by kernel_rfl) Try.underlying4 (by kernel_rfl) rfl (fun ds hl => match ds, hl with | [d1], _ => ⟨rfl, rfl, rfl⟩) hW hb
  obtain ⟨p, q, hA0, hV, rfl, hfz, hnd⟩ := hW
  have hA : DataW.TrodAll enc Try.prog W 0 (fun _ => true) true Try.f6.params.toList args.toList ds p := hA0
  rw [Try.params6] at hA hval
  obtain ⟨v0, vs0, d0, ds0, p0, q0, hargs, rfl, rfl, h0, r0⟩ := trodAll_cons hA
  obtain ⟨rfl, rfl, rfl⟩ := trodAll_nil r0
  obtain rfl : args = #[v0] := by cases args; simp_all
  obtain ⟨A0, n0, c0, xs0, rfl, hz0, hr0, hb0, hn0, hc0⟩ := open_rowc Try.underlying22 Try.underlying21 (by kernel_rfl) (hval 0 22 v0 rfl rfl) h0
  refine (walk fixedOK A0 n0 c0 xs0 W hz0 hr0 (range_ints32 hb0) hn0 hc0).mono fun e W' ⟨he, hb⟩ => ⟨_, he, hpost W' hb⟩

/-- The statement. -/
theorem proved : Rows.FixedStepsSaid :=
  OpenClaim.holds_of_wide 6 Try.f6 rfl rfl rfl rfl rfl rfl rfl ⟨rfl, rfl, rfl, rfl, rfl⟩ rfl rfl rfl rfl rfl (by kernel_rfl) Try.func6 (by kernel_rfl)
    (of_decide_eq_true (by kernel_rfl)) (by unfold Func.isWrapper; first | (rw [if_pos (by decide +kernel)]; kernel_rfl) | (rw [if_neg (by decide +kernel)]; exact ⟨rfl, rfl⟩))
    (fun os started H enc _ => lifted os started H enc)
#print axioms proved

end Go.Proofs.Ytiioikpjgeggdaa.fixedSteps
