/- FixedBack: what was taken away is restored, and what was restored is taken away again, of any numbers, at any order. -/
import Derived.Test.YtiioikpjgeggdaaFixC
import Derived.Test.YtiioikpjgeggdaaHelpInt32
import Derived.Test.YtiioikpjgeggdaaArgs
namespace Go.Proofs.Ytiioikpjgeggdaa.fixedBack
open Go.ChangeShapes Go.WideShapes Go.ChangeAt Go.RowKit

attribute [local go_sem ↓] Go.wp_at_zero Go.wp_at_succ

set_option maxRecDepth 100000 in
set_option maxHeartbeats 1600000 in
theorem walk (ok : FixedOK) (A : Option Addr) (n c : Nat) (l : List Int) (k : Int) (w : World) (_ : A = none → c = 0) (hr : Row w .i32 A n l) (hb : I32 l) (_ : n ≤ maxLen) (_ : n ≤ c) :
    Calls Try.prog 4 #[.slice A n c, .int .i64 k] w fun e w' => e = .returned (.bool true) ∧ Below w.heap.size w w' := by
  by_cases hlong : 3000 < n
  · have h1 : 3000 < (n : Int) := by omega
    have HA := Lib.hid (awakeF_any ok w)
    clear hr ok
    go_enter Try.func4, Try.ntmps4
    go_wp2_with fail
    refine HA.out.mono ?_
    rintro e w1 ⟨rfl, hf⟩
    have HF := Lib.hid hf.toBelow
    clear hf HA
    go_wp2_with fail
    go_ret
    exact ⟨rfl, HF.out⟩
  · have h1 : ¬ 3000 < (n : Int) := by omega
    have hn : n ≤ 1048576 := by omega
    have HQ : Hid (∀ V, Fresh w V → Row V .i32 A n l) := Lib.hid fun V hV => hr.fresh hV
    have HO := Lib.hid ok
    have HA := Lib.hid (awakeF_any ok w)
    clear hr ok
    go_enter Try.func4, Try.ntmps4
    go_wp2_with fail
    refine HA.out.mono ?_
    rintro e w1 ⟨rfl, hf⟩
    have HF1 := Lib.hid hf
    clear hf HA
    have HC2 := Lib.hid (HO.out.resR c k (HQ.out w1 HF1.out) hb hn)
    go_wp2_with fail
    refine HC2.out.mono ?_
    rintro e w2 ⟨B2, c2, rfl, hr2, hf2⟩
    have HR2 := Lib.hid hr2
    have HF2 := Lib.hid (Fresh.two HF1.out hf2)
    have HG2 := Lib.hid hf2
    clear hr2 hf2 HC2
    have HC3 := Lib.hid (HO.out.rstR c2 k HR2.out (res_32 _ _) hn)
    go_wp2_with fail
    refine HC3.out.mono ?_
    rintro e w3 ⟨B3, c3, rfl, hr3, hf3⟩
    have HR3 := Lib.hid hr3
    have HF3 := Lib.hid (Fresh.two HF2.out hf3)
    have HG3 := Lib.hid hf3
    clear hr3 hf3 HC3
    rw [rst_res _ hb] at HR3
    have HP3 := Lib.hid (hPlainInt32_any B3 A n n c3 c l l w3 HR3.out (HQ.out w3 HF3.out) (by omega) (by omega))
    rw [decide_eq_true rfl] at HP3
    go_wp2_with fail
    refine HP3.out.mono ?_
    rintro e w4 ⟨rfl, k4, rfl⟩
    have HF4 := Lib.hid (HF3.out.drewN k4)
    generalize w3.drewN k4 = w4 at *
    clear HP3 HR2 HR3 HG2 HG3 HF2 HF3
    have HC5 := Lib.hid (HO.out.rstR c k (HQ.out w4 HF4.out) hb hn)
    go_wp2_with fail
    refine HC5.out.mono ?_
    rintro e w5 ⟨B5, c5, rfl, hr5, hf5⟩
    have HR5 := Lib.hid hr5
    have HF5 := Lib.hid (Fresh.two HF4.out hf5)
    have HG5 := Lib.hid hf5
    clear hr5 hf5 HC5
    have HC6 := Lib.hid (HO.out.resR c5 k HR5.out (rst_32 _ _) hn)
    go_wp2_with fail
    refine HC6.out.mono ?_
    rintro e w6 ⟨B6, c6, rfl, hr6, hf6⟩
    have HR6 := Lib.hid hr6
    have HF6 := Lib.hid (Fresh.two HF5.out hf6)
    have HG6 := Lib.hid hf6
    clear hr6 hf6 HC6
    rw [res_rst _ hb] at HR6
    have HP6 := Lib.hid (hPlainInt32_any B6 A n n c6 c l l w6 HR6.out (HQ.out w6 HF6.out) (by omega) (by omega))
    rw [decide_eq_true rfl] at HP6
    go_wp2_with fail
    refine HP6.out.mono ?_
    rintro e w7 ⟨rfl, k7, rfl⟩
    have HF7 := Lib.hid (HF6.out.drewN k7).toBelow
    clear HP6 HR5 HR6 HG5 HG6 HF6
    go_wp2_with fail
    go_ret
    exact ⟨rfl, HF7.out⟩

set_option maxRecDepth 100000 in
theorem lifted (os : Os) (started : os.Started) (H : Type) (enc : TypeId × Value → H) :
    ReturnsInHanded {} Try.checked os 4 .any (Rows.fixedBackSpec.pre6 enc Try.prog Try.f4 Rows.fixedBackRow.domain false) (Rows.fixedBackSpec.post enc Try.prog Try.f4 false true false false) := by
  refine returnsInHanded_of_change (C := Try.checked) Try.own started (by kernel_rfl) Try.func4
    (ChangeSpec.witness6 (enc := enc) (C := Try.checked) false ⟨#[], #[.slice none 0 0, .int .i64 0], []⟩ 8 (by kernel_rfl) (by kernel_rfl) (by kernel_rfl) (by kernel_rfl)) ?_
  intro W base args ds gs before hval0 hW hcnd _
  have hval : ∀ (j : Nat) t v, Try.f4.params[j]? = some t → args[j]? = some v → Value.okWide Try.prog W .any base t v := hval0
  have hpost : ∀ W', Below W.heap.size W W' → Rows.fixedBackSpec.post enc Try.prog Try.f4 false true false false W args (.bool true) W' := fun W' hb =>
    law_post (by kernel_rfl) Try.underlying4 (by kernel_rfl) rfl (fun ds hl => match ds, hl with | [d1, d2], _ => ⟨rfl, rfl, rfl⟩) hW hb
  obtain ⟨p, q, hA0, hV, rfl, hfz, hnd⟩ := hW
  have hA : DataW.TrodAll enc Try.prog W 0 (fun _ => true) true Try.f4.params.toList args.toList ds p := hA0
  rw [Try.params4] at hA hval
  obtain ⟨v0, vs0, d0, ds0, p0, q0, hargs, rfl, rfl, h0, r0⟩ := trodAll_cons hA
  obtain ⟨v1, vs1, d1, ds1, p1, q1, rfl, rfl, rfl, h1, r1⟩ := trodAll_cons r0
  obtain ⟨rfl, rfl, rfl⟩ := trodAll_nil r1
  obtain rfl : args = #[v0, v1] := by cases args; simp_all
  obtain ⟨A0, n0, c0, xs0, rfl, hz0, hr0, hb0, hn0, hc0⟩ := open_rowc Try.underlying22 Try.underlying21 (by kernel_rfl) (hval 0 22 v0 rfl rfl) h0
  obtain ⟨a1, rfl, rfl, rfl, w1⟩ := open_int Try.underlying3 (hval 1 3 v1 rfl rfl) h1
  refine (walk fixedOK A0 n0 c0 xs0 a1 W hz0 hr0 (range_ints32 hb0) hn0 hc0).mono fun e W' ⟨he, hb⟩ => ⟨_, he, hpost W' hb⟩

/-- The statement. -/
theorem proved : Rows.FixedBackSaid :=
  OpenClaim.holds_of_wide 4 Try.f4 rfl rfl rfl rfl rfl rfl rfl ⟨rfl, rfl, rfl, rfl, rfl⟩ rfl rfl rfl rfl rfl (by kernel_rfl) Try.func4 (by kernel_rfl)
    (of_decide_eq_true (by kernel_rfl)) (by unfold Func.isWrapper; first | (rw [if_pos (by decide +kernel)]; kernel_rfl) | (rw [if_neg (by decide +kernel)]; exact ⟨rfl, rfl⟩))
    (fun os started H enc _ => lifted os started H enc)
#print axioms proved

end Go.Proofs.Ytiioikpjgeggdaa.fixedBack
