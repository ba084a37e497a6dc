/- LmsLeaves: the residuals of any numbers, and what they are of, are what the document says; what was handed in stays. -/
import Derived.Test.YtgcbjfkneigijaaLmsC
import Derived.Test.YtgcbjfkneigijaaHelpInt32
import Derived.Test.YtgcbjfkneigijaaArgs
namespace Go.Proofs.Ytgcbjfkneigijaa.lmsLeaves
open Go.ChangeShapes Go.WideShapes Go.ChangeAt Go.RowKit

attribute [local go_sem ↓] Go.wp_at_zero Go.wp_at_succ

set_option maxRecDepth 100000 in
set_option maxHeartbeats 1600000 in
theorem walk {F : World → Nat → List Int → Prop} (ok : LmsOK F) (A : Option Addr) (n c : Nat) (l : List Int) (w : World) (hz : A = none → c = 0) (hr : Row w .i32 A n l) (hb : I32 l) (_ : n ≤ maxLen) (_ : n ≤ c) :
    Calls Try.prog 4 #[.slice A n c] w fun e w' => e = .returned (.bool true) ∧ Below w.heap.size w w' := by
  by_cases hlong : 3000 < n
  · have h1 : 3000 < (n : Int) := by omega
    have HA := Lib.hid (awakeL_any ok w)
    clear hr ok
    go_enter Try.func4, Try.ntmps4
    go_wp2_with fail
    refine HA.out.mono ?_
    rintro e w1 ⟨rfl, hf⟩
    have HF := Lib.hid hf.toBelow
    clear hf HA
    go_wp2_with fail
    go_ret
    exact ⟨rfl, HF.out⟩
  · have h1 : ¬ 3000 < (n : Int) := by omega
    have hn : n ≤ 1048576 := by omega
    have HOw := Lib.hid (hOwnInt32_any A n c l 71 w hr hz (by omega))
    have hlen := hr.len
    have HR := Lib.hid hr
    have HO := Lib.hid ok
    clear hr ok
    go_enter Try.func4, Try.ntmps4
    go_wp2_with fail
    refine HOw.out.mono ?_
    rintro e w1 ⟨q, rfl, hq, hqs, hf1⟩
    have HC : Hid (∀ V, Fresh w1 V → Row V .i32 (some ⟨q, 0, none⟩) n l ∧ Copy V q 21 .i32 l 71) := Lib.hid fun V hV => by
      have hq' : Copy V q 21 .i32 l 71 := ⟨hq.blk.kept hV id⟩
      have := hq'.row
      rw [hlen] at this
      exact ⟨this, hq'⟩
    have HQ : Hid (∀ V, Fresh w1 V → Row V .i32 A n l) := Lib.hid fun V hV => (HR.out.fresh hf1).fresh hV
    have HE := Lib.hid hf1
    have HA := Lib.hid (awakeL_any HO.out w1)
    clear hq hf1 HOw hlen
    go_wp2_with fail
    refine HA.out.mono ?_
    rintro e w2 ⟨rfl, hf2⟩
    have HF2 := Lib.hid hf2
    clear hf2 HA
    have HC3 := Lib.hid (HO.out.resR (n + 3) (HC.out w2 HF2.out).1 hb hn)
    go_wp2_with fail
    refine HC3.out.mono ?_
    rintro e w3 ⟨B3, c3, rfl, hr3, hf3⟩
    have HR3 := Lib.hid hr3
    have HF3 := Lib.hid (Fresh.two HF2.out hf3)
    have HG3 := Lib.hid hf3
    clear hr3 hf3 HC3
    have HC4 := Lib.hid (qlResR c (HQ.out w3 HF3.out) hb hn)
    go_wp2_with fail
    refine HC4.out.mono ?_
    rintro e w4 ⟨B4, c4, rfl, hr4, hf4⟩
    have HR4 := Lib.hid hr4
    have HF4 := Lib.hid (Fresh.two HF3.out hf4)
    have HG4 := Lib.hid hf4
    clear hr4 hf4 HC4
    have HP4 := Lib.hid (hPlainInt32_any B3 B4 n n c3 c4 _ _ w4 (HR3.out.fresh HG4.out) HR4.out (by omega) (by omega))
    rw [decide_eq_true rfl] at HP4
    go_wp2_with fail
    refine HP4.out.mono ?_
    rintro e w5 ⟨rfl, k5, rfl⟩
    have HF5 := Lib.hid (HF4.out.drewN k5)
    generalize w4.drewN k5 = w5 at *
    clear HP4 HR3 HR4 HG3 HG4 HF2 HF3 HF4
    have HC6 := Lib.hid (HO.out.rstR (n + 3) (HC.out w5 HF5.out).1 hb hn)
    go_wp2_with fail
    refine HC6.out.mono ?_
    rintro e w6 ⟨B6, c6, rfl, hr6, hf6⟩
    have HR6 := Lib.hid hr6
    have HF6 := Lib.hid (Fresh.two HF5.out hf6)
    have HG6 := Lib.hid hf6
    clear hr6 hf6 HC6
    have HC7 := Lib.hid (qlRstR c (HQ.out w6 HF6.out) hb hn)
    go_wp2_with fail
    refine HC7.out.mono ?_
    rintro e w7 ⟨B7, c7, rfl, hr7, hf7⟩
    have HR7 := Lib.hid hr7
    have HF7 := Lib.hid (Fresh.two HF6.out hf7)
    have HG7 := Lib.hid hf7
    clear hr7 hf7 HC7
    have HP7 := Lib.hid (hPlainInt32_any B6 B7 n n c6 c7 _ _ w7 (HR6.out.fresh HG7.out) HR7.out (by omega) (by omega))
    rw [decide_eq_true rfl] at HP7
    go_wp2_with fail
    refine HP7.out.mono ?_
    rintro e w8 ⟨rfl, k8, rfl⟩
    have HF8 := Lib.hid (HF7.out.drewN k8)
    generalize w7.drewN k8 = w8 at *
    clear HP7 HR6 HR7 HG6 HG7 HF5 HF6 HF7
    have HK := Lib.hid (hKeptInt32_any q n c A l 71 w8 (HC.out w8 HF8.out).2 (HQ.out w8 HF8.out) (by omega))
    go_wp2_with fail
    refine HK.out.mono ?_
    rintro e w9 ⟨rfl, k9, rfl⟩
    have HL := Lib.hid ((Fresh.two HE.out HF8.out).drewN k9).toBelow
    clear HK HF8
    go_wp2_with fail
    go_ret
    exact ⟨rfl, HL.out⟩

set_option maxRecDepth 100000 in
theorem lifted (os : Os) (started : os.Started) (H : Type) (enc : TypeId × Value → H) :
    ReturnsInHanded {} Try.checked os 4 .any (Rows.lmsLeavesSpec.pre6 enc Try.prog Try.f4 Rows.lmsLeavesRow.domain false) (Rows.lmsLeavesSpec.post enc Try.prog Try.f4 false true false false) := by
  refine returnsInHanded_of_change (C := Try.checked) Try.own started (by kernel_rfl) Try.func4
    (ChangeSpec.witness6 (enc := enc) (C := Try.checked) false ⟨#[], #[.slice none 0 0], []⟩ 8 (by kernel_rfl) (by kernel_rfl) (by kernel_rfl) (by kernel_rfl)) ?_
  intro W base args ds gs before hval0 hW hcnd _
  have hval : ∀ (j : Nat) t v, Try.f4.params[j]? = some t → args[j]? = some v → Value.okWide Try.prog W .any base t v := hval0
  have hpost : ∀ W', Below W.heap.size W W' → Rows.lmsLeavesSpec.post enc Try.prog Try.f4 false true false false W args (.bool true) W' := fun W' hb =>
    law_post (by kernel_rfl) Try.underlying4 (by kernel_rfl) rfl (fun ds hl => match ds, hl with | [d1], _ => ⟨rfl, rfl, rfl⟩) hW hb
  obtain ⟨p, q, hA0, hV, rfl, hfz, hnd⟩ := hW
  have hA : DataW.TrodAll enc Try.prog W 0 (fun _ => true) true Try.f4.params.toList args.toList ds p := hA0
  rw [Try.params4] at hA hval
  obtain ⟨v0, vs0, d0, ds0, p0, q0, hargs, rfl, rfl, h0, r0⟩ := trodAll_cons hA
  obtain ⟨rfl, rfl, rfl⟩ := trodAll_nil r0
  obtain rfl : args = #[v0] := by cases args; simp_all
  obtain ⟨A0, n0, c0, xs0, rfl, hz0, hr0, hb0, hn0, hc0⟩ := open_rowc Try.underlying22 Try.underlying21 (by kernel_rfl) (hval 0 22 v0 rfl rfl) h0
  refine (walk lmsOK A0 n0 c0 xs0 W hz0 hr0 (range_ints32 hb0) hn0 hc0).mono fun e W' ⟨he, hb⟩ => ⟨_, he, hpost W' hb⟩

/-- The statement. -/
theorem proved : Rows.LmsLeavesSaid :=
  OpenClaim.holds_of_wide 4 Try.f4 rfl rfl rfl rfl rfl rfl rfl ⟨rfl, rfl, rfl, rfl, rfl⟩ rfl rfl rfl rfl rfl (by kernel_rfl) Try.func4 (by kernel_rfl)
    (of_decide_eq_true (by kernel_rfl)) (by unfold Func.isWrapper; first | (rw [if_pos (by decide +kernel)]; kernel_rfl) | (rw [if_neg (by decide +kernel)]; exact ⟨rfl, rfl⟩))
    (fun os started H enc _ => lifted os started H enc)
#print axioms proved

end Go.Proofs.Ytgcbjfkneigijaa.lmsLeaves
