/- FilterApplies: any rows turned, each by its best kind, and any such bytes turned back, are what the document says; what was handed in stays. -/
import Derived.Test.YtnmapfoinhomdaaFilCw
import Derived.Test.YtnmapfoinhomdaaHelpByte
import Derived.Test.YtnmapfoinhomdaaHelpStr
import Derived.Test.YtnmapfoinhomdaaArgs
namespace Go.Proofs.Ytnmapfoinhomdaa.filterApplies
open Go.ChangeShapes Go.WideShapes Go.ChangeAt Go.RowKit

attribute [local go_sem ↓] Go.wp_at_zero Go.wp_at_succ

set_option maxRecDepth 100000 in
set_option maxHeartbeats 6400000 in
theorem walk (ok : FilterOK) (A : Option Addr) (n c : Nat) (xs : List Int) (wd : Int) (hwd : I64 wd) (p : Int) (hp : I64 p) (w : World) (hz : A = none → c = 0) (hr : Row w .u8 A n xs) (hb : ∀ x ∈ xs, 0 ≤ x ∧ x < 256) (_ : n ≤ maxLen) (hnc : n ≤ c) :
    Calls Try.prog 4 #[.slice A n c, .int .i64 wd, .int .i64 p] w fun e w' => e = .returned (.bool true) ∧ Below w.heap.size w w' := by
  by_cases hlong : 2000 < n
  · have h1 : 2000 < (n : Int) := by omega
    have HA := Lib.hid (awakeF_any ok w)
    clear hr ok
    go_enter Try.func4, Try.ntmps4
    go_wp2_with fail
    refine HA.out.mono ?_
    rintro e w1 ⟨rfl, hf⟩
    have HF := Lib.hid hf.toBelow
    clear hf HA
    go_wp2_with fail
    go_ret
    exact ⟨rfl, HF.out⟩
  · have h1 : ¬ 2000 < (n : Int) := by omega
    have HOw := Lib.hid (hOwnByte_any A n c xs 71 w hr hz (by omega))
    have hlen := hr.len
    have HR := Lib.hid hr
    have HO := Lib.hid ok
    have HB : Hid (B8 xs ∧ (I64 wd ∧ I64 p)) := Lib.hid ⟨hb, hwd, hp⟩
    clear hr hb ok hwd hp
    go_enter Try.func4, Try.ntmps4
    go_wp2_with fail
    refine HOw.out.mono ?_
    rintro e w1 ⟨q, rfl, hq, _, hf1⟩
    have HC : Hid (∀ V, Fresh w1 V → Row V .u8 (some ⟨q, 0, none⟩) n xs ∧ Copy V q 5 .u8 xs 71) := Lib.hid fun V hV => by
      have hq' : Copy V q 5 .u8 xs 71 := ⟨hq.blk.kept hV id⟩
      have := hq'.row
      rw [hlen] at this
      exact ⟨this, hq'⟩
    have HQ : Hid (∀ V, Fresh w1 V → Row V .u8 A n xs) := Lib.hid fun V hV => (HR.out.fresh hf1).fresh hV
    have HE := Lib.hid hf1
    have HF1 : Hid (Fresh w1 w1) := Lib.hid (Kept.refl _ _)
    clear hq hf1 HOw hlen
    have HC1 := Lib.hid (HO.out.applyT (n + 3) (HC.out w1 HF1.out).1 HB.out.1 (by omega) (by omega) HB.out.2.1 HB.out.2.2)
    go_wp2_with fail
    refine HC1.out.mono ?_
    rintro e w2 ⟨B1, m1, d1, rfl, hr1, hd1, hf1⟩
    have HF2 := Lib.hid (Fresh.two HF1.out hf1)
    have HR1 : Hid (∀ V, Fresh w2 V → Row V .u8 B1 m1 ((apO xs wd p).1)) := Lib.hid fun V hV => hr1.fresh hV
    have HS1 := Lib.hid hf1
    clear hr1 hf1 HC1
    have HC2 := Lib.hid (qApplyT (wd := wd) (p := p) c (HQ.out w2 HF2.out) HB.out.1 (by omega) hnc)
    go_wp2_with fail
    refine HC2.out.mono ?_
    rintro e w3 ⟨B2, m2, d2, rfl, hr2, hd2, hf2⟩
    have HF3 := Lib.hid (Fresh.two HF2.out hf2)
    have HR2 : Hid (∀ V, Fresh w3 V → Row V .u8 B2 m2 ((apO xs wd p).1)) := Lib.hid fun V hV => hr2.fresh hV
    have HS2 := Lib.hid hf2
    clear hr2 hf2 HC2
    have HC3 := Lib.hid (HO.out.undoT (n + 3) (HC.out w3 HF3.out).1 HB.out.1 (by omega) (by omega) HB.out.2.1 HB.out.2.2)
    go_wp2_with fail
    refine HC3.out.mono ?_
    rintro e w4 ⟨B3, m3, d3, rfl, hr3, hd3, hf3⟩
    have HF4 := Lib.hid (Fresh.two HF3.out hf3)
    have HR3 : Hid (∀ V, Fresh w4 V → Row V .u8 B3 m3 ((udO xs wd p).1)) := Lib.hid fun V hV => hr3.fresh hV
    have HS3 := Lib.hid hf3
    clear hr3 hf3 HC3
    have HC4 := Lib.hid (qUndoT (wd := wd) (p := p) c (HQ.out w4 HF4.out) HB.out.1 (by omega) hnc)
    go_wp2_with fail
    refine HC4.out.mono ?_
    rintro e w5 ⟨B4, m4, d4, rfl, hr4, hd4, hf4⟩
    have HF5 := Lib.hid (Fresh.two HF4.out hf4)
    have HR4 : Hid (∀ V, Fresh w5 V → Row V .u8 B4 m4 ((udO xs wd p).1)) := Lib.hid fun V hV => hr4.fresh hV
    have HS4 := Lib.hid hf4
    clear hr4 hf4 HC4
    have hs1 : ((apO xs wd p).2 == (apO xs wd p).2) = true := by simp
    have hs2 : ((udO xs wd p).2 == (udO xs wd p).2) = true := by simp
    have HA := Lib.hid (awakeF_any HO.out w5)
    go_wp2_with fail
    refine HA.out.mono ?_
    rintro e w6 ⟨rfl, hf6⟩
    have HF6 := Lib.hid (Fresh.two HF5.out hf6)
    have HV6 := Lib.hid hf6
    clear hf6 HA
    have HF45 := Lib.hid (Fresh.two HS4.out HV6.out)
    have HF35 := Lib.hid (Fresh.two HS3.out HF45.out)
    have HF25 := Lib.hid (Fresh.two HS2.out HF35.out)
    have HC6 := hBytes_any B1 B2 m1 m2 d1 d2 ((apO xs wd p).1) ((apO xs wd p).1) w6 (HR1.out w6 HF25.out) (HR2.out w6 HF35.out) (apO_byte xs wd p) (apO_byte xs wd p)
    rw [show decide (((apO xs wd p).1) = ((apO xs wd p).1)) = true from by simp] at HC6
    have HC6 := Lib.hid HC6
    go_wp2_with fail
    refine HC6.out.mono ?_
    rintro e wx ⟨rfl, rfl⟩
    clear HC6
    have HC7 := hBytes_any B3 B4 m3 m4 d3 d4 ((udO xs wd p).1) ((udO xs wd p).1) w6 (HR3.out w6 HF45.out) (HR4.out w6 HV6.out) (udO_byte xs wd p) (udO_byte xs wd p)
    rw [show decide (((udO xs wd p).1) = ((udO xs wd p).1)) = true from by simp] at HC7
    have HC7 := Lib.hid HC7
    go_wp2_with fail
    refine HC7.out.mono ?_
    rintro e wx ⟨rfl, rfl⟩
    clear HC7
    have HK := Lib.hid (hKeptByte_any q n c A xs 71 w6 (HC.out w6 HF6.out).2 (HQ.out w6 HF6.out) (by omega))
    go_wp2_with fail
    refine HK.out.mono ?_
    rintro e w7 ⟨rfl, kk, rfl⟩
    have HL := Lib.hid ((Fresh.two HE.out HF6.out).drewN kk).toBelow
    clear HK
    go_wp2_with fail
    go_ret
    exact ⟨rfl, HL.out⟩

set_option maxRecDepth 100000 in
theorem lifted (os : Os) (started : os.Started) (H : Type) (enc : TypeId × Value → H) :
    ReturnsInHanded {} Try.checked os 4 .any (Rows.filterAppliesSpec.pre6 enc Try.prog Try.f4 Rows.filterAppliesRow.domain false) (Rows.filterAppliesSpec.post enc Try.prog Try.f4 false true false false) := by
  refine returnsInHanded_of_change (C := Try.checked) Try.own started (by kernel_rfl) Try.func4
    (ChangeSpec.witness6 (enc := enc) (C := Try.checked) false ⟨#[], #[.slice none 0 0, .int .i64 0, .int .i64 0], []⟩ 8 (by kernel_rfl) (by kernel_rfl) (by kernel_rfl) (by kernel_rfl)) ?_
  intro W base args ds gs before hval0 hW hcnd _
  have hval : ∀ (j : Nat) t v, Try.f4.params[j]? = some t → args[j]? = some v → Value.okWide Try.prog W .any base t v := hval0
  have hpost : ∀ W', Below W.heap.size W W' → Rows.filterAppliesSpec.post enc Try.prog Try.f4 false true false false W args (.bool true) W' := fun W' hb =>
    law_post (by kernel_rfl) Try.underlying4 (by kernel_rfl) rfl (fun ds hl => match ds, hl with | [d1, d2, d3], _ => ⟨rfl, rfl, rfl⟩) hW hb
  obtain ⟨p, q, hA0, hV, rfl, hfz, hnd⟩ := hW
  have hA : DataW.TrodAll enc Try.prog W 0 (fun _ => true) true Try.f4.params.toList args.toList ds p := hA0
  rw [Try.params4] at hA hval
  obtain ⟨v0, vs0, d0, ds0, p0, q0, hargs, rfl, rfl, h0, r0⟩ := trodAll_cons hA
  obtain ⟨v1, vs1, d1, ds1, p1, q1, rfl, rfl, rfl, h1, r1⟩ := trodAll_cons r0
  obtain ⟨v2, vs2, d2, ds2, p2, q2, rfl, rfl, rfl, h2, r2⟩ := trodAll_cons r1
  obtain ⟨rfl, rfl, rfl⟩ := trodAll_nil r2
  obtain rfl : args = #[v0, v1, v2] := by cases args; simp_all
  obtain ⟨A0, n0, c0, xs0, rfl, hz0, hr0, hb0, hn0, hc0⟩ := open_rowc Try.underlying22 Try.underlying5 (by kernel_rfl) (hval 0 22 v0 rfl rfl) h0
  obtain ⟨a1, rfl, rfl, rfl, w1⟩ := open_int Try.underlying3 (hval 1 3 v1 rfl rfl) h1
  obtain ⟨a2, rfl, rfl, rfl, w2⟩ := open_int Try.underlying3 (hval 2 3 v2 rfl rfl) h2
  refine (walk filterOK A0 n0 c0 xs0 a1 (bounds_i64 w1) a2 (bounds_i64 w2) W hz0 hr0 (range_bytes hb0) hn0 hc0).mono fun e W' ⟨he, hb⟩ => ⟨_, he, hpost W' hb⟩

/-- The statement. -/
theorem proved : Rows.FilterAppliesSaid :=
  OpenClaim.holds_of_wide 4 Try.f4 rfl rfl rfl rfl rfl rfl rfl ⟨rfl, rfl, rfl, rfl, rfl⟩ rfl rfl rfl rfl rfl (by kernel_rfl) Try.func4 (by kernel_rfl)
    (of_decide_eq_true (by kernel_rfl)) (by unfold Func.isWrapper; first | (rw [if_pos (by decide +kernel)]; kernel_rfl) | (rw [if_neg (by decide +kernel)]; exact ⟨rfl, rfl⟩))
    (fun os started H enc _ => lifted os started H enc)
#print axioms proved

end Go.Proofs.Ytnmapfoinhomdaa.filterApplies
