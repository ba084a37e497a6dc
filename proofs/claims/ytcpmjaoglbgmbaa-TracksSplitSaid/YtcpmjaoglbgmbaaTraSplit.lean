/- TracksSplit: the tracks of any bytes, for any channels and bits, or why there are none, are what the document says; what was handed in stays. -/
import Derived.Test.YtcpmjaoglbgmbaaTraAw
import Derived.Test.YtcpmjaoglbgmbaaHelpByte
import Derived.Test.YtcpmjaoglbgmbaaArgs
namespace Go.Proofs.Ytcpmjaoglbgmbaa.tracksSplit
open Go.ChangeShapes Go.WideShapes Go.ChangeAt Go.RowKit

attribute [local go_sem ↓] Go.wp_at_zero Go.wp_at_succ

set_option maxRecDepth 100000 in
set_option maxHeartbeats 1600000 in
theorem walk (A : Option Addr) (n c : Nat) (xs : List Int) (ch bt : Int) (w : World) (hz : A = none → c = 0) (hr : Row w .u8 A n xs) (hb : ∀ x ∈ xs, 0 ≤ x ∧ x < 256) (_ : n ≤ maxLen) (_ : n ≤ c) :
    Calls Try.prog 3 #[.slice A n c, .int .i64 ch, .int .i64 bt] w fun e w' => e = .returned (.bool true) ∧ Below w.heap.size w w' := by
  by_cases hlong : 5000 < n
  · have h1 : 5000 < (n : Int) := by omega
    have HA := Lib.hid (awakeT_any w)
    clear hr
    go_enter Try.func3, Try.ntmps3
    go_wp2_with fail
    refine HA.out.mono ?_
    rintro e w1 ⟨rfl, hf⟩
    have HF := Lib.hid hf.toBelow
    clear hf HA
    go_wp2_with fail
    go_ret
    exact ⟨rfl, HF.out⟩
  · have h1 : ¬ 5000 < (n : Int) := by omega
    have HOw := Lib.hid (hOwnByte_any A n c xs 71 w hr hz (by omega))
    have hlen := hr.len
    have HR := Lib.hid hr
    have HB : Hid (B8 xs) := Lib.hid hb
    clear hr hb
    go_enter Try.func3, Try.ntmps3
    go_wp2_with fail
    refine HOw.out.mono ?_
    rintro e w1 ⟨q, rfl, hq, _, hf1⟩
    have HC : Hid (∀ V, Fresh w1 V → Row V .u8 (some ⟨q, 0, none⟩) n xs ∧ Copy V q 5 .u8 xs 71) := Lib.hid fun V hV => by
      have hq' : Copy V q 5 .u8 xs 71 := ⟨hq.blk.kept hV id⟩
      have := hq'.row
      rw [hlen] at this
      exact ⟨this, hq'⟩
    have HQ : Hid (∀ V, Fresh w1 V → Row V .u8 A n xs) := Lib.hid fun V hV => (HR.out.fresh hf1).fresh hV
    have HE := Lib.hid hf1
    have HS := Lib.hid (cSplitO_any (some ⟨q, 0, none⟩) n (n + 3) xs ch bt w1 (HC.out w1 (Kept.refl _ _)).1 HB.out (by omega) (by omega))
    have HQS : Hid (∀ V, Fresh w1 V → Calls Try.prog 10 #[.slice A n c, .int .i64 ch, .int .i64 bt] V fun e w' => SplO V w' e ch bt xs) := Lib.hid fun V hV => qSplitO_any A n c xs ch bt V (HQ.out V hV) HB.out (by omega)
    have HM : Hid (∀ i, (trkT bt xs ch.toNat i).length ≤ 16777216) := Lib.hid fun i => by
      rw [trkT_length]
      exact Nat.le_trans (Nat.div_le_self _ _) (by omega)
    have hm8 := splN_le ch bt xs
    unfold SplO at HS HQS
    clear hq hf1 HOw hlen
    generalize splN ch bt xs = m at *
    generalize splK ch bt xs = kk at *
    go_wp2_with fail
    refine HS.out.mono ?_
    rintro e w2 ⟨A2, c2, rfl, ht2, hf2⟩
    have HF2 : Hid (Fresh w1 w2) := Lib.hid hf2
    have HT2 := Lib.hid ht2
    have HQ2 := Lib.hid (HQS.out w2 hf2)
    clear ht2 hf2 HS HQS
    go_wp2_with fail
    refine HQ2.out.mono ?_
    rintro e w3 ⟨A3, c3, rfl, ht3, hf3⟩
    have HF3 := Lib.hid (Fresh.two HF2.out hf3)
    have HT3 := Lib.hid (And.intro (HT2.out.fresh hf3) ht3)
    have HA := Lib.hid (awakeT_any w3)
    clear ht3 hf3 HQ2 HF2 HT2
    go_wp2_with fail
    refine HA.out.mono ?_
    rintro e w4 ⟨rfl, hf4⟩
    have HP := Lib.hid (hPlainTr_any A2 A3 m c2 c3 _ _ w4 (HT3.out.1.fresh hf4) (HT3.out.2.fresh hf4) (fun _ _ => rfl) (fun i _ => HM.out i) (by omega))
    have HF4 := Lib.hid (Fresh.two HF3.out hf4)
    clear hf4 HA HF3 HT3
    go_wp2_with fail
    refine HP.out.mono ?_
    rintro e w5 ⟨rfl, k5, rfl⟩
    have HF5 := Lib.hid (HF4.out.drewN k5)
    generalize w4.drewN k5 = w5 at *
    clear HP HF4
    have HK := Lib.hid (hKeptByte_any q n c A xs 71 w5 (HC.out w5 HF5.out).2 (HQ.out w5 HF5.out) (by omega))
    go_wp2_with fail
    refine HK.out.mono ?_
    rintro e w6 ⟨rfl, k6, rfl⟩
    have HL := Lib.hid ((Fresh.two HE.out HF5.out).drewN k6).toBelow
    clear HK HF5
    go_wp2_with fail
    go_ret
    exact ⟨rfl, HL.out⟩

set_option maxRecDepth 100000 in
theorem lifted (os : Os) (started : os.Started) (H : Type) (enc : TypeId × Value → H) :
    ReturnsInHanded {} Try.checked os 3 .any (Rows.tracksSplitSpec.pre6 enc Try.prog Try.f3 Rows.tracksSplitRow.domain false) (Rows.tracksSplitSpec.post enc Try.prog Try.f3 false true false false) := by
  refine returnsInHanded_of_change (C := Try.checked) Try.own started (by kernel_rfl) Try.func3
    (ChangeSpec.witness6 (enc := enc) (C := Try.checked) false ⟨#[], #[.slice none 0 0, .int .i64 0, .int .i64 0], []⟩ 8 (by kernel_rfl) (by kernel_rfl) (by kernel_rfl) (by kernel_rfl)) ?_
  intro W base args ds gs before hval0 hW hcnd _
  have hval : ∀ (j : Nat) t v, Try.f3.params[j]? = some t → args[j]? = some v → Value.okWide Try.prog W .any base t v := hval0
  have hpost : ∀ W', Below W.heap.size W W' → Rows.tracksSplitSpec.post enc Try.prog Try.f3 false true false false W args (.bool true) W' := fun W' hb =>
    law_post (by kernel_rfl) Try.underlying4 (by kernel_rfl) rfl (fun ds hl => match ds, hl with | [d1, d2, d3], _ => ⟨rfl, rfl, rfl⟩) hW hb
  obtain ⟨p, q, hA0, hV, rfl, hfz, hnd⟩ := hW
  have hA : DataW.TrodAll enc Try.prog W 0 (fun _ => true) true Try.f3.params.toList args.toList ds p := hA0
  rw [Try.params3] at hA hval
  obtain ⟨v0, vs0, d0, ds0, p0, q0, hargs, rfl, rfl, h0, r0⟩ := trodAll_cons hA
  obtain ⟨v1, vs1, d1, ds1, p1, q1, rfl, rfl, rfl, h1, r1⟩ := trodAll_cons r0
  obtain ⟨v2, vs2, d2, ds2, p2, q2, rfl, rfl, rfl, h2, r2⟩ := trodAll_cons r1
  obtain ⟨rfl, rfl, rfl⟩ := trodAll_nil r2
  obtain rfl : args = #[v0, v1, v2] := by cases args; simp_all
  obtain ⟨A0, n0, c0, xs0, rfl, hz0, hr0, hb0, hn0, hc0⟩ := open_rowc Try.underlying22 Try.underlying5 (by kernel_rfl) (hval 0 22 v0 rfl rfl) h0
  obtain ⟨a1, rfl, rfl, rfl, w1⟩ := open_int Try.underlying3 (hval 1 3 v1 rfl rfl) h1
  obtain ⟨a2, rfl, rfl, rfl, w2⟩ := open_int Try.underlying3 (hval 2 3 v2 rfl rfl) h2
  refine (walk A0 n0 c0 xs0 a1 a2 W hz0 hr0 (range_bytes hb0) hn0 hc0).mono fun e W' ⟨he, hb⟩ => ⟨_, he, hpost W' hb⟩

/-- The statement. -/
theorem proved : Rows.TracksSplitSaid :=
  OpenClaim.holds_of_wide 3 Try.f3 rfl rfl rfl rfl rfl rfl rfl ⟨rfl, rfl, rfl, rfl, rfl⟩ rfl rfl rfl rfl rfl (by kernel_rfl) Try.func3 (by kernel_rfl)
    (of_decide_eq_true (by kernel_rfl)) (by unfold Func.isWrapper; first | (rw [if_pos (by decide +kernel)]; kernel_rfl) | (rw [if_neg (by decide +kernel)]; exact ⟨rfl, rfl⟩))
    (fun os started H enc _ => lifted os started H enc)
#print axioms proved

end Go.Proofs.Ytcpmjaoglbgmbaa.tracksSplit
