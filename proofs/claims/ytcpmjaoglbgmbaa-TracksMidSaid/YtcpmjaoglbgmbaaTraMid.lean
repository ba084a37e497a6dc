/- TracksMid: the middles and sides of any two lists of numbers, and the numbers of which two lists are the middles and sides, or that there are none, are what the document says. -/
import Derived.Test.YtcpmjaoglbgmbaaTraAw
import Derived.Test.YtcpmjaoglbgmbaaArgs
namespace Go.Proofs.Ytcpmjaoglbgmbaa.tracksMid
open Go.ChangeShapes Go.WideShapes Go.ChangeAt Go.RowKit

attribute [local go_sem ↓] Go.wp_at_zero Go.wp_at_succ

/-- The four calls, whatever is asked: how many, which error, which numbers. -/
def MidS (A : Option Addr) (n c : Nat) (B : Option Addr) (m d : Nat) (w : World) (sz : Nat) (kk : Int) (X1 Y1 X2 Y2 : List Int) : Prop :=
  sz ≤ 3000 ∧ ∀ V, Fresh w V →
    (Calls Try.prog 16 #[.slice A n c, .slice B m d] V fun e w' => TwoO V w' e sz kk X1 Y1) ∧
    (Calls Try.prog 17 #[.slice A n c, .slice B m d] V fun e w' => TwoO V w' e sz kk X1 Y1) ∧
    (Calls Try.prog 18 #[.slice A n c, .slice B m d] V fun e w' => TwoO V w' e sz kk X2 Y2) ∧
    (Calls Try.prog 19 #[.slice A n c, .slice B m d] V fun e w' => TwoO V w' e sz kk X2 Y2)
theorem midS (A : Option Addr) (n c : Nat) (B : Option Addr) (m d : Nat) (l r : List Int) (w : World) (ha : Row w .i32 A n l) (hb : Row w .i32 B m r) (h1 : I32 l) (h2 : I32 r) (hn : n ≤ 3000) : ∃ sz kk X1 Y1 X2 Y2, MidS A n c B m d w sz kk X1 Y1 X2 Y2 := by
  by_cases hnm : n = m
  · subst hnm
    exact ⟨n, 0, _, _, _, _, hn, fun V hV =>
      ⟨(cMid_any A B n c d l r V (ha.fresh hV) (hb.fresh hV) h1 h2 (by omega)).mono fun _ _ h => h.o (tn_length _ _) (tn_length _ _),
       (qMid_any A B n c d l r V (ha.fresh hV) (hb.fresh hV) (by omega)).mono fun _ _ h => h.o (tn_length _ _) (tn_length _ _),
       (cUnmid_any A B n c d l r V (ha.fresh hV) (hb.fresh hV) h1 h2 (by omega)).mono fun _ _ h => h.o (tn_length _ _) (tn_length _ _),
       (qUnmid_any A B n c d l r V (ha.fresh hV) (hb.fresh hV) (by omega)).mono fun _ _ h => h.o (tn_length _ _) (tn_length _ _)⟩⟩
  · exact ⟨0, 1, [], [], [], [], by omega, fun V _ =>
      ⟨(cMidNo_any A B n m c d V hnm).mono fun _ _ h => h.o, (qMidNo_any A B n m c d V hnm).mono fun _ _ h => h.o,
       (cUnmidNo_any A B n m c d V hnm).mono fun _ _ h => h.o, (qUnmidNo_any A B n m c d V hnm).mono fun _ _ h => h.o⟩⟩

set_option maxRecDepth 100000 in
set_option maxHeartbeats 3200000 in
theorem walk (A : Option Addr) (n c : Nat) (l : List Int) (B : Option Addr) (m d : Nat) (r : List Int) (w : World) (_ : A = none → c = 0) (ha : Row w .i32 A n l) (h1 : ∀ x ∈ l, -2147483648 ≤ x ∧ x < 2147483648) (_ : n ≤ maxLen) (_ : n ≤ c) (_ : B = none → d = 0) (hb : Row w .i32 B m r) (h2 : ∀ x ∈ r, -2147483648 ≤ x ∧ x < 2147483648) (_ : m ≤ maxLen) (_ : m ≤ d) :
    Calls Try.prog 5 #[.slice A n c, .slice B m d] w fun e w' => e = .returned (.bool true) ∧ Below w.heap.size w w' := by
  by_cases hl1 : 3000 < n
  · have hg : 3000 < (n : Int) := by omega
    have HA := Lib.hid (awakeT_any w)
    clear ha hb h1 h2
    go_enter Try.func5, Try.ntmps5
    go_wp2_with fail
    refine HA.out.mono ?_
    rintro e w1 ⟨rfl, hf⟩
    have HF := Lib.hid hf.toBelow
    clear hf HA
    go_wp2_with fail
    go_ret
    exact ⟨rfl, HF.out⟩
  · by_cases hl2 : 3000 < m
    · have hg : ¬ 3000 < (n : Int) := by omega
      have hg2 : 3000 < (m : Int) := by omega
      have HA := Lib.hid (awakeT_any w)
      clear ha hb h1 h2
      go_enter Try.func5, Try.ntmps5
      go_wp2_with fail
      refine HA.out.mono ?_
      rintro e w1 ⟨rfl, hf⟩
      have HF := Lib.hid hf.toBelow
      clear hf HA
      go_wp2_with fail
      go_ret
      exact ⟨rfl, HF.out⟩
    · have hg : ¬ 3000 < (n : Int) := by omega
      have hg2 : ¬ 3000 < (m : Int) := by omega
      obtain ⟨sz, kk, X1, Y1, X2, Y2, hs⟩ := midS A n c B m d l r w ha hb h1 h2 (by omega)
      have hsz := hs.1
      have HS := Lib.hid hs.2
      have HF0 : Hid (Fresh w w) := Lib.hid (Kept.refl _ _)
      have hee : (kk == kk) = true := by simp
      clear ha hb h1 h2 hs
      unfold TwoO at HS
      go_enter Try.func5, Try.ntmps5
      go_wp2_with fail
      have HC1 := Lib.hid (HS.out w HF0.out).1
      go_wp2_with fail
      refine HC1.out.mono ?_
      rintro e w2 ⟨A1, c1, B1, d1, rfl, hx1, hy1, hf1⟩
      have HF1 := Lib.hid (Fresh.two HF0.out hf1)
      have HX1 : Hid (∀ V, Fresh w2 V → Row V .i32 A1 sz X1 ∧ Row V .i32 B1 sz Y1) := Lib.hid fun V hV => ⟨hx1.fresh hV, hy1.fresh hV⟩
      have HG1 := Lib.hid hf1
      clear hx1 hy1 hf1 HC1
      have HC2 := Lib.hid (HS.out w2 HF1.out).2.1
      go_wp2_with fail
      refine HC2.out.mono ?_
      rintro e w3 ⟨A2, c2, B2, d2, rfl, hx2, hy2, hf2⟩
      have HF2 := Lib.hid (Fresh.two HF1.out hf2)
      have HX2 : Hid (∀ V, Fresh w3 V → Row V .i32 A2 sz X1 ∧ Row V .i32 B2 sz Y1) := Lib.hid fun V hV => ⟨hx2.fresh hV, hy2.fresh hV⟩
      have HG2 := Lib.hid hf2
      clear hx2 hy2 hf2 HC2
      have HC3 := Lib.hid (HS.out w3 HF2.out).2.2.1
      go_wp2_with fail
      refine HC3.out.mono ?_
      rintro e w4 ⟨A3, c3, B3, d3, rfl, hx3, hy3, hf3⟩
      have HF3 := Lib.hid (Fresh.two HF2.out hf3)
      have HX3 : Hid (∀ V, Fresh w4 V → Row V .i32 A3 sz X2 ∧ Row V .i32 B3 sz Y2) := Lib.hid fun V hV => ⟨hx3.fresh hV, hy3.fresh hV⟩
      have HG3 := Lib.hid hf3
      clear hx3 hy3 hf3 HC3
      have HC4 := Lib.hid (HS.out w4 HF3.out).2.2.2
      go_wp2_with fail
      refine HC4.out.mono ?_
      rintro e w5 ⟨A4, c4, B4, d4, rfl, hx4, hy4, hf4⟩
      have HF4 := Lib.hid (Fresh.two HF3.out hf4)
      have HX4 : Hid (∀ V, Fresh w5 V → Row V .i32 A4 sz X2 ∧ Row V .i32 B4 sz Y2) := Lib.hid fun V hV => ⟨hx4.fresh hV, hy4.fresh hV⟩
      have HG4 := Lib.hid hf4
      clear hx4 hy4 hf4 HC4
      have HA := Lib.hid (awakeT_any w5)
      go_wp2_with fail
      refine HA.out.mono ?_
      rintro e w6 ⟨rfl, hf6⟩
      have HF6 := Lib.hid (Fresh.two HF4.out hf6)
      have HX : Hid (∀ V, Fresh w6 V → Row V .i32 A1 sz X1 ∧ Row V .i32 B1 sz Y1 ∧ Row V .i32 A2 sz X1 ∧ Row V .i32 B2 sz Y1 ∧ Row V .i32 A3 sz X2 ∧ Row V .i32 B3 sz Y2 ∧ Row V .i32 A4 sz X2 ∧ Row V .i32 B4 sz Y2) := Lib.hid fun V hV => by
        have f5 := Fresh.two hf6 hV
        have f4 := Fresh.two HG4.out f5
        have f3 := Fresh.two HG3.out f4
        have f2 := Fresh.two HG2.out f3
        exact ⟨(HX1.out V f2).1, (HX1.out V f2).2, (HX2.out V f3).1, (HX2.out V f3).2, (HX3.out V f4).1, (HX3.out V f4).2, (HX4.out V f5).1, (HX4.out V f5).2⟩
      have HY6 : Hid (Fresh w6 w6) := Lib.hid (Kept.refl _ _)
      clear hf6 HA HX1 HX2 HX3 HX4 HG1 HG2 HG3 HG4 HF0 HF1 HF2 HF3 HF4 HS
      have HP6 := Lib.hid (hPlainInt32_any A1 A2 sz sz c1 c2 X1 X1 w6 (HX.out w6 HY6.out).1 (HX.out w6 HY6.out).2.2.1 (by omega) (by omega))
      rw [show decide (X1 = X1) = true from by simp] at HP6
      go_wp2_with fail
      refine HP6.out.mono ?_
      rintro e w7 ⟨rfl, k6, rfl⟩
      have HF7 := Lib.hid (HF6.out.drewN k6)
      have HY7 := Lib.hid (HY6.out.drewN k6)
      generalize w6.drewN k6 = w7 at *
      clear HP6 HF6 HY6
      have HP7 := Lib.hid (hPlainInt32_any B1 B2 sz sz d1 d2 Y1 Y1 w7 (HX.out w7 HY7.out).2.1 (HX.out w7 HY7.out).2.2.2.1 (by omega) (by omega))
      rw [show decide (Y1 = Y1) = true from by simp] at HP7
      go_wp2_with fail
      refine HP7.out.mono ?_
      rintro e w8 ⟨rfl, k7, rfl⟩
      have HF8 := Lib.hid (HF7.out.drewN k7)
      have HY8 := Lib.hid (HY7.out.drewN k7)
      generalize w7.drewN k7 = w8 at *
      clear HP7 HF7 HY7
      have HP8 := Lib.hid (hPlainInt32_any A3 A4 sz sz c3 c4 X2 X2 w8 (HX.out w8 HY8.out).2.2.2.2.1 (HX.out w8 HY8.out).2.2.2.2.2.2.1 (by omega) (by omega))
      rw [show decide (X2 = X2) = true from by simp] at HP8
      go_wp2_with fail
      refine HP8.out.mono ?_
      rintro e w9 ⟨rfl, k8, rfl⟩
      have HF9 := Lib.hid (HF8.out.drewN k8)
      have HY9 := Lib.hid (HY8.out.drewN k8)
      generalize w8.drewN k8 = w9 at *
      clear HP8 HF8 HY8
      have HP9 := Lib.hid (hPlainInt32_any B3 B4 sz sz d3 d4 Y2 Y2 w9 (HX.out w9 HY9.out).2.2.2.2.2.1 (HX.out w9 HY9.out).2.2.2.2.2.2.2 (by omega) (by omega))
      rw [show decide (Y2 = Y2) = true from by simp] at HP9
      go_wp2_with fail
      refine HP9.out.mono ?_
      rintro e w10 ⟨rfl, k9, rfl⟩
      have HF10 := Lib.hid (HF9.out.drewN k9)
      have HY10 := Lib.hid (HY9.out.drewN k9)
      generalize w9.drewN k9 = w10 at *
      clear HP9 HF9 HY9
      have HL := Lib.hid HF10.out.toBelow
      clear HX HF10 HY10
      go_wp2_with fail
      go_ret
      exact ⟨rfl, HL.out⟩

set_option maxRecDepth 100000 in
theorem lifted (os : Os) (started : os.Started) (H : Type) (enc : TypeId × Value → H) :
    ReturnsInHanded {} Try.checked os 5 .any (Rows.tracksMidSpec.pre6 enc Try.prog Try.f5 Rows.tracksMidRow.domain false) (Rows.tracksMidSpec.post enc Try.prog Try.f5 false true false false) := by
  refine returnsInHanded_of_change (C := Try.checked) Try.own started (by kernel_rfl) Try.func5
    (ChangeSpec.witness6 (enc := enc) (C := Try.checked) false ⟨#[], #[.slice none 0 0, .slice none 0 0], []⟩ 8 (by kernel_rfl) (by kernel_rfl) (by kernel_rfl) (by kernel_rfl)) ?_
  intro W base args ds gs before hval0 hW hcnd _
  have hval : ∀ (j : Nat) t v, Try.f5.params[j]? = some t → args[j]? = some v → Value.okWide Try.prog W .any base t v := hval0
  have hpost : ∀ W', Below W.heap.size W W' → Rows.tracksMidSpec.post enc Try.prog Try.f5 false true false false W args (.bool true) W' := fun W' hb =>
    law_post (by kernel_rfl) Try.underlying4 (by kernel_rfl) rfl (fun ds hl => match ds, hl with | [d1, d2], _ => ⟨rfl, rfl, rfl⟩) hW hb
  obtain ⟨p, q, hA0, hV, rfl, hfz, hnd⟩ := hW
  have hA : DataW.TrodAll enc Try.prog W 0 (fun _ => true) true Try.f5.params.toList args.toList ds p := hA0
  rw [Try.params5] at hA hval
  obtain ⟨v0, vs0, d0, ds0, p0, q0, hargs, rfl, rfl, h0, r0⟩ := trodAll_cons hA
  obtain ⟨v1, vs1, d1, ds1, p1, q1, rfl, rfl, rfl, h1, r1⟩ := trodAll_cons r0
  obtain ⟨rfl, rfl, rfl⟩ := trodAll_nil r1
  obtain rfl : args = #[v0, v1] := by cases args; simp_all
  obtain ⟨A0, n0, c0, xs0, rfl, hz0, hr0, hb0, hn0, hc0⟩ := open_rowc Try.underlying32 Try.underlying21 (by kernel_rfl) (hval 0 32 v0 rfl rfl) h0
  obtain ⟨A1, n1, c1, xs1, rfl, hz1, hr1, hb1, hn1, hc1⟩ := open_rowc Try.underlying32 Try.underlying21 (by kernel_rfl) (hval 1 32 v1 rfl rfl) h1
  refine (walk A0 n0 c0 xs0 A1 n1 c1 xs1 W hz0 hr0 (range_ints32 hb0) hn0 hc0 hz1 hr1 (range_ints32 hb1) hn1 hc1).mono fun e W' ⟨he, hb⟩ => ⟨_, he, hpost W' hb⟩

/-- The statement. -/
theorem proved : Rows.TracksMidSaid :=
  OpenClaim.holds_of_wide 5 Try.f5 rfl rfl rfl rfl rfl rfl rfl ⟨rfl, rfl, rfl, rfl, rfl⟩ rfl rfl rfl rfl rfl (by kernel_rfl) Try.func5 (by kernel_rfl)
    (of_decide_eq_true (by kernel_rfl)) (by unfold Func.isWrapper; first | (rw [if_pos (by decide +kernel)]; kernel_rfl) | (rw [if_neg (by decide +kernel)]; exact ⟨rfl, rfl⟩))
    (fun os started H enc _ => lifted os started H enc)
#print axioms proved

end Go.Proofs.Ytcpmjaoglbgmbaa.tracksMid
