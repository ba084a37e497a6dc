/- AudioBack: any file is packed just if it has samples, and is unpacked again just as it was, with as many bytes as it has or more, and refused with fewer; what was handed in stays. -/
import Derived.Test.YtodmchjdflpbpaaGreatPart8
import Derived.Test.YtodmchjdflpbpaaGreatHelpByte
import Derived.Test.YtodmchjdflpbpaaGreatHelpStr
import Derived.Test.YtodmchjdflpbpaaGreatArgs
namespace Go.Proofs.YtodmchjdflpbpaaGreat.audioBack
open Go.ChangeShapes Go.WideShapes Go.ChangeAt Go.RowKit

attribute [local go_sem ↓] Go.wp_at_zero Go.wp_at_succ

variable {ap : List Int → List Int} {au : List Int → Int → Int × List Int}
/-- What is told of a pack. -/
def tell (n : Nat) (xs : List Int) (most : Int) : Int × List Int := if (n : Int) ≤ most then (0, xs) else (5, [])
theorem tell_yes {n : Nat} {xs : List Int} {most : Int} (h : (n : Int) ≤ most) : tell n xs most = (0, xs) := if_pos h
theorem tell_no {n : Nat} {xs : List Int} {most : Int} (h : ¬ (n : Int) ≤ most) : tell n xs most = (5, []) := if_neg h
theorem two {a b c : World} (h : Fresh a b) (k : Fresh b c) : Fresh a c := h.trans k fun _ _ e => e
set_option maxRecDepth 100000 in
set_option maxHeartbeats 3200000 in
theorem walk (ok : AudioOK ap au) (A : Option Addr) (n c : Nat) (xs : List Int) (most : Int) (w : World) (hz : A = none → c = 0) (hr : Row w .u8 A n xs) (hb : ∀ x ∈ xs, 0 ≤ x ∧ x < 256) (_ : n ≤ maxLen) (hnc : n ≤ c) :
    Calls Tryz.prog 3 #[.slice A n c, .int .i64 most] w fun e w' => e = .returned (.bool true) ∧ Below w.heap.size w w' := by
  by_cases hlong : 3000 < n
  · have h1 : 3000 < (n : Int) := by omega
    have HA := Lib.hid (awakeA_any ok w)
    clear hr ok
    go_enter Tryz.func3, Tryz.ntmps3
    go_wp2_with fail
    refine HA.out.mono ?_
    rintro e w1 ⟨rfl, hf⟩
    have HF := Lib.hid hf.toBelow
    clear hf HA
    go_wp2_with fail
    go_ret
    exact ⟨rfl, HF.out⟩
  · have h1 : ¬ 3000 < (n : Int) := by omega
    have HOw := Lib.hid (hOwnByte_any A n c xs 71 w hr hz (by omega))
    have hlen := hr.len
    have HR := Lib.hid hr
    have HO := Lib.hid ok
    have HB := Lib.hid hb
    clear hr hb ok
    rcases his : wparse xs with _ | r
    · have HI : Hid ((wparse xs).isSome = false) := Lib.hid (by rw [his]; rfl)
      have hPa : ∀ V, Fresh w V → Calls Tryz.prog 9 #[.slice A n c] V fun e w' => e = .returned (.tuple #[wval none, .bool false]) ∧ Fresh V w' := fun V hV => by
        have := qWParse_any A n c xs V (HR.out.kept hV fun _ _ _ _ => id) HB.out (by omega) hnc
        rwa [his] at this
      have HPa := Lib.hid hPa
      unfold wval at HPa
      clear his hPa
      go_enter Tryz.func3, Tryz.ntmps3
      go_wp2_with fail
      refine HOw.out.mono ?_
      rintro e w1 ⟨q, rfl, hq, _, hf1⟩
      have HC : Hid (∀ V, Fresh w1 V → Row V .u8 (some ⟨q, 0, none⟩) n xs ∧ Copy V q 5 .u8 xs 71) := Lib.hid fun V hV => by
        have hq' : Copy V q 5 .u8 xs 71 := ⟨hq.blk.kept hV id⟩
        have := hq'.row
        rw [hlen] at this
        exact ⟨this, hq'⟩
      have HQ : Hid (∀ V, Fresh w1 V → Row V .u8 A n xs) := Lib.hid fun V hV => (HR.out.kept hf1 fun _ _ _ _ => id).kept hV fun _ _ _ _ => id
      have HE := Lib.hid hf1
      have HP := Lib.hid (HO.out.refuse _ n (n + 3) xs w1 (HC.out w1 (Kept.refl _ _)).1 HB.out (by omega) (by omega) HI.out)
      clear hq hf1 HOw hlen
      go_wp2_with fail
      refine HP.out.mono ?_
      rintro e w2 ⟨rfl, hf2⟩
      have HF2 := Lib.hid hf2
      have HPb := Lib.hid (HPa.out w2 (two HE.out hf2))
      clear hf2 HP HPa
      go_wp2_with fail
      refine HPb.out.mono ?_
      rintro e w3 ⟨rfl, hf3⟩
      have HF3 := Lib.hid ((two HF2.out hf3).alloc (.cells #[.int .i64 0, .int .i64 0, .int .i64 0, .int .i64 0] 28))
      have HAw : Hid (∀ V, Calls Tryz.prog 6 #[] V fun e w' => e = .returned (.bool true) ∧ Fresh V w') := Lib.hid fun V => awakeA_any HO.out V
      clear hf3 HPb HF2
      go_wp2_with fail
      refine (HAw.out _).mono ?_
      rintro e w4 ⟨rfl, hf4⟩
      have HF4 : Hid (Fresh w1 w4) := Lib.hid (two HF3.out hf4)
      have HK := Lib.hid (hKeptByte_any q n c A xs 71 w4 (HC.out w4 HF4.out).2 (HQ.out w4 HF4.out) (by omega))
      clear hf4 HF3 HAw
      go_wp2_with fail
      refine HK.out.mono ?_
      rintro e w5 ⟨rfl, k5, rfl⟩
      have HL := Lib.hid (two HE.out (HF4.out.drewN k5)).toBelow
      clear HK HF4
      go_wp2_with fail
      go_ret
      exact ⟨rfl, HL.out⟩
    · have HI : Hid (AuIn xs) := Lib.hid ⟨HB.out, by omega, by rw [his]; rfl⟩
      have hPa : ∀ V, Fresh w V → Calls Tryz.prog 9 #[.slice A n c] V fun e w' => e = .returned (.tuple #[wval (some r), .bool true]) ∧ Fresh V w' := fun V hV => by
        have := qWParse_any A n c xs V (HR.out.kept hV fun _ _ _ _ => id) HB.out (by omega) hnc
        rwa [his] at this
      have HPa := Lib.hid hPa
      unfold wval at HPa
      clear his hPa
      go_enter Tryz.func3, Tryz.ntmps3
      go_wp2_with fail
      refine HOw.out.mono ?_
      rintro e w1 ⟨q, rfl, hq, _, hf1⟩
      have HC : Hid (∀ V, Fresh w1 V → Row V .u8 (some ⟨q, 0, none⟩) n xs ∧ Copy V q 5 .u8 xs 71) := Lib.hid fun V hV => by
        have hq' : Copy V q 5 .u8 xs 71 := ⟨hq.blk.kept hV id⟩
        have := hq'.row
        rw [hlen] at this
        exact ⟨this, hq'⟩
      have HQ : Hid (∀ V, Fresh w1 V → Row V .u8 A n xs) := Lib.hid fun V hV => (HR.out.kept hf1 fun _ _ _ _ => id).kept hV fun _ _ _ _ => id
      have HE := Lib.hid hf1
      have HP := Lib.hid (HO.out.pack _ n (n + 3) xs w1 (HC.out w1 (Kept.refl _ _)).1 HB.out (by omega) (by omega) HI.out.2.2)
      clear hq hf1 HOw
      go_wp2_with fail
      refine HP.out.mono ?_
      rintro e w2 ⟨x, rfl, hx, _, hf2⟩
      have hxc := hx
      obtain ⟨Ax, cx, rfl, hrx, _⟩ := hx.row
      have hbx := HO.out.len xs HI.out
      have HX := Lib.hid (And.intro hrx (And.intro (HO.out.byte xs HI.out) hxc.cap))
      have HX2 : Hid (∀ most, au (ap xs) most = tell n xs most) := Lib.hid fun most => by unfold tell; rw [← hlen]; exact HO.out.back xs most HI.out
      have HLx : Hid (∀ m, (ap xs).length = m → (ap xs).length = m) := Lib.hid fun _ h => h
      have HF2 := Lib.hid hf2
      have HPb := Lib.hid (HPa.out w2 (two HE.out hf2))
      clear hf2 HP HPa hx hrx hxc
      generalize hlx : (ap xs).length = lx at *
      have HLe := Lib.hid hlx
      clear hlx HLx
      have lx0 : (0 : Int) < (lx : Int) := by omega
      go_wp2_with fail
      refine HPb.out.mono ?_
      rintro e w3 ⟨rfl, hf3⟩
      have HF3 := Lib.hid ((two HF2.out hf3).alloc (.cells #[.int .i64 r.1, .int .i64 r.2.1, .int .i64 r.2.2.1, .int .i64 r.2.2.2] 28))
      have HG3 := Lib.hid (hf3.alloc (.cells #[.int .i64 r.1, .int .i64 r.2.1, .int .i64 r.2.2.1, .int .i64 r.2.2.2] 28))
      have HAw : Hid (∀ V, Calls Tryz.prog 6 #[] V fun e w' => e = .returned (.bool true) ∧ Fresh V w') := Lib.hid fun V => awakeA_any HO.out V
      clear hf3 HPb HF2
      go_wp2_with fail
      refine (HAw.out _).mono ?_
      rintro e w4 ⟨rfl, hf4⟩
      have HF4 : Hid (Fresh w1 w4) := Lib.hid (two HF3.out hf4)
      have HG4 : Hid (Fresh w2 w4) := Lib.hid (two HG3.out hf4)
      have HK := Lib.hid (hKeptByte_any q n c A xs 71 w4 (HC.out w4 HF4.out).2 (HQ.out w4 HF4.out) (by omega))
      clear hf4 HF3 HAw HG3
      go_wp2_with fail
      refine HK.out.mono ?_
      rintro e w5 ⟨rfl, k5, rfl⟩
      have HF5 := Lib.hid (HF4.out.drewN k5)
      have HU : Hid (∀ V, Fresh w2 V → ∀ most, Calls Tryz.prog 11 #[.slice Ax lx cx, .int .i64 most] V fun e w' => ∃ u, e = .returned (.tuple #[u, .int .i64 (tell n xs most).1]) ∧ NewRow V w' 5 .u8 u (tell n xs most).2) := Lib.hid fun V hV most => by
        have := HO.out.unpack Ax lx cx (ap xs) most V (HX.out.1.kept hV fun _ _ _ _ => id) HX.out.2.1 (by omega) HX.out.2.2
        rwa [HX2.out most] at this
      have HG5 := Lib.hid (HG4.out.drewN k5)
      generalize w4.drewN k5 = w5 at *
      clear HK HF4 HG4
      have HU1 := HU.out w5 HG5.out (n : Int)
      rw [tell_yes (Int.le_refl _)] at HU1
      have HU1 := Lib.hid HU1
      go_wp2_with fail
      refine HU1.out.mono ?_
      rintro e w6 ⟨u6, rfl, hu6, _, hf6⟩
      obtain ⟨A6, c6, rfl, hr6, _⟩ := hu6.row
      simp only [hlen] at hr6 ⊢
      have HF6 := Lib.hid (two HF5.out hf6)
      have HG6 := Lib.hid (two HG5.out hf6)
      have HR6 : Hid (∀ V, Fresh w6 V → Row V .u8 A6 n xs) := Lib.hid fun V hV => hr6.kept hV fun _ _ _ _ => id
      clear hu6 hr6 hf6 HU1 HF5 HG5
      have HU2 := HU.out w6 HG6.out ((n : Int) - 1)
      rw [tell_no (by omega)] at HU2
      have HU2 := Lib.hid HU2
      go_wp2_with fail
      refine HU2.out.mono ?_
      rintro e w7 ⟨u7, rfl, hu7, _, hf7⟩
      obtain ⟨A7, c7, rfl, hr7, _⟩ := hu7.row
      simp only [List.length_nil] at hr7 ⊢
      have HF7 := Lib.hid (two HF6.out hf7)
      have HG7 := Lib.hid (two HG6.out hf7)
      have HS7 := Lib.hid hf7
      clear hu7 hr7 hf7 HU2 HF6 HG6
      have HU3 := HU.out w7 HG7.out most
      have HBy : Hid (∀ V, Fresh w7 V → Calls Tryz.prog 12 #[.slice A n c, .slice A6 n c6] V fun e w' => e = .returned (.bool true) ∧ V = w') := Lib.hid fun V hV => by
        have := hBytes_any A A6 n n c c6 xs xs V (HQ.out V (two HF7.out hV)) (HR6.out V (two HS7.out hV)) HB.out HB.out
        rwa [show decide (xs = xs) = true from by simp] at this
      by_cases hmost : (n : Int) ≤ most
      · rw [tell_yes hmost] at HU3
        have HU3 := Lib.hid HU3
        go_wp2_with fail
        refine HU3.out.mono ?_
        rintro e w8 ⟨u8, rfl, hu8, _, hf8⟩
        obtain ⟨A8, c8, rfl, hr8, _⟩ := hu8.row
        simp only [hlen] at hr8 ⊢
        have HB8 := Lib.hid (HBy.out w8 hf8)
        have HB9 := hBytes_any A8 A n n c8 c xs xs w8 hr8 (HQ.out w8 (two HF7.out hf8)) HB.out HB.out
        rw [show decide (xs = xs) = true from by simp] at HB9
        have HB9 := Lib.hid HB9
        have HL := Lib.hid (two HE.out (two HF7.out hf8)).toBelow
        clear hu8 hr8 hf8 HU3 HBy HF7 HG7
        go_wp2_with fail
        refine HB8.out.mono ?_
        rintro e w9 ⟨rfl, rfl⟩
        clear HB8
        go_wp2_with fail
        refine HB9.out.mono ?_
        rintro e w9 ⟨rfl, rfl⟩
        clear HB9
        go_wp2_with fail
        go_ret
        exact ⟨rfl, HL.out⟩
      · rw [tell_no hmost] at HU3
        have HU3 := Lib.hid HU3
        go_wp2_with fail
        refine HU3.out.mono ?_
        rintro e w8 ⟨u8, rfl, hu8, _, hf8⟩
        obtain ⟨A8, c8, rfl, hr8, _⟩ := hu8.row
        simp only [List.length_nil] at hr8 ⊢
        have HB8 := Lib.hid (HBy.out w8 hf8)
        have HL := Lib.hid (two HE.out (two HF7.out hf8)).toBelow
        clear hu8 hr8 hf8 HU3 HBy HF7 HG7
        go_wp2_with fail
        refine HB8.out.mono ?_
        rintro e w9 ⟨rfl, rfl⟩
        clear HB8
        go_wp2_with fail
        go_ret
        exact ⟨rfl, HL.out⟩

set_option maxRecDepth 100000 in
theorem lifted (os : Os) (started : os.Started) (H : Type) (enc : TypeId × Value → H) :
    ReturnsInHanded {} Tryz.checked os 3 .any (Rows.audioBackSpec.pre6 enc Tryz.prog Tryz.f3 Rows.audioBackRow.domain false) (Rows.audioBackSpec.post enc Tryz.prog Tryz.f3 false true false false) := by
  refine returnsInHanded_of_change (C := Tryz.checked) Tryz.own started (by kernel_rfl) Tryz.func3
    (ChangeSpec.witness6 (enc := enc) (C := Tryz.checked) false ⟨#[], #[.slice none 0 0, .int .i64 0], []⟩ 8 (by kernel_rfl) (by kernel_rfl) (by kernel_rfl) (by kernel_rfl)) ?_
  intro W base args ds gs before hval0 hW hcnd _
  have hval : ∀ (j : Nat) t v, Tryz.f3.params[j]? = some t → args[j]? = some v → Value.okWide Tryz.prog W .any base t v := hval0
  have hpost : ∀ W', Below W.heap.size W W' → Rows.audioBackSpec.post enc Tryz.prog Tryz.f3 false true false false W args (.bool true) W' := fun W' hb =>
    law_post (by kernel_rfl) Tryz.underlying4 (by kernel_rfl) rfl (fun ds hl => match ds, hl with | [d1, d2], _ => ⟨rfl, rfl, rfl⟩) hW hb
  obtain ⟨p, q, hA0, hV, rfl, hfz, hnd⟩ := hW
  have hA : DataW.TrodAll enc Tryz.prog W 0 (fun _ => true) true Tryz.f3.params.toList args.toList ds p := hA0
  rw [Tryz.params3] at hA hval
  obtain ⟨v0, vs0, d0, ds0, p0, q0, hargs, rfl, rfl, h0, r0⟩ := trodAll_cons hA
  obtain ⟨v1, vs1, d1, ds1, p1, q1, rfl, rfl, rfl, h1, r1⟩ := trodAll_cons r0
  obtain ⟨rfl, rfl, rfl⟩ := trodAll_nil r1
  obtain rfl : args = #[v0, v1] := by cases args; simp_all
  obtain ⟨A0, n0, c0, xs0, rfl, hz0, hr0, hb0, hn0, hc0⟩ := open_rowc Tryz.underlying22 Tryz.underlying5 (by kernel_rfl) (hval 0 22 v0 rfl rfl) h0
  obtain ⟨a1, rfl, rfl, rfl, w1⟩ := open_int Tryz.underlying3 (hval 1 3 v1 rfl rfl) h1
  refine (walk audioOK A0 n0 c0 xs0 a1 W hz0 hr0 (range_bytes hb0) hn0 hc0).mono fun e W' ⟨he, hb⟩ => ⟨_, he, hpost W' hb⟩

/-- The statement. -/
theorem proved : Rows.AudioBackSaid :=
  OpenClaim.holds_of_wide 3 Tryz.f3 rfl rfl rfl rfl rfl rfl rfl ⟨rfl, rfl, rfl, rfl, rfl⟩ rfl rfl rfl rfl rfl (by kernel_rfl) Tryz.func3 (by kernel_rfl)
    (of_decide_eq_true (by kernel_rfl)) (by unfold Func.isWrapper; first | (rw [if_pos (by decide +kernel)]; kernel_rfl) | (rw [if_neg (by decide +kernel)]; exact ⟨rfl, rfl⟩))
    (fun os started H enc _ => lifted os started H enc)
#print axioms proved

end Go.Proofs.YtodmchjdflpbpaaGreat.audioBack
