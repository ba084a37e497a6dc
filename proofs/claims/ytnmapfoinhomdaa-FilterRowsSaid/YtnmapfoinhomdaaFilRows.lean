/- FilterRows: any row turned by any kind, and back, the best kind, and the guess are what the document says; what was handed in stays. -/
import Derived.Test.YtnmapfoinhomdaaFilCw
import Derived.Test.YtnmapfoinhomdaaHelpByte
import Derived.Test.YtnmapfoinhomdaaHelpStr
import Derived.Test.YtnmapfoinhomdaaArgs
namespace Go.Proofs.Ytnmapfoinhomdaa.filterRows
open Go.ChangeShapes Go.WideShapes Go.ChangeAt Go.RowKit

attribute [local go_sem ↓] Go.wp_at_zero Go.wp_at_succ

set_option maxRecDepth 100000 in
set_option maxHeartbeats 6400000 in
theorem walk (ok : FilterOK) (k : Int) (hk : I64 k) (A : Option Addr) (n c : Nat) (xs : List Int) (B : Option Addr) (m d : Nat) (ys : List Int) (p : Int) (hp : I64 p) (x : Int) (hx : 0 ≤ x ∧ x ≤ 255) (y : Int) (hy : 0 ≤ y ∧ y ≤ 255) (z : Int) (hz : 0 ≤ z ∧ z ≤ 255) (w : World)
    (hzA : A = none → c = 0) (hr : Row w .u8 A n xs) (hb : ∀ x ∈ xs, 0 ≤ x ∧ x < 256) (_ : n ≤ maxLen) (_ : n ≤ c) (hzB : B = none → d = 0) (hr2 : Row w .u8 B m ys) (hb2 : ∀ x ∈ ys, 0 ≤ x ∧ x < 256) (_ : m ≤ maxLen) (_ : m ≤ d) :
    Calls Try.prog 3 #[.int .i64 k, .slice A n c, .slice B m d, .int .i64 p, .int .u8 x, .int .u8 y, .int .u8 z] w fun e w' => e = .returned (.bool true) ∧ Below w.heap.size w w' := by
  have hcs : 2000 < (n : Int) ∨ (¬ 2000 < (n : Int) ∧ 2000 < (m : Int)) ∨ (¬ 2000 < (n : Int) ∧ ¬ 2000 < (m : Int)) := by omega
  rcases hcs with h1 | ⟨h1, h2⟩ | ⟨h1, h2⟩
  rotate_right
  · have HOw := Lib.hid (hOwnByte_any A n c xs 71 w hr hzA (by omega))
    have hlen := hr.len
    have hlen2 := hr2.len
    have HR := Lib.hid (And.intro hr hr2)
    have HO := Lib.hid ok
    have HB : Hid ((B8 xs ∧ B8 ys) ∧ (I64 k ∧ I64 p)) := Lib.hid ⟨⟨hb, hb2⟩, hk, hp⟩
    have HOw2 : Hid (∀ V, Fresh w V → Calls Try.prog 9 #[.slice B m d, .int .u8 71] V fun e w' => ∃ q, e = .returned (.slice (some ⟨q, 0, none⟩) m (m + 3)) ∧ Copy w' q 5 .u8 ys 71 ∧ V.heap.size ≤ q ∧ Fresh V w') := Lib.hid fun V hV => hOwnByte_any B m d ys 71 V (HR.out.2.fresh hV) hzB (by omega)
    clear hr hb ok hk hp hr2 hb2
    go_enter Try.func3, Try.ntmps3
    go_wp2_with fail
    refine HOw.out.mono ?_
    rintro e w0 ⟨q, rfl, hq, _, hf0⟩
    have HOx := Lib.hid (HOw2.out w0 hf0)
    have HC0 := Lib.hid (And.intro hq hf0)
    clear hq hf0 HOw HOw2
    go_wp2_with fail
    refine HOx.out.mono ?_
    rintro e w1 ⟨q2, rfl, hq2, _, hf1⟩
    have HC : Hid (∀ V, Fresh w1 V → Row V .u8 (some ⟨q, 0, none⟩) n xs ∧ Copy V q 5 .u8 xs 71) := Lib.hid fun V hV => by
      have hq' : Copy V q 5 .u8 xs 71 := ⟨HC0.out.1.blk.kept (Fresh.two hf1 hV) id⟩
      have := hq'.row
      rw [hlen] at this
      exact ⟨this, hq'⟩
    have HC2 : Hid (∀ V, Fresh w1 V → Row V .u8 (some ⟨q2, 0, none⟩) m ys ∧ Copy V q2 5 .u8 ys 71) := Lib.hid fun V hV => by
      have hq' : Copy V q2 5 .u8 ys 71 := ⟨hq2.blk.kept hV id⟩
      have := hq'.row
      rw [hlen2] at this
      exact ⟨this, hq'⟩
    have HE := Lib.hid (Fresh.two HC0.out.2 hf1)
    have HQ : Hid (∀ V, Fresh w1 V → Row V .u8 A n xs ∧ Row V .u8 B m ys) := Lib.hid fun V hV => ⟨HR.out.1.fresh (Fresh.two HE.out hV), HR.out.2.fresh (Fresh.two HE.out hV)⟩
    have HA := Lib.hid (awakeF_any HO.out w1)
    clear hq2 hf1 HOx HC0 hlen hlen2
    go_wp2_with fail
    refine HA.out.mono ?_
    rintro e w2 ⟨rfl, hf2⟩
    have HF2 := Lib.hid hf2
    clear hf2 HA
    have HC2 := Lib.hid (HO.out.rowT (n + 3) (m + 3) (HC.out w2 HF2.out).1 (HC2.out w2 HF2.out).1 HB.out.1.1 HB.out.1.2 (by omega) (by omega) (by omega) (by omega) HB.out.2.1 HB.out.2.2)
    go_wp2_with fail
    refine HC2.out.mono ?_
    rintro e w3 ⟨B2, d2, rfl, hr2, hd2, hf2⟩
    have HF3 := Lib.hid (Fresh.two HF2.out hf2)
    have HR2 : Hid (∀ V, Fresh w3 V → Row V .u8 B2 n (rowF k xs ys (plN p))) := Lib.hid fun V hV => hr2.fresh hV
    have HS2 := Lib.hid hf2
    clear hr2 hf2 HC2
    have HC3 := Lib.hid (qRowT (k := k) c d (HQ.out w3 HF3.out).1 (HQ.out w3 HF3.out).2 HB.out.1.1 HB.out.1.2 (by omega) (by omega) HB.out.2.2)
    go_wp2_with fail
    refine HC3.out.mono ?_
    rintro e w4 ⟨B3, d3, rfl, hr3, hd3, hf3⟩
    have HF4 := Lib.hid (Fresh.two HF3.out hf3)
    have HR3 : Hid (∀ V, Fresh w4 V → Row V .u8 B3 n (rowF k xs ys (plN p))) := Lib.hid fun V hV => hr3.fresh hV
    have HS3 := Lib.hid hf3
    clear hr3 hf3 HC3
    have HC4 := hBytes_any B2 B3 n n d2 d3 (rowF k xs ys (plN p)) (rowF k xs ys (plN p)) w4 (HR2.out w4 HS3.out) (HR3.out w4 (Kept.refl _ _)) (rowF_byte _ _ _ _) (rowF_byte _ _ _ _)
    rw [show decide ((rowF k xs ys (plN p)) = (rowF k xs ys (plN p))) = true from by simp] at HC4
    have HC4 := Lib.hid HC4
    go_wp2_with fail
    refine HC4.out.mono ?_
    rintro e wx ⟨rfl, rfl⟩
    clear HC4
    clear HR2 HR3 HS2 HS3 HF2 HF3
    have HC4 := Lib.hid (HO.out.unT (n + 3) (m + 3) (HC.out w4 HF4.out).1 (HC2.out w4 HF4.out).1 HB.out.1.1 HB.out.1.2 (by omega) (by omega) (by omega) (by omega) HB.out.2.1 HB.out.2.2)
    go_wp2_with fail
    refine HC4.out.mono ?_
    rintro e w5 ⟨B4, d4, rfl, hr4, hd4, hf4⟩
    have HF5 := Lib.hid (Fresh.two HF4.out hf4)
    have HR4 : Hid (∀ V, Fresh w5 V → Row V .u8 B4 n (unF k xs ys (plN p))) := Lib.hid fun V hV => hr4.fresh hV
    have HS4 := Lib.hid hf4
    clear hr4 hf4 HC4
    have HC5 := Lib.hid (qUnT (k := k) c d (HQ.out w5 HF5.out).1 (HQ.out w5 HF5.out).2 HB.out.1.1 HB.out.1.2 (by omega) (by omega) HB.out.2.2)
    go_wp2_with fail
    refine HC5.out.mono ?_
    rintro e w6 ⟨B5, d5, rfl, hr5, hd5, hf5⟩
    have HF6 := Lib.hid (Fresh.two HF5.out hf5)
    have HR5 : Hid (∀ V, Fresh w6 V → Row V .u8 B5 n (unF k xs ys (plN p))) := Lib.hid fun V hV => hr5.fresh hV
    have HS5 := Lib.hid hf5
    clear hr5 hf5 HC5
    have HC6 := hBytes_any B4 B5 n n d4 d5 (unF k xs ys (plN p)) (unF k xs ys (plN p)) w6 (HR4.out w6 HS5.out) (HR5.out w6 (Kept.refl _ _)) (unN_byte _ _ _ _ _) (unN_byte _ _ _ _ _)
    rw [show decide ((unF k xs ys (plN p)) = (unF k xs ys (plN p))) = true from by simp] at HC6
    have HC6 := Lib.hid HC6
    go_wp2_with fail
    refine HC6.out.mono ?_
    rintro e wx ⟨rfl, rfl⟩
    clear HC6
    clear HR4 HR5 HS4 HS5 HF4 HF5
    have HBe := Lib.hid (HO.out.best (some ⟨q, 0, none⟩) n (n + 3) xs (some ⟨q2, 0, none⟩) m (m + 3) ys p w6 (HC.out w6 HF6.out).1 (HC2.out w6 HF6.out).1 HB.out.1.1 HB.out.1.2 (by omega) (by omega) (by omega) (by omega) HB.out.2.2)
    go_wp2_with fail
    refine HBe.out.mono ?_
    rintro e w7 ⟨rfl, hf7⟩
    have HF7 := Lib.hid (Fresh.two HF6.out hf7)
    have HBr := Lib.hid (qBestF_any A n c xs B m d ys p w7 (HQ.out w7 HF7.out).1 (HQ.out w7 HF7.out).2 HB.out.1.1 HB.out.1.2 (by omega) (by omega) HB.out.2.2.2)
    clear hf7 HBe HF6
    go_wp2_with fail
    refine HBr.out.mono ?_
    rintro e w8 ⟨rfl, hf8⟩
    have HF8 := Lib.hid (Fresh.two HF7.out hf8)
    have HP := Lib.hid (HO.out.paeth x y z w8 (by omega) (by omega) (by omega))
    have hs1 : (((bst xs ys (plN p) : Nat) : Int) == ((bst xs ys (plN p) : Nat) : Int)) = true := by simp
    clear hf8 HBr HF7
    go_wp2_with fail
    refine HP.out.mono ?_
    rintro e w9 ⟨rfl, hf9⟩
    have HF9 := Lib.hid (Fresh.two HF8.out hf9)
    have HPr := Lib.hid (qPaeth_any x y z w9 (by omega) (by omega) (by omega))
    have hs2 : (pae x y z == pae x y z) = true := by simp
    clear hf9 HP HF8
    go_wp2_with fail
    refine HPr.out.mono ?_
    rintro e wx ⟨rfl, rfl⟩
    have HK := Lib.hid (hKeptByte_any q n c A xs 71 w9 (HC.out w9 HF9.out).2 (HQ.out w9 HF9.out).1 (by omega))
    clear HPr
    go_wp2_with fail
    refine HK.out.mono ?_
    rintro e w10 ⟨rfl, kk, rfl⟩
    have HF10 := Lib.hid (HF9.out.drewN kk)
    have HK2 := Lib.hid (hKeptByte_any q2 m d B ys 71 (w9.drewN kk) (HC2.out _ HF10.out).2 (HQ.out _ HF10.out).2 (by omega))
    clear HK HF9
    go_wp2_with fail
    refine HK2.out.mono ?_
    rintro e w11 ⟨rfl, kl, rfl⟩
    have HL := Lib.hid ((Fresh.two HE.out HF10.out).drewN kl).toBelow
    rw [World.drewN_drewN] at HL
    clear HK2 HF10
    go_wp2_with fail
    go_ret
    exact ⟨rfl, HL.out⟩
  all_goals
    have HA := Lib.hid (awakeF_any ok w)
    clear hr hr2 ok
    go_enter Try.func3, Try.ntmps3
    go_wp2_with fail
    refine HA.out.mono ?_
    rintro e w1 ⟨rfl, hf⟩
    have HF := Lib.hid hf.toBelow
    clear hf HA
    go_wp2_with fail
    go_ret
    exact ⟨rfl, HF.out⟩

set_option maxRecDepth 100000 in
theorem lifted (os : Os) (started : os.Started) (H : Type) (enc : TypeId × Value → H) :
    ReturnsInHanded {} Try.checked os 3 .any (Rows.filterRowsSpec.pre6 enc Try.prog Try.f3 Rows.filterRowsRow.domain false) (Rows.filterRowsSpec.post enc Try.prog Try.f3 false true false false) := by
  refine returnsInHanded_of_change (C := Try.checked) Try.own started (by kernel_rfl) Try.func3
    (ChangeSpec.witness6 (enc := enc) (C := Try.checked) false ⟨#[], #[.int .i64 0, .slice none 0 0, .slice none 0 0, .int .i64 0, .int .u8 0, .int .u8 0, .int .u8 0], []⟩ 8 (by kernel_rfl) (by kernel_rfl) (by kernel_rfl) (by kernel_rfl)) ?_
  intro W base args ds gs before hval0 hW hcnd _
  have hval : ∀ (j : Nat) t v, Try.f3.params[j]? = some t → args[j]? = some v → Value.okWide Try.prog W .any base t v := hval0
  have hpost : ∀ W', Below W.heap.size W W' → Rows.filterRowsSpec.post enc Try.prog Try.f3 false true false false W args (.bool true) W' := fun W' hb =>
    law_post (by kernel_rfl) Try.underlying4 (by kernel_rfl) rfl (fun ds hl => match ds, hl with | [d1, d2, d3, d4, d5, d6, d7], _ => ⟨rfl, rfl, rfl⟩) hW hb
  obtain ⟨p, q, hA0, hV, rfl, hfz, hnd⟩ := hW
  have hA : DataW.TrodAll enc Try.prog W 0 (fun _ => true) true Try.f3.params.toList args.toList ds p := hA0
  rw [Try.params3] at hA hval
  obtain ⟨v0, vs0, d0, ds0, p0, q0, hargs, rfl, rfl, h0, r0⟩ := trodAll_cons hA
  obtain ⟨v1, vs1, d1, ds1, p1, q1, rfl, rfl, rfl, h1, r1⟩ := trodAll_cons r0
  obtain ⟨v2, vs2, d2, ds2, p2, q2, rfl, rfl, rfl, h2, r2⟩ := trodAll_cons r1
  obtain ⟨v3, vs3, d3, ds3, p3, q3, rfl, rfl, rfl, h3, r3⟩ := trodAll_cons r2
  obtain ⟨v4, vs4, d4, ds4, p4, q4, rfl, rfl, rfl, h4, r4⟩ := trodAll_cons r3
  obtain ⟨v5, vs5, d5, ds5, p5, q5, rfl, rfl, rfl, h5, r5⟩ := trodAll_cons r4
  obtain ⟨v6, vs6, d6, ds6, p6, q6, rfl, rfl, rfl, h6, r6⟩ := trodAll_cons r5
  obtain ⟨rfl, rfl, rfl⟩ := trodAll_nil r6
  obtain rfl : args = #[v0, v1, v2, v3, v4, v5, v6] := by cases args; simp_all
  obtain ⟨a0, rfl, rfl, rfl, w0⟩ := open_int Try.underlying3 (hval 0 3 v0 rfl rfl) h0
  obtain ⟨A1, n1, c1, xs1, rfl, hz1, hr1, hb1, hn1, hc1⟩ := open_rowc Try.underlying22 Try.underlying5 (by kernel_rfl) (hval 1 22 v1 rfl rfl) h1
  obtain ⟨A2, n2, c2, xs2, rfl, hz2, hr2, hb2, hn2, hc2⟩ := open_rowc Try.underlying22 Try.underlying5 (by kernel_rfl) (hval 2 22 v2 rfl rfl) h2
  obtain ⟨a3, rfl, rfl, rfl, w3⟩ := open_int Try.underlying3 (hval 3 3 v3 rfl rfl) h3
  obtain ⟨a4, rfl, rfl, rfl, w4⟩ := open_int Try.underlying5 (hval 4 5 v4 rfl rfl) h4
  obtain ⟨a5, rfl, rfl, rfl, w5⟩ := open_int Try.underlying5 (hval 5 5 v5 rfl rfl) h5
  obtain ⟨a6, rfl, rfl, rfl, w6⟩ := open_int Try.underlying5 (hval 6 5 v6 rfl rfl) h6
  refine (walk filterOK a0 (bounds_i64 w0) A1 n1 c1 xs1 A2 n2 c2 xs2 a3 (bounds_i64 w3) a4 (bounds_u8 w4) a5 (bounds_u8 w5) a6 (bounds_u8 w6) W hz1 hr1 (range_bytes hb1) hn1 hc1 hz2 hr2 (range_bytes hb2) hn2 hc2).mono fun e W' ⟨he, hb⟩ => ⟨_, he, hpost W' hb⟩

/-- The statement. -/
theorem proved : Rows.FilterRowsSaid :=
  OpenClaim.holds_of_wide 3 Try.f3 rfl rfl rfl rfl rfl rfl rfl ⟨rfl, rfl, rfl, rfl, rfl⟩ rfl rfl rfl rfl rfl (by kernel_rfl) Try.func3 (by kernel_rfl)
    (of_decide_eq_true (by kernel_rfl)) (by unfold Func.isWrapper; first | (rw [if_pos (by decide +kernel)]; kernel_rfl) | (rw [if_neg (by decide +kernel)]; exact ⟨rfl, rfl⟩))
    (fun os started H enc _ => lifted os started H enc)
#print axioms proved

end Go.Proofs.Ytnmapfoinhomdaa.filterRows
