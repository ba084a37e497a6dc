/- ColourTurns: any bytes, turned by their green, and apart, and back, by any number of columns, are what the document says; what was handed in stays. -/
import Derived.Test.YtcogdehpodfkpaaColCa
import Derived.Test.YtcogdehpodfkpaaHelpByte
import Derived.Test.YtcogdehpodfkpaaHelpStr
import Derived.Test.YtcogdehpodfkpaaArgs
namespace Go.Proofs.Ytcogdehpodfkpaa.colourTurns
open Go.ChangeShapes Go.WideShapes Go.ChangeAt Go.RowKit

attribute [local go_sem ↓] Go.wp_at_zero Go.wp_at_succ

set_option maxRecDepth 100000 in
set_option maxHeartbeats 6400000 in
theorem walk (ok : ColourOK) (A : Option Addr) (n c : Nat) (xs : List Int) (k : Int) (w : World) (hz : A = none → c = 0) (hr : Row w .u8 A n xs) (hb : ∀ x ∈ xs, 0 ≤ x ∧ x < 256) (_ : n ≤ maxLen) (hnc : n ≤ c) :
    Calls Try.prog 3 #[.slice A n c, .int .i64 k] w fun e w' => e = .returned (.bool true) ∧ Below w.heap.size w w' := by
  by_cases hlong : 3000 < n
  · have h1 : 3000 < (n : Int) := by omega
    have HA := Lib.hid (awakeC_any ok w)
    clear hr ok
    go_enter Try.func3, Try.ntmps3
    go_wp2_with fail
    refine HA.out.mono ?_
    rintro e w1 ⟨rfl, hf⟩
    have HF := Lib.hid hf.toBelow
    clear hf HA
    go_wp2_with fail
    go_ret
    exact ⟨rfl, HF.out⟩
  · have h1 : ¬ 3000 < (n : Int) := by omega
    have HOw := Lib.hid (hOwnByte_any A n c xs 71 w hr hz (by omega))
    have hlen := hr.len
    have HR := Lib.hid hr
    have HO := Lib.hid ok
    have HB : Hid (B8 xs ∧ ∀ l : List Int, (l = xs ∨ l = trn (-1) xs ∨ l = trn 1 xs ∨ l = aprt xs (colC k) ∨ l = tgth xs (colC k)) → ∀ x ∈ l, 0 ≤ x ∧ x < 256) := Lib.hid ⟨hb, fun l hl => by
      rcases hl with rfl | rfl | rfl | rfl | rfl
      · exact hb
      · exact trn_byte hb
      · exact trn_byte hb
      · exact aprt_byte hb _
      · exact tgth_byte hb _⟩
    clear hr hb ok
    go_enter Try.func3, Try.ntmps3
    go_wp2_with fail
    refine HOw.out.mono ?_
    rintro e w1 ⟨q, rfl, hq, _, hf1⟩
    have HC : Hid (∀ V, Fresh w1 V → Row V .u8 (some ⟨q, 0, none⟩) n xs ∧ Copy V q 5 .u8 xs 71) := Lib.hid fun V hV => by
      have hq' : Copy V q 5 .u8 xs 71 := ⟨hq.blk.kept hV id⟩
      have := hq'.row
      rw [hlen] at this
      exact ⟨this, hq'⟩
    have HQ : Hid (∀ V, Fresh w1 V → Row V .u8 A n xs) := Lib.hid fun V hV => (HR.out.fresh hf1).fresh hV
    have HE := Lib.hid hf1
    have HA := Lib.hid (awakeC_any HO.out w1)
    clear hq hf1 HOw hlen
    go_wp2_with fail
    refine HA.out.mono ?_
    rintro e w2 ⟨rfl, hf2⟩
    have HF2 := Lib.hid hf2
    clear hf2 HA
    have HC2 := Lib.hid (HO.out.turnT (n + 3) (HC.out w2 HF2.out).1 HB.out.1 (by omega) (by omega))
    go_wp2_with fail
    refine HC2.out.mono ?_
    rintro e w3 ⟨B2, d2, rfl, hr2, hd2, hf2⟩
    have HF3 := Lib.hid (Fresh.two HF2.out hf2)
    have HR2 : Hid (∀ V, Fresh w3 V → Row V .u8 B2 n (trn (-1) xs)) := Lib.hid fun V hV => hr2.fresh hV
    have HS2 := Lib.hid hf2
    clear hr2 hf2 HC2
    have HC3 := Lib.hid (qTurnT c (HQ.out w3 HF3.out) HB.out.1 (by omega))
    go_wp2_with fail
    refine HC3.out.mono ?_
    rintro e w4 ⟨B3, d3, rfl, hr3, hd3, hf3⟩
    have HF4 := Lib.hid (Fresh.two HF3.out hf3)
    have HR3 : Hid (∀ V, Fresh w4 V → Row V .u8 B3 n (trn (-1) xs)) := Lib.hid fun V hV => hr3.fresh hV
    have HS3 := Lib.hid hf3
    clear hr3 hf3 HC3
    have HC4 := hBytes_any B2 B3 n n d2 d3 (trn (-1) xs) (trn (-1) xs) w4 (HR2.out w4 HS3.out) (HR3.out w4 (Kept.refl _ _)) (HB.out.2 _ (by first | exact .inl rfl | exact .inr (.inl rfl) | exact .inr (.inr (.inl rfl)) | exact .inr (.inr (.inr (.inl rfl))) | exact .inr (.inr (.inr (.inr rfl))))) (HB.out.2 _ (by first | exact .inl rfl | exact .inr (.inl rfl) | exact .inr (.inr (.inl rfl)) | exact .inr (.inr (.inr (.inl rfl))) | exact .inr (.inr (.inr (.inr rfl)))))
    rw [show decide ((trn (-1) xs) = (trn (-1) xs)) = true from by simp] at HC4
    have HC4 := Lib.hid HC4
    go_wp2_with fail
    refine HC4.out.mono ?_
    rintro e wx ⟨rfl, rfl⟩
    clear HC4
    clear HR2 HR3 HS2 HS3 HF2 HF3
    have HC4 := Lib.hid (HO.out.backT (n + 3) (HC.out w4 HF4.out).1 HB.out.1 (by omega) (by omega))
    go_wp2_with fail
    refine HC4.out.mono ?_
    rintro e w5 ⟨B4, d4, rfl, hr4, hd4, hf4⟩
    have HF5 := Lib.hid (Fresh.two HF4.out hf4)
    have HR4 : Hid (∀ V, Fresh w5 V → Row V .u8 B4 n (trn 1 xs)) := Lib.hid fun V hV => hr4.fresh hV
    have HS4 := Lib.hid hf4
    clear hr4 hf4 HC4
    have HC5 := Lib.hid (qBackT c (HQ.out w5 HF5.out) HB.out.1 (by omega))
    go_wp2_with fail
    refine HC5.out.mono ?_
    rintro e w6 ⟨B5, d5, rfl, hr5, hd5, hf5⟩
    have HF6 := Lib.hid (Fresh.two HF5.out hf5)
    have HR5 : Hid (∀ V, Fresh w6 V → Row V .u8 B5 n (trn 1 xs)) := Lib.hid fun V hV => hr5.fresh hV
    have HS5 := Lib.hid hf5
    clear hr5 hf5 HC5
    have HC6 := hBytes_any B4 B5 n n d4 d5 (trn 1 xs) (trn 1 xs) w6 (HR4.out w6 HS5.out) (HR5.out w6 (Kept.refl _ _)) (HB.out.2 _ (by first | exact .inl rfl | exact .inr (.inl rfl) | exact .inr (.inr (.inl rfl)) | exact .inr (.inr (.inr (.inl rfl))) | exact .inr (.inr (.inr (.inr rfl))))) (HB.out.2 _ (by first | exact .inl rfl | exact .inr (.inl rfl) | exact .inr (.inr (.inl rfl)) | exact .inr (.inr (.inr (.inl rfl))) | exact .inr (.inr (.inr (.inr rfl)))))
    rw [show decide ((trn 1 xs) = (trn 1 xs)) = true from by simp] at HC6
    have HC6 := Lib.hid HC6
    go_wp2_with fail
    refine HC6.out.mono ?_
    rintro e wx ⟨rfl, rfl⟩
    clear HC6
    clear HR4 HR5 HS4 HS5 HF4 HF5
    have HC6 := Lib.hid (HO.out.apartT (n + 3) k (HC.out w6 HF6.out).1 HB.out.1 (by omega) (by omega))
    go_wp2_with fail
    refine HC6.out.mono ?_
    rintro e w7 ⟨B6, d6, rfl, hr6, hd6, hf6⟩
    have HF7 := Lib.hid (Fresh.two HF6.out hf6)
    have HR6 : Hid (∀ V, Fresh w7 V → Row V .u8 B6 n (aprt xs (colC k))) := Lib.hid fun V hV => hr6.fresh hV
    have HS6 := Lib.hid hf6
    clear hr6 hf6 HC6
    have HC7 := Lib.hid (qApartT c k (HQ.out w7 HF7.out) (by omega) hnc)
    go_wp2_with fail
    refine HC7.out.mono ?_
    rintro e w8 ⟨B7, d7, rfl, hr7, hd7, hf7⟩
    have HF8 := Lib.hid (Fresh.two HF7.out hf7)
    have HR7 : Hid (∀ V, Fresh w8 V → Row V .u8 B7 n (aprt xs (colC k))) := Lib.hid fun V hV => hr7.fresh hV
    have HS7 := Lib.hid hf7
    clear hr7 hf7 HC7
    have HC8 := hBytes_any B6 B7 n n d6 d7 (aprt xs (colC k)) (aprt xs (colC k)) w8 (HR6.out w8 HS7.out) (HR7.out w8 (Kept.refl _ _)) (HB.out.2 _ (by first | exact .inl rfl | exact .inr (.inl rfl) | exact .inr (.inr (.inl rfl)) | exact .inr (.inr (.inr (.inl rfl))) | exact .inr (.inr (.inr (.inr rfl))))) (HB.out.2 _ (by first | exact .inl rfl | exact .inr (.inl rfl) | exact .inr (.inr (.inl rfl)) | exact .inr (.inr (.inr (.inl rfl))) | exact .inr (.inr (.inr (.inr rfl)))))
    rw [show decide ((aprt xs (colC k)) = (aprt xs (colC k))) = true from by simp] at HC8
    have HC8 := Lib.hid HC8
    go_wp2_with fail
    refine HC8.out.mono ?_
    rintro e wx ⟨rfl, rfl⟩
    clear HC8
    clear HR6 HR7 HS6 HS7 HF6 HF7
    have HC8 := Lib.hid (HO.out.togetherT (n + 3) k (HC.out w8 HF8.out).1 HB.out.1 (by omega) (by omega))
    go_wp2_with fail
    refine HC8.out.mono ?_
    rintro e w9 ⟨B8, d8, rfl, hr8, hd8, hf8⟩
    have HF9 := Lib.hid (Fresh.two HF8.out hf8)
    have HR8 : Hid (∀ V, Fresh w9 V → Row V .u8 B8 n (tgth xs (colC k))) := Lib.hid fun V hV => hr8.fresh hV
    have HS8 := Lib.hid hf8
    clear hr8 hf8 HC8
    have HC9 := Lib.hid (qTogetherT c k (HQ.out w9 HF9.out) (by omega) hnc)
    go_wp2_with fail
    refine HC9.out.mono ?_
    rintro e w10 ⟨B9, d9, rfl, hr9, hd9, hf9⟩
    have HF10 := Lib.hid (Fresh.two HF9.out hf9)
    have HR9 : Hid (∀ V, Fresh w10 V → Row V .u8 B9 n (tgth xs (colC k))) := Lib.hid fun V hV => hr9.fresh hV
    have HS9 := Lib.hid hf9
    clear hr9 hf9 HC9
    have HC10 := hBytes_any B8 B9 n n d8 d9 (tgth xs (colC k)) (tgth xs (colC k)) w10 (HR8.out w10 HS9.out) (HR9.out w10 (Kept.refl _ _)) (HB.out.2 _ (by first | exact .inl rfl | exact .inr (.inl rfl) | exact .inr (.inr (.inl rfl)) | exact .inr (.inr (.inr (.inl rfl))) | exact .inr (.inr (.inr (.inr rfl))))) (HB.out.2 _ (by first | exact .inl rfl | exact .inr (.inl rfl) | exact .inr (.inr (.inl rfl)) | exact .inr (.inr (.inr (.inl rfl))) | exact .inr (.inr (.inr (.inr rfl)))))
    rw [show decide ((tgth xs (colC k)) = (tgth xs (colC k))) = true from by simp] at HC10
    have HC10 := Lib.hid HC10
    go_wp2_with fail
    refine HC10.out.mono ?_
    rintro e wx ⟨rfl, rfl⟩
    clear HC10
    clear HR8 HR9 HS8 HS9 HF8 HF9
    have HK := Lib.hid (hKeptByte_any q n c A xs 71 w10 (HC.out w10 HF10.out).2 (HQ.out w10 HF10.out) (by omega))
    go_wp2_with fail
    refine HK.out.mono ?_
    rintro e w11 ⟨rfl, kk, rfl⟩
    have HL := Lib.hid ((Fresh.two HE.out HF10.out).drewN kk).toBelow
    clear HK HF10
    go_wp2_with fail
    go_ret
    exact ⟨rfl, HL.out⟩

set_option maxRecDepth 100000 in
theorem lifted (os : Os) (started : os.Started) (H : Type) (enc : TypeId × Value → H) :
    ReturnsInHanded {} Try.checked os 3 .any (Rows.colourTurnsSpec.pre6 enc Try.prog Try.f3 Rows.colourTurnsRow.domain false) (Rows.colourTurnsSpec.post enc Try.prog Try.f3 false true false false) := by
  refine returnsInHanded_of_change (C := Try.checked) Try.own started (by kernel_rfl) Try.func3
    (ChangeSpec.witness6 (enc := enc) (C := Try.checked) false ⟨#[], #[.slice none 0 0, .int .i64 0], []⟩ 8 (by kernel_rfl) (by kernel_rfl) (by kernel_rfl) (by kernel_rfl)) ?_
  intro W base args ds gs before hval0 hW hcnd _
  have hval : ∀ (j : Nat) t v, Try.f3.params[j]? = some t → args[j]? = some v → Value.okWide Try.prog W .any base t v := hval0
  have hpost : ∀ W', Below W.heap.size W W' → Rows.colourTurnsSpec.post enc Try.prog Try.f3 false true false false W args (.bool true) W' := fun W' hb =>
    law_post (by kernel_rfl) Try.underlying4 (by kernel_rfl) rfl (fun ds hl => match ds, hl with | [d1, d2], _ => ⟨rfl, rfl, rfl⟩) hW hb
  obtain ⟨p, q, hA0, hV, rfl, hfz, hnd⟩ := hW
  have hA : DataW.TrodAll enc Try.prog W 0 (fun _ => true) true Try.f3.params.toList args.toList ds p := hA0
  rw [Try.params3] at hA hval
  obtain ⟨v0, vs0, d0, ds0, p0, q0, hargs, rfl, rfl, h0, r0⟩ := trodAll_cons hA
  obtain ⟨v1, vs1, d1, ds1, p1, q1, rfl, rfl, rfl, h1, r1⟩ := trodAll_cons r0
  obtain ⟨rfl, rfl, rfl⟩ := trodAll_nil r1
  obtain rfl : args = #[v0, v1] := by cases args; simp_all
  obtain ⟨A0, n0, c0, xs0, rfl, hz0, hr0, hb0, hn0, hc0⟩ := open_rowc Try.underlying22 Try.underlying5 (by kernel_rfl) (hval 0 22 v0 rfl rfl) h0
  obtain ⟨a1, rfl, rfl, rfl, w1⟩ := open_int Try.underlying3 (hval 1 3 v1 rfl rfl) h1
  refine (walk colourOK A0 n0 c0 xs0 a1 W hz0 hr0 (range_bytes hb0) hn0 hc0).mono fun e W' ⟨he, hb⟩ => ⟨_, he, hpost W' hb⟩

/-- The statement. -/
theorem proved : Rows.ColourTurnsSaid :=
  OpenClaim.holds_of_wide 3 Try.f3 rfl rfl rfl rfl rfl rfl rfl ⟨rfl, rfl, rfl, rfl, rfl⟩ rfl rfl rfl rfl rfl (by kernel_rfl) Try.func3 (by kernel_rfl)
    (of_decide_eq_true (by kernel_rfl)) (by unfold Func.isWrapper; first | (rw [if_pos (by decide +kernel)]; kernel_rfl) | (rw [if_neg (by decide +kernel)]; exact ⟨rfl, rfl⟩))
    (fun os started H enc _ => lifted os started H enc)
#print axioms proved

end Go.Proofs.Ytcogdehpodfkpaa.colourTurns
