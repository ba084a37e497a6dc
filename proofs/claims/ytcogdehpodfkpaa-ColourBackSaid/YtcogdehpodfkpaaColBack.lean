/- ColourBack: any bytes, turned by their green and back, and their columns apart and together, in both orders, are as they were. -/
import Derived.Test.YtcogdehpodfkpaaColCa
import Derived.Test.YtcogdehpodfkpaaHelpStr
import Derived.Test.YtcogdehpodfkpaaArgs
namespace Go.Proofs.Ytcogdehpodfkpaa.colourBack
open Go.ChangeShapes Go.WideShapes Go.ChangeAt Go.RowKit

attribute [local go_sem ↓] Go.wp_at_zero Go.wp_at_succ

set_option maxRecDepth 100000 in
set_option maxHeartbeats 6400000 in
theorem walk (ok : ColourOK) (A : Option Addr) (n c : Nat) (xs : List Int) (k : Int) (w : World) (_ : A = none → c = 0) (hr : Row w .u8 A n xs) (hb : ∀ x ∈ xs, 0 ≤ x ∧ x < 256) (_ : n ≤ maxLen) (hnc : n ≤ c) :
    Calls Try.prog 4 #[.slice A n c, .int .i64 k] w fun e w' => e = .returned (.bool true) ∧ Below w.heap.size w w' := by
  by_cases hlong : 3000 < n
  · have h1 : 3000 < (n : Int) := by omega
    have HA := Lib.hid (awakeC_any ok w)
    clear hr ok
    go_enter Try.func4, Try.ntmps4
    go_wp2_with fail
    refine HA.out.mono ?_
    rintro e w1 ⟨rfl, hf⟩
    have HF := Lib.hid hf.toBelow
    clear hf HA
    go_wp2_with fail
    go_ret
    exact ⟨rfl, HF.out⟩
  · have h1 : ¬ 3000 < (n : Int) := by omega
    have e1 : trn 1 (trn (-1) xs) = xs := by have := trn_trn (s := -1) hb (.inr rfl); simpa using this
    have e2 : trn (-1) (trn 1 xs) = xs := trn_trn (s := 1) hb (.inl rfl)
    have e3 := tgth_aprt xs (colC k)
    have e4 := aprt_tgth xs (colC k)
    have HE := Lib.hid (And.intro e1 (And.intro e2 (And.intro e3 e4)))
    have HQ : Hid (∀ V, Fresh w V → Row V .u8 A n xs) := Lib.hid fun V hV => hr.fresh hV
    have HO := Lib.hid ok
    have HA := Lib.hid (awakeC_any ok w)
    have HB : Hid (B8 xs ∧ ∀ l : List Int, (l = xs ∨ l = trn (-1) xs ∨ l = trn 1 xs ∨ l = aprt xs (colC k) ∨ l = tgth xs (colC k)) → ∀ x ∈ l, 0 ≤ x ∧ x < 256) := Lib.hid ⟨hb, fun l hl => by
      rcases hl with rfl | rfl | rfl | rfl | rfl
      · exact hb
      · exact trn_byte hb
      · exact trn_byte hb
      · exact aprt_byte hb _
      · exact tgth_byte hb _⟩
    clear hr hb ok e1 e2 e3 e4
    go_enter Try.func4, Try.ntmps4
    go_wp2_with fail
    refine HA.out.mono ?_
    rintro e w2 ⟨rfl, hf2⟩
    have HF2 := Lib.hid hf2
    clear hf2 HA
    have HC2 := Lib.hid (HO.out.turnT c (HQ.out w2 HF2.out) HB.out.1 (by omega) hnc)
    go_wp2_with fail
    refine HC2.out.mono ?_
    rintro e w3 ⟨B2, d2, rfl, hr2, hd2, hf2⟩
    have HF3 := Lib.hid (Fresh.two HF2.out hf2)
    have HR2 : Hid (∀ V, Fresh w3 V → Row V .u8 B2 n (trn (-1) xs)) := Lib.hid fun V hV => hr2.fresh hV
    have HS2 := Lib.hid hf2
    clear hr2 hf2 HC2
    have HC3 := Lib.hid (show Calls _ _ _ w3 (fun e w' => Told8 w3 w' e n xs) from by have h := HO.out.backT d2 (HR2.out w3 (Kept.refl _ _)) (HB.out.2 _ (.inr (.inl rfl))) (by omega) hd2; rw [HE.out.1] at h; exact h)
    go_wp2_with fail
    refine HC3.out.mono ?_
    rintro e w4 ⟨B3, d3, rfl, hr3, hd3, hf3⟩
    have HF4 := Lib.hid (Fresh.two HF3.out hf3)
    have HR3 : Hid (∀ V, Fresh w4 V → Row V .u8 B3 n (xs)) := Lib.hid fun V hV => hr3.fresh hV
    have HS3 := Lib.hid hf3
    clear hr3 hf3 HC3
    have HC4 := hBytes_any B3 A n n d3 c (xs) (xs) w4 (HR3.out w4 (Kept.refl _ _)) (HQ.out w4 HF4.out) (HB.out.2 _ (by first | exact .inl rfl | exact .inr (.inl rfl) | exact .inr (.inr (.inl rfl)) | exact .inr (.inr (.inr (.inl rfl))) | exact .inr (.inr (.inr (.inr rfl))))) (HB.out.2 _ (by first | exact .inl rfl | exact .inr (.inl rfl) | exact .inr (.inr (.inl rfl)) | exact .inr (.inr (.inr (.inl rfl))) | exact .inr (.inr (.inr (.inr rfl)))))
    rw [show decide ((xs) = (xs)) = true from by simp] at HC4
    have HC4 := Lib.hid HC4
    go_wp2_with fail
    refine HC4.out.mono ?_
    rintro e wx ⟨rfl, rfl⟩
    clear HC4
    clear HR2 HR3 HS2 HS3 HF2 HF3
    have HC4 := Lib.hid (HO.out.backT c (HQ.out w4 HF4.out) HB.out.1 (by omega) hnc)
    go_wp2_with fail
    refine HC4.out.mono ?_
    rintro e w5 ⟨B4, d4, rfl, hr4, hd4, hf4⟩
    have HF5 := Lib.hid (Fresh.two HF4.out hf4)
    have HR4 : Hid (∀ V, Fresh w5 V → Row V .u8 B4 n (trn 1 xs)) := Lib.hid fun V hV => hr4.fresh hV
    have HS4 := Lib.hid hf4
    clear hr4 hf4 HC4
    have HC5 := Lib.hid (show Calls _ _ _ w5 (fun e w' => Told8 w5 w' e n xs) from by have h := HO.out.turnT d4 (HR4.out w5 (Kept.refl _ _)) (HB.out.2 _ (.inr (.inr (.inl rfl)))) (by omega) hd4; rw [HE.out.2.1] at h; exact h)
    go_wp2_with fail
    refine HC5.out.mono ?_
    rintro e w6 ⟨B5, d5, rfl, hr5, hd5, hf5⟩
    have HF6 := Lib.hid (Fresh.two HF5.out hf5)
    have HR5 : Hid (∀ V, Fresh w6 V → Row V .u8 B5 n (xs)) := Lib.hid fun V hV => hr5.fresh hV
    have HS5 := Lib.hid hf5
    clear hr5 hf5 HC5
    have HC6 := hBytes_any B5 A n n d5 c (xs) (xs) w6 (HR5.out w6 (Kept.refl _ _)) (HQ.out w6 HF6.out) (HB.out.2 _ (by first | exact .inl rfl | exact .inr (.inl rfl) | exact .inr (.inr (.inl rfl)) | exact .inr (.inr (.inr (.inl rfl))) | exact .inr (.inr (.inr (.inr rfl))))) (HB.out.2 _ (by first | exact .inl rfl | exact .inr (.inl rfl) | exact .inr (.inr (.inl rfl)) | exact .inr (.inr (.inr (.inl rfl))) | exact .inr (.inr (.inr (.inr rfl)))))
    rw [show decide ((xs) = (xs)) = true from by simp] at HC6
    have HC6 := Lib.hid HC6
    go_wp2_with fail
    refine HC6.out.mono ?_
    rintro e wx ⟨rfl, rfl⟩
    clear HC6
    clear HR4 HR5 HS4 HS5 HF4 HF5
    have HC6 := Lib.hid (HO.out.apartT c k (HQ.out w6 HF6.out) HB.out.1 (by omega) hnc)
    go_wp2_with fail
    refine HC6.out.mono ?_
    rintro e w7 ⟨B6, d6, rfl, hr6, hd6, hf6⟩
    have HF7 := Lib.hid (Fresh.two HF6.out hf6)
    have HR6 : Hid (∀ V, Fresh w7 V → Row V .u8 B6 n (aprt xs (colC k))) := Lib.hid fun V hV => hr6.fresh hV
    have HS6 := Lib.hid hf6
    clear hr6 hf6 HC6
    have HC7 := Lib.hid (show Calls _ _ _ w7 (fun e w' => Told8 w7 w' e n xs) from by have h := HO.out.togetherT d6 k (HR6.out w7 (Kept.refl _ _)) (HB.out.2 _ (.inr (.inr (.inr (.inl rfl))))) (by omega) hd6; rw [HE.out.2.2.1] at h; exact h)
    go_wp2_with fail
    refine HC7.out.mono ?_
    rintro e w8 ⟨B7, d7, rfl, hr7, hd7, hf7⟩
    have HF8 := Lib.hid (Fresh.two HF7.out hf7)
    have HR7 : Hid (∀ V, Fresh w8 V → Row V .u8 B7 n (xs)) := Lib.hid fun V hV => hr7.fresh hV
    have HS7 := Lib.hid hf7
    clear hr7 hf7 HC7
    have HC8 := hBytes_any B7 A n n d7 c (xs) (xs) w8 (HR7.out w8 (Kept.refl _ _)) (HQ.out w8 HF8.out) (HB.out.2 _ (by first | exact .inl rfl | exact .inr (.inl rfl) | exact .inr (.inr (.inl rfl)) | exact .inr (.inr (.inr (.inl rfl))) | exact .inr (.inr (.inr (.inr rfl))))) (HB.out.2 _ (by first | exact .inl rfl | exact .inr (.inl rfl) | exact .inr (.inr (.inl rfl)) | exact .inr (.inr (.inr (.inl rfl))) | exact .inr (.inr (.inr (.inr rfl)))))
    rw [show decide ((xs) = (xs)) = true from by simp] at HC8
    have HC8 := Lib.hid HC8
    go_wp2_with fail
    refine HC8.out.mono ?_
    rintro e wx ⟨rfl, rfl⟩
    clear HC8
    clear HR6 HR7 HS6 HS7 HF6 HF7
    have HC8 := Lib.hid (HO.out.togetherT c k (HQ.out w8 HF8.out) HB.out.1 (by omega) hnc)
    go_wp2_with fail
    refine HC8.out.mono ?_
    rintro e w9 ⟨B8, d8, rfl, hr8, hd8, hf8⟩
    have HF9 := Lib.hid (Fresh.two HF8.out hf8)
    have HR8 : Hid (∀ V, Fresh w9 V → Row V .u8 B8 n (tgth xs (colC k))) := Lib.hid fun V hV => hr8.fresh hV
    have HS8 := Lib.hid hf8
    clear hr8 hf8 HC8
    have HC9 := Lib.hid (show Calls _ _ _ w9 (fun e w' => Told8 w9 w' e n xs) from by have h := HO.out.apartT d8 k (HR8.out w9 (Kept.refl _ _)) (HB.out.2 _ (.inr (.inr (.inr (.inr rfl))))) (by omega) hd8; rw [HE.out.2.2.2] at h; exact h)
    go_wp2_with fail
    refine HC9.out.mono ?_
    rintro e w10 ⟨B9, d9, rfl, hr9, hd9, hf9⟩
    have HF10 := Lib.hid (Fresh.two HF9.out hf9)
    have HR9 : Hid (∀ V, Fresh w10 V → Row V .u8 B9 n (xs)) := Lib.hid fun V hV => hr9.fresh hV
    have HS9 := Lib.hid hf9
    clear hr9 hf9 HC9
    have HC10 := hBytes_any B9 A n n d9 c (xs) (xs) w10 (HR9.out w10 (Kept.refl _ _)) (HQ.out w10 HF10.out) (HB.out.2 _ (by first | exact .inl rfl | exact .inr (.inl rfl) | exact .inr (.inr (.inl rfl)) | exact .inr (.inr (.inr (.inl rfl))) | exact .inr (.inr (.inr (.inr rfl))))) (HB.out.2 _ (by first | exact .inl rfl | exact .inr (.inl rfl) | exact .inr (.inr (.inl rfl)) | exact .inr (.inr (.inr (.inl rfl))) | exact .inr (.inr (.inr (.inr rfl)))))
    rw [show decide ((xs) = (xs)) = true from by simp] at HC10
    have HC10 := Lib.hid HC10
    go_wp2_with fail
    refine HC10.out.mono ?_
    rintro e wx ⟨rfl, rfl⟩
    clear HC10
    clear HR8 HR9 HS8 HS9 HF8 HF9
    have HL := Lib.hid HF10.out.toBelow
    clear HF10
    go_wp2_with fail
    go_ret
    exact ⟨rfl, HL.out⟩

set_option maxRecDepth 100000 in
theorem lifted (os : Os) (started : os.Started) (H : Type) (enc : TypeId × Value → H) :
    ReturnsInHanded {} Try.checked os 4 .any (Rows.colourBackSpec.pre6 enc Try.prog Try.f4 Rows.colourBackRow.domain false) (Rows.colourBackSpec.post enc Try.prog Try.f4 false true false false) := by
  refine returnsInHanded_of_change (C := Try.checked) Try.own started (by kernel_rfl) Try.func4
    (ChangeSpec.witness6 (enc := enc) (C := Try.checked) false ⟨#[], #[.slice none 0 0, .int .i64 0], []⟩ 8 (by kernel_rfl) (by kernel_rfl) (by kernel_rfl) (by kernel_rfl)) ?_
  intro W base args ds gs before hval0 hW hcnd _
  have hval : ∀ (j : Nat) t v, Try.f4.params[j]? = some t → args[j]? = some v → Value.okWide Try.prog W .any base t v := hval0
  have hpost : ∀ W', Below W.heap.size W W' → Rows.colourBackSpec.post enc Try.prog Try.f4 false true false false W args (.bool true) W' := fun W' hb =>
    law_post (by kernel_rfl) Try.underlying4 (by kernel_rfl) rfl (fun ds hl => match ds, hl with | [d1, d2], _ => ⟨rfl, rfl, rfl⟩) hW hb
  obtain ⟨p, q, hA0, hV, rfl, hfz, hnd⟩ := hW
  have hA : DataW.TrodAll enc Try.prog W 0 (fun _ => true) true Try.f4.params.toList args.toList ds p := hA0
  rw [Try.params4] at hA hval
  obtain ⟨v0, vs0, d0, ds0, p0, q0, hargs, rfl, rfl, h0, r0⟩ := trodAll_cons hA
  obtain ⟨v1, vs1, d1, ds1, p1, q1, rfl, rfl, rfl, h1, r1⟩ := trodAll_cons r0
  obtain ⟨rfl, rfl, rfl⟩ := trodAll_nil r1
  obtain rfl : args = #[v0, v1] := by cases args; simp_all
  obtain ⟨A0, n0, c0, xs0, rfl, hz0, hr0, hb0, hn0, hc0⟩ := open_rowc Try.underlying22 Try.underlying5 (by kernel_rfl) (hval 0 22 v0 rfl rfl) h0
  obtain ⟨a1, rfl, rfl, rfl, w1⟩ := open_int Try.underlying3 (hval 1 3 v1 rfl rfl) h1
  refine (walk colourOK A0 n0 c0 xs0 a1 W hz0 hr0 (range_bytes hb0) hn0 hc0).mono fun e W' ⟨he, hb⟩ => ⟨_, he, hpost W' hb⟩

/-- The statement. -/
theorem proved : Rows.ColourBackSaid :=
  OpenClaim.holds_of_wide 4 Try.f4 rfl rfl rfl rfl rfl rfl rfl ⟨rfl, rfl, rfl, rfl, rfl⟩ rfl rfl rfl rfl rfl (by kernel_rfl) Try.func4 (by kernel_rfl)
    (of_decide_eq_true (by kernel_rfl)) (by unfold Func.isWrapper; first | (rw [if_pos (by decide +kernel)]; kernel_rfl) | (rw [if_neg (by decide +kernel)]; exact ⟨rfl, rfl⟩))
    (fun os started H enc _ => lifted os started H enc)
#print axioms proved

end Go.Proofs.Ytcogdehpodfkpaa.colourBack
