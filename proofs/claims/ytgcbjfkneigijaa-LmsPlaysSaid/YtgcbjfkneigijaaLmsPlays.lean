/- LmsPlays: whatever numbers a filter learns, each guess is what the document says. For all numbers. -/
import Derived.Test.YtgcbjfkneigijaaLmsC
import Derived.Test.YtgcbjfkneigijaaArgs
namespace Go.Proofs.Ytgcbjfkneigijaa.lmsPlays
open Go.ChangeShapes Go.WideShapes Go.ChangeAt Go.RowKit

attribute [local go_sem ↓] Go.wp_at_zero Go.wp_at_succ

/-- Both filters behind the first j numbers. -/
structure Duo (F : World → Nat → List Int → Prop) (w wr : World) (g q : Nat) (S : List Int) : Prop where
  code : F wr g S
  doc : Fil wr q 28 S
  ne_ : g ≠ q
  gn : w.heap.size ≤ g
  qn : w.heap.size ≤ q
  fr : Fresh w wr
theorem Duo.fresh {F : World → Nat → List Int → Prop} {w wr w' : World} {g q : Nat} {S : List Int} (ok : LmsOK F) (h : Duo F w wr g q S) (hf : Fresh wr w') : Duo F w w' g q S :=
  ⟨ok.kept h.code hf id, h.doc.kept hf id, h.ne_, h.gn, h.qn, h.fr.two hf⟩

set_option maxRecDepth 100000 in
set_option maxHeartbeats 1600000 in
theorem walk {F : World → Nat → List Int → Prop} (ok : LmsOK F) (A : Option Addr) (n c : Nat) (l : List Int) (w : World) (_ : A = none → c = 0) (hr : Row w .i32 A n l) (hb : I32 l) (_ : n ≤ maxLen) (_ : n ≤ c) :
    Calls Try.prog 3 #[.slice A n c] w fun e w' => e = .returned (.bool true) ∧ Below w.heap.size w w' := by
  have HO := Lib.hid ok
  have HQ : Hid (∀ V, Fresh w V → Row V .i32 A n l) := Lib.hid fun V hV => hr.fresh hV
  have hlen := hr.len
  have HB := Lib.hid hb
  clear ok hr hb
  go_enter Try.func3, Try.ntmps3
  go_wp2_with fail
  refine (HO.out.new w).mono ?_
  rintro e w1 ⟨g, rfl, hF, hgn, hf1⟩
  have hgl := HO.out.lt hF
  obtain ⟨w2, hw2⟩ : ∃ w2, w2 = w1.alloc (.cells (ivs .i32 (List.replicate 16 0)).toArray 28) := ⟨_, rfl⟩
  have HD : Hid (Duo F w w2 g w1.heap.size (stN l 0)) := by
    rw [hw2]
    have hk := (Kept.refl (fun _ => False) w1).alloc (.cells (ivs .i32 (List.replicate 16 0)).toArray 28)
    exact Lib.hid ⟨HO.out.kept hF hk id, ⟨Blk.new _ _ _, rfl, stN_32 HB.out 0⟩, by omega, hgn, hf1.size, hf1.two hk⟩
  have hw2' : w1.alloc (.cells #[.int .i32 0, .int .i32 0, .int .i32 0, .int .i32 0, .int .i32 0, .int .i32 0, .int .i32 0, .int .i32 0, .int .i32 0, .int .i32 0, .int .i32 0, .int .i32 0, .int .i32 0, .int .i32 0, .int .i32 0, .int .i32 0] 28) = w2 := hw2.symm
  have HA := Lib.hid (awakeL_any HO.out w2)
  clear hF hgn hf1 hgl hw2
  go_wp2_with fail
  generalize w1.heap.size = q at *
  refine HA.out.mono ?_
  rintro e w3 ⟨rfl, hf3⟩
  have HD3 := Lib.hid (HD.out.fresh HO.out hf3)
  clear hf3 HA HD hw2'
  go_wp2_with fail
  go_loopw [5] (fun i wr => ∃ j : Nat, j ≤ n ∧ j ≤ 1000 ∧ i = .int .i64 j ∧ Duo F w wr g q (stN l j)) (fun i _ => (n - intOf i).toNat)
  case atStart => exact ⟨0, by omega, by omega, rfl, HD3.out⟩
  case round =>
    obtain ⟨j, hj, hj1, rfl, hd⟩ := hrel
    clear HD3
    have HD := Lib.hid hd
    clear hd
    have HSt : Hid (stN l (j + 1) = learnS (stN l j) (l.getD j 0)) := Lib.hid rfl
    have hv := HB.out.at_ j
    have HWb : Hid (WB (stN l j)) := Lib.hid (stN_WB l (by omega))
    have HGc : Hid (∀ V, F V g (stN l j) → Calls Try.prog 9 #[.pointer (some ⟨g, 0, none⟩)] V fun e w' => e = .returned (.int .i32 (gl (stN l j))) ∧ Fresh V w') := Lib.hid fun V hV => HO.out.guess g _ V hV
    have HGq : Hid (∀ V, Fil V q 28 (stN l j) → Calls Try.prog 10 #[.pointer (some ⟨q, 0, none⟩)] V fun e w' => e = .returned (.int .i32 (gl (stN l j))) ∧ Fresh V w') := Lib.hid fun V hV => (qlGuess_any q _ V hV).mono fun e w' ⟨h1, k, h2⟩ => ⟨h1, by rw [h2]; exact (Kept.refl _ _).drewN k⟩
    have hgne : (gl (stN l j) != gl (stN l j)) = false := by simp
    have hgeq : (gl (stN l j) == gl (stN l j)) = true := by simp
    generalize gl (stN l j) = gu at *
    by_cases hgo : j < n ∧ j < 1000
    · obtain ⟨g1, g2⟩ := hgo
      have e1 : (j : Int) < (n : Int) := by omega
      have e2 : (j : Int) < 1000 := by omega
      have HC1 := Lib.hid (HGc.out wr HD.out.code)
      obtain ⟨bb, ob, eA, _, _⟩ := (HQ.out wr HD.out.fr).at_ j g1
      subst eA
      have HCell : Hid (∀ V, Fresh w V → V.cell? ⟨bb, ob + j, none⟩ = some (.int .i32 (l.getD j 0))) := Lib.hid fun V hV => by
        obtain ⟨b', o', e', _, hc⟩ := (HQ.out V hV).at_ j g1
        injection e' with e'
        injection e' with e1' e2'
        subst e1' e2'
        exact hc
      generalize l.getD j 0 = v at *
      go_wp2_with fail
      refine HC1.out.mono ?_
      rintro e w4 ⟨rfl, hf4⟩
      have HD4 := Lib.hid (HD.out.fresh HO.out hf4)
      have HC2 := Lib.hid (HGq.out w4 HD4.out.doc)
      clear hf4 HC1 HD
      go_wp2_with fail
      refine HC2.out.mono ?_
      rintro e w5 ⟨rfl, hf5⟩
      have HD5 := Lib.hid (HD4.out.fresh HO.out hf5)
      have HC3 := Lib.hid (HGc.out w5 HD5.out.code)
      clear hf5 HC2 HD4
      go_wp2_with fail
      refine HC3.out.mono ?_
      rintro e w6 ⟨rfl, hf6⟩
      have HD6 := Lib.hid (HD5.out.fresh HO.out hf6)
      have HC4 := Lib.hid (HGq.out w6 HD6.out.doc)
      clear hf6 HC3 HD5
      go_wp2_with fail
      refine HC4.out.mono ?_
      rintro e w7 ⟨rfl, hf7⟩
      have HD7 := Lib.hid (HD6.out.fresh HO.out hf7)
      have hc := HCell.out w7 HD7.out.fr
      clear hf7 HC4 HD6
      have HC5 := Lib.hid (HO.out.learn g (stN l j) v w7 HD7.out.code HWb.out hv)
      go_wp2_with fail
      refine HC5.out.mono ?_
      rintro e w8 ⟨rfl, hF8, hk8⟩
      have hq8 := HD7.out.doc.kept hk8 (fun e => HD7.out.ne_ e.symm)
      have hfr8 : Fresh w w8 := HD7.out.fr.trans hk8 fun i hi e => by have := HD7.out.gn; omega
      have HC6 := Lib.hid (qlLearn_any q (stN l j) v w8 hq8 hv)
      have HX := Lib.hid (And.intro hF8 (And.intro hfr8 (And.intro HD7.out.ne_ (And.intro HD7.out.gn HD7.out.qn))))
      have hc8 := HCell.out w8 hfr8
      clear hc HC5 HD7 hq8 hfr8 hk8 hF8 HGc HGq
      go_wp2_with fail
      refine HC6.out.mono ?_
      rintro e w9 ⟨rfl, h9⟩
      have HD9 : Hid (Duo F w w9 g q (stN l (j + 1))) := by
        obtain ⟨hF8, hfr8, hne, hg, hq⟩ := HX.out
        rw [HSt.out]
        exact Lib.hid ⟨HO.out.kept hF8 h9.2 hne, h9.1, hne, hg, hq, hfr8.trans h9.2 fun i hi e => by omega⟩
      clear h9 HX HC6 hc8
      go_wp2_with fail
      go_roundw
      case rel => exact ⟨j + 1, by omega, by omega, by go_num, HD9.out⟩
      case measure => simp [intOf]; omega
    · have HC1 := Lib.hid (HGc.out wr HD.out.code)
      rcases Nat.lt_or_ge j n with g1 | g1
      focus
        have e1 : (j : Int) < (n : Int) := by omega
        have e2 : ¬ (j : Int) < 1000 := by omega
        go_wp2_with fail
      rotate_left
      focus
        have e1 : ¬ (j : Int) < (n : Int) := by omega
        go_wp2_with fail
      all_goals
        refine HC1.out.mono ?_
        rintro e w4 ⟨rfl, hf4⟩
        have HD4 := Lib.hid (HD.out.fresh HO.out hf4)
        have HC2 := Lib.hid (HGq.out w4 HD4.out.doc)
        clear hf4 HC1 HD
        go_wp2_with fail
        refine HC2.out.mono ?_
        rintro e w5 ⟨rfl, hf5⟩
        have HF := Lib.hid (Fresh.two HD4.out.fr hf5).toBelow
        clear hf5 HC2 HD4
        go_wp2_with fail
        go_ret
        exact ⟨rfl, HF.out⟩

set_option maxRecDepth 100000 in
theorem lifted (os : Os) (started : os.Started) (H : Type) (enc : TypeId × Value → H) :
    ReturnsInHanded {} Try.checked os 3 .any (Rows.lmsPlaysSpec.pre6 enc Try.prog Try.f3 Rows.lmsPlaysRow.domain false) (Rows.lmsPlaysSpec.post enc Try.prog Try.f3 false true false false) := by
  refine returnsInHanded_of_change (C := Try.checked) Try.own started (by kernel_rfl) Try.func3
    (ChangeSpec.witness6 (enc := enc) (C := Try.checked) false ⟨#[], #[.slice none 0 0], []⟩ 8 (by kernel_rfl) (by kernel_rfl) (by kernel_rfl) (by kernel_rfl)) ?_
  intro W base args ds gs before hval0 hW hcnd _
  have hval : ∀ (j : Nat) t v, Try.f3.params[j]? = some t → args[j]? = some v → Value.okWide Try.prog W .any base t v := hval0
  have hpost : ∀ W', Below W.heap.size W W' → Rows.lmsPlaysSpec.post enc Try.prog Try.f3 false true false false W args (.bool true) W' := fun W' hb =>
    law_post (by kernel_rfl) Try.underlying4 (by kernel_rfl) rfl (fun ds hl => match ds, hl with | [d1], _ => ⟨rfl, rfl, rfl⟩) hW hb
  obtain ⟨p, q, hA0, hV, rfl, hfz, hnd⟩ := hW
  have hA : DataW.TrodAll enc Try.prog W 0 (fun _ => true) true Try.f3.params.toList args.toList ds p := hA0
  rw [Try.params3] at hA hval
  obtain ⟨v0, vs0, d0, ds0, p0, q0, hargs, rfl, rfl, h0, r0⟩ := trodAll_cons hA
  obtain ⟨rfl, rfl, rfl⟩ := trodAll_nil r0
  obtain rfl : args = #[v0] := by cases args; simp_all
  obtain ⟨A0, n0, c0, xs0, rfl, hz0, hr0, hb0, hn0, hc0⟩ := open_rowc Try.underlying22 Try.underlying21 (by kernel_rfl) (hval 0 22 v0 rfl rfl) h0
  refine (walk lmsOK A0 n0 c0 xs0 W hz0 hr0 (range_ints32 hb0) hn0 hc0).mono fun e W' ⟨he, hb⟩ => ⟨_, he, hpost W' hb⟩

/-- The statement. -/
theorem proved : Rows.LmsPlaysSaid :=
  OpenClaim.holds_of_wide 3 Try.f3 rfl rfl rfl rfl rfl rfl rfl ⟨rfl, rfl, rfl, rfl, rfl⟩ rfl rfl rfl rfl rfl (by kernel_rfl) Try.func3 (by kernel_rfl)
    (of_decide_eq_true (by kernel_rfl)) (by unfold Func.isWrapper; first | (rw [if_pos (by decide +kernel)]; kernel_rfl) | (rw [if_neg (by decide +kernel)]; exact ⟨rfl, rfl⟩))
    (fun os started H enc _ => lifted os started H enc)
#print axioms proved

end Go.Proofs.Ytgcbjfkneigijaa.lmsPlays
