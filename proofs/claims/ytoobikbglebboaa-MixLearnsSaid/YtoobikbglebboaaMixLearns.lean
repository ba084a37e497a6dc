/- MixLearns: learnt again, with the same inputs, what is told moves towards the bit, or stays; for every list of inputs, either bit and every number of learnings. No conditions. -/
import Derived.Test.YtoobikbglebboaaMixNew
import Derived.Test.YtoobikbglebboaaLaw
namespace Go.Proofs.Ytoobikbglebboaa.mixLearns
open Go.ChangeShapes Go.WideShapes Go.ChangeAt Go.RowKit

attribute [local go_sem ↓] Go.wp_at_zero Go.wp_at_succ

theorem some_n (p : Int) : ∃ k : Nat, (IntKind.u64.wrap p).tmod 60 = (k : Int) ∧ k < 60 := by
  have h : 0 ≤ IntKind.u64.wrap p := by rw [IntKind.wrap_u64]; omega
  refine ⟨((IntKind.u64.wrap p).tmod 60).toNat, ?_, ?_⟩
  all_goals
    rw [Int.tmod_eq_emod_of_nonneg h]; omega

theorem tl_learnt (I : Nat → Int) (W : Nat → Nat → Int) (s : Nat) (e : Int) : tl I (learnt W s I e s) = tl I fun k => lw (W s k) (I k) e := by
  unfold tl
  rw [dotTo_congr (I := I) (J := I) (W := learnt W s I e s) (V := fun k => lw (W s k) (I k) e) 4 (fun i hi => ⟨rfl, by unfold learnt upTo; rw [if_pos ⟨rfl, hi⟩]⟩)]

set_option maxHeartbeats 1600000 in
theorem walk (A : Option Addr) (n c : Nat) (xs : List Int) (one : Bool) (p : Int) (w : World) (hr : Row w .i64 A n xs) (hn : n ≤ maxLen) :
    Calls Try.prog 6 #[.slice A n c, .bool one, .int .i64 p] w fun e w' => e = .returned (.bool true) ∧ Below w.heap.size w w' := by
  unfold maxLen at hn
  have HA : Hid (∀ b o, A = some ⟨b, o, none⟩ → 0 < n → b < w.heap.size) := Lib.hid fun b o e h => by
    obtain ⟨b', o', e', hb, _⟩ := hr.at_ 0 h
    rw [e] at e'; injection e' with e'; injection e' with e'; subst e'; exact hb
  have HR := Lib.hid hr
  clear hr
  obtain ⟨m, hm, hm1⟩ := some_n p
  go_enter Try.func6, Try.ntmps6
  go_wp2_with fail
  refine (mNew_any _ _).mono ?_
  rintro e w1 ⟨g, h, rfl, hmx, hg, hh, hf⟩
  rw [show ns 1 = 1 from rfl] at hmx
  have HM := Lib.hid hmx
  have HF := Lib.hid hf
  clear hmx hf
  go_wp2_with fail
  refine (awake_any _).mono ?_
  rintro e w2 ⟨rfl, rfl⟩
  by_cases hlt : 20 < n
  · have hd : (20 : Int) < (n : Int) := by omega
    go_wp2_with fail
    refine (awake_any _).mono ?_
    rintro e w3 ⟨rfl, rfl⟩
    go_wp2_with fail
    go_ret
    exact ⟨rfl, HF.out.toBelow⟩
  · have hd : ¬ (20 : Int) < (n : Int) := by omega
    have HX : Hid (∀ W s I t V, Mxr V g h 1 W s I t → Fresh w V → Calls Try.prog 16 #[.pointer (some ⟨g, 0, none⟩), .int .i64 0, .slice A n c] V fun e w' => e = .returned (.int .i64 (tl (inp xs) (W 0))) ∧ Mxr w' g h 1 W 0 (inp xs) (tl (inp xs) (W 0)) ∧ Fresh w w') := Lib.hid fun W s I t V hm hf =>
      (mMix_any g h 1 W s I t 0 A n c xs V hm (HR.out.kept hf (fun _ _ _ _ => id)) (fun b o e h0 => by have := HA.out b o e h0; omega)).mono fun e w' hp => ⟨hp.1, hp.2.1, hf.trans hp.2.2 (fun i hi e => by subst e; omega)⟩
    have HL : Hid (∀ W I t V, Mxr V g h 1 W 0 I t → 1 ≤ t → Fresh w V → Calls Try.prog 19 #[.pointer (some ⟨g, 0, none⟩), .int .i64 (if one then 1 else 0)] V fun e w' => e = .returned (.tuple #[]) ∧ Mxr w' g h 1 (learnt W 0 I (er one t)) 0 I t ∧ Fresh w w') := Lib.hid fun W I t V hm ht hf =>
      (mLearn_any g h 1 W 0 I t (if one then 1 else 0) V hm ht).mono fun e w' hp => ⟨hp.1, by have := hp.2.1; cases one <;> exact this, hf.trans hp.2.2 (fun i hi e => by subst e; omega)⟩
    clear HA HR
    have m60 : (m : Int) < 60 := by omega
    cases one
    all_goals
      go_wp2_with fail
      refine (HX.out _ _ _ _ _ HM.out HF.out).mono ?_
      rintro e w3 ⟨rfl, hm3, hf3⟩
      have H3 := Lib.hid (And.intro hm3 hf3)
      clear hm3 hf3
      go_wp2_with fail
      go_loopw [9, 10] (fun u i wr => ∃ (k : Nat) (W : Nat → Nat → Int) (t : Int), k ≤ m ∧ i = .int .i64 k ∧ u = .int .i64 t ∧ Mxr wr g h 1 W 0 (inp xs) t ∧ t = tl (inp xs) (W 0) ∧ Fresh w wr) (fun _ i _ => (m - intOf i).toNat)
      case atStart => exact ⟨0, _, _, by omega, rfl, rfl, H3.out.1, rfl, H3.out.2⟩
      case round =>
        obtain ⟨k, W, t, hk, rfl, rfl, hmx, htl, hfr⟩ := hrel
        clear H3
        have Htl := Lib.hid htl
        have hb1 : 1 ≤ t := by rw [htl]; exact (tl_bd _ _).1
        have hb2 := hmx.tb.2
        have HMX := Lib.hid (And.intro hmx hfr)
        clear hmx htl hfr
        by_cases hlt2 : k < m
        · go_wp2_with fail
          refine (HL.out _ _ _ _ HMX.out.1 hb1 HMX.out.2).mono ?_
          rintro e w5 ⟨rfl, hm5, hf5⟩
          have H5 := Lib.hid (And.intro hm5 hf5)
          clear hm5 hf5
          go_wp2_with fail
          refine (HX.out _ _ _ _ _ H5.out.1 H5.out.2).mono ?_
          rw [tl_learnt]
          rintro e w6 ⟨rfl, hm6, hf6⟩
          first
            | have hmv : tl (inp xs) (fun j => lw (W 0 j) (inp xs j) (er true t)) ≥ t := by
                have := tl_up (I := inp xs) (W := W 0) (t := t) ⟨hb1, hb2⟩ (HMX.out.1.bd 0)
                rw [← Htl.out] at this
                exact this
              have Hq : Hid (tl (inp xs) (fun j => lw (W 0 j) (inp xs j) (er true t)) = tl (inp xs) (learnt W 0 (inp xs) (er true t) 0)) := Lib.hid (tl_learnt _ _ _ _).symm
              have H6 : Hid (Mxr w6 g h 1 (learnt W 0 (inp xs) (er true t)) 0 (inp xs) (tl (inp xs) fun j => lw (W 0 j) (inp xs j) (er true t)) ∧ Fresh w w6) := Lib.hid (And.intro hm6 hf6)
              clear hm6 hf6
              generalize tl (inp xs) (fun j => lw (W 0 j) (inp xs j) (er true t)) = q at *
              have hdd : decide (q < t) = false := by simp; omega
              go_wp2_with fail
              go_roundw
              case rel => exact ⟨k + 1, _, q, by omega, by go_num, rfl, H6.out.1, Hq.out, H6.out.2⟩
              case measure => simp [intOf]; omega
            | have hmv : tl (inp xs) (fun j => lw (W 0 j) (inp xs j) (er false t)) ≤ t := by
                have := tl_down (I := inp xs) (W := W 0) (t := t) ⟨hb1, hb2⟩ (HMX.out.1.bd 0)
                rw [← Htl.out] at this
                exact this
              have Hq : Hid (tl (inp xs) (fun j => lw (W 0 j) (inp xs j) (er false t)) = tl (inp xs) (learnt W 0 (inp xs) (er false t) 0)) := Lib.hid (tl_learnt _ _ _ _).symm
              have H6 : Hid (Mxr w6 g h 1 (learnt W 0 (inp xs) (er false t)) 0 (inp xs) (tl (inp xs) fun j => lw (W 0 j) (inp xs j) (er false t)) ∧ Fresh w w6) := Lib.hid (And.intro hm6 hf6)
              clear hm6 hf6
              generalize tl (inp xs) (fun j => lw (W 0 j) (inp xs j) (er false t)) = q at *
              have hdd : decide (t < q) = false := by simp; omega
              go_wp2_with fail
              go_roundw
              case rel => exact ⟨k + 1, _, q, by omega, by go_num, rfl, H6.out.1, Hq.out, H6.out.2⟩
              case measure => simp [intOf]; omega
        · obtain rfl : k = m := by omega
          go_wp2_with fail
          go_ret
          exact ⟨rfl, HMX.out.2.toBelow⟩

set_option maxRecDepth 100000 in
theorem lifted (os : Os) (started : os.Started) (H : Type) (enc : TypeId × Value → H) :
    ReturnsInHanded {} Try.checked os 6 .any (Rows.mixLearnsSpec.pre6 enc Try.prog Try.f6 Rows.mixLearnsRow.domain false) (Rows.mixLearnsSpec.post enc Try.prog Try.f6 false true false false) := by
  refine returnsInHanded_of_change (C := Try.checked) Try.own started (by kernel_rfl) Try.func6
    (ChangeSpec.witness6 (enc := enc) (C := Try.checked) false ⟨#[], #[.slice none 0 0, .bool false, .int .i64 0], []⟩ 8 (by kernel_rfl) (by kernel_rfl) (by kernel_rfl) (by kernel_rfl)) ?_
  intro W base args ds gs before hval0 hW hcnd _
  have hval : ∀ (j : Nat) t v, Try.f6.params[j]? = some t → args[j]? = some v → Value.okWide Try.prog W .any base t v := hval0
  have hpost : ∀ W', Below W.heap.size W W' → Rows.mixLearnsSpec.post enc Try.prog Try.f6 false true false false W args (.bool true) W' := fun W' hb =>
    law_post (by kernel_rfl) Try.underlying4 (by kernel_rfl) rfl (fun ds hl => match ds, hl with | [d1, d2, d3], _ => ⟨rfl, rfl, rfl⟩) hW hb
  obtain ⟨p, q, hA0, hV, rfl, hfz, hnd⟩ := hW
  have hA : DataW.TrodAll enc Try.prog W 0 (fun _ => true) true Try.f6.params.toList args.toList ds p := hA0
  rw [Try.params6] at hA hval
  obtain ⟨v0, vs0, d0, ds0, p0, q0, hargs, rfl, rfl, h0, r0⟩ := trodAll_cons hA
  obtain ⟨v1, vs1, d1, ds1, p1, q1, rfl, rfl, rfl, h1, r1⟩ := trodAll_cons r0
  obtain ⟨v2, vs2, d2, ds2, p2, q2, rfl, rfl, rfl, h2, r2⟩ := trodAll_cons r1
  obtain ⟨rfl, rfl, rfl⟩ := trodAll_nil r2
  obtain rfl : args = #[v0, v1, v2] := by cases args; simp_all
  obtain ⟨A0, n0, c0, xs0, rfl, _, hr0, _, hn0⟩ := open_row Try.underlying32 Try.underlying3 (by kernel_rfl) (hval 0 32 v0 rfl rfl) h0
  obtain ⟨a1, rfl, rfl, rfl⟩ := open_bool Try.underlying4 (hval 1 4 v1 rfl rfl) h1
  obtain ⟨a2, rfl, rfl, rfl, w2⟩ := open_int Try.underlying3 (hval 2 3 v2 rfl rfl) h2
  refine (walk A0 n0 c0 xs0 a1 a2 W hr0 hn0).mono fun e W' ⟨he, hb⟩ => ⟨_, he, hpost W' hb⟩

/-- The statement. -/
theorem proved : Rows.MixLearnsSaid :=
  OpenClaim.holds_of_wide 6 Try.f6 rfl rfl rfl rfl rfl rfl rfl ⟨rfl, rfl, rfl, rfl, rfl⟩ rfl rfl rfl rfl rfl (by kernel_rfl) Try.func6 (by kernel_rfl)
    (of_decide_eq_true (by kernel_rfl)) (by unfold Func.isWrapper; first | (rw [if_pos (by decide +kernel)]; kernel_rfl) | (rw [if_neg (by decide +kernel)]; exact ⟨rfl, rfl⟩))
    (fun os started H enc _ => lifted os started H enc)
#print axioms proved

end Go.Proofs.Ytoobikbglebboaa.mixLearns
