/- LmsBack: what was taken away is restored, and what was restored is taken away again; a beginning of the numbers has a beginning of what is left. Of any numbers. -/
import Derived.Test.YtgcbjfkneigijaaLmsC
import Derived.Test.YtgcbjfkneigijaaHelpInt32
import Derived.Test.YtgcbjfkneigijaaArgs
namespace Go.Proofs.Ytgcbjfkneigijaa.lmsBack
open Go.ChangeShapes Go.WideShapes Go.ChangeAt Go.RowKit

attribute [local go_sem ↓] Go.wp_at_zero Go.wp_at_succ

theorem Row.firstR {w : World} {A : Option Addr} {n : Nat} {xs : List Int} (h : Row w .i32 A n xs) {k : Nat} (hk : k ≤ n) : Row w .i32 A k (xs.take k) := h.take hk
theorem drewn {a b : World} (h : Fresh a b) (n : Nat) : Fresh a (b.drewN n) := h.drewN n

set_option maxRecDepth 100000 in
set_option maxHeartbeats 1600000 in
theorem walk {F : World → Nat → List Int → Prop} (ok : LmsOK F) (A : Option Addr) (n c : Nat) (l : List Int) (m : Int) (w : World) (hz : A = none → c = 0) (hr : Row w .i32 A n l) (hb : I32 l) (_ : n ≤ maxLen) (hnc : n ≤ c) :
    Calls Try.prog 5 #[.slice A n c, .int .i64 m] w fun e w' => e = .returned (.bool true) ∧ Below w.heap.size w w' := by
  by_cases hlong : 3000 < n
  · have h1 : 3000 < (n : Int) := by omega
    have HA := Lib.hid (awakeL_any ok w)
    clear hr ok
    go_enter Try.func5, Try.ntmps5
    go_wp2_with fail
    refine HA.out.mono ?_
    rintro e w1 ⟨rfl, hf⟩
    have HF := Lib.hid hf.toBelow
    clear hf HA
    go_wp2_with fail
    go_ret
    exact ⟨rfl, HF.out⟩
  · have h1 : ¬ 3000 < (n : Int) := by omega
    have hn : n ≤ 1048576 := by omega
    have hlen := hr.len
    have HQ : Hid (∀ V, Fresh w V → Row V .i32 A n l) := Lib.hid fun V hV => hr.fresh hV
    have HO := Lib.hid ok
    obtain ⟨k, hk0, hkk⟩ := u64_mod m ((n : Int) + 1) (by omega)
    have hr1 : 0 ≤ IntKind.u64.wrap m := by rw [IntKind.wrap_u64]; omega
    rw [Int.tmod_eq_emod_of_nonneg hr1] at hkk
    have Hk := Lib.hid hkk
    have hkn : k ≤ n := by omega
    have HC1 := Lib.hid (ok.resid A n c l w hr hb hn)
    clear hr ok hkk
    go_enter Try.func5, Try.ntmps5
    go_wp2_with fail
    refine HC1.out.mono ?_
    rintro e w1 ⟨u, rfl, hu, _, hf1⟩
    obtain ⟨B, cB, rfl, hrB, _⟩ := hu.row
    have hcap := hu.cap
    have hBz : B = none → cB = 0 := by
      rintro rfl
      rcases hu.2 with ⟨h, _⟩ | ⟨g', cap', cur, h, _⟩
      · simp at h; omega
      · simp at h
    have hlx : (lres l).length = n := by rw [lres_length, hlen]
    rw [hlx] at hrB hcap
    rw [hlx]
    have HR := Lib.hid hrB
    have HE := Lib.hid hf1
    clear hu hrB hf1 hlx HC1
    go_wp2_with fail
    rw [Hk.out, IntWalk.wrap64_in (k : Int) (by omega)]
    have hQ1 : Hid (∀ V, Fresh w1 V → Row V .i32 A n l) := Lib.hid fun V hV => HQ.out V (HE.out.two hV)
    have Haw : Hid (∀ V, Fresh w1 V → Calls Try.prog 8 #[] V fun e w' => e = .returned (.bool true) ∧ Fresh w1 w') := Lib.hid fun V hV => (awakeL_any HO.out V).mono fun e w' ⟨h1, h2⟩ => ⟨h1, hV.two h2⟩
    have Hrx : Hid (∀ V, Fresh w1 V → Calls Try.prog 17 #[.slice B n cB] V fun e w' => ∃ B2 c2, e = .returned (.slice B2 n c2) ∧ Row w' .i32 B2 n l ∧ Fresh w1 w') := Lib.hid fun V hV => by
      have := HO.out.rstR cB (HR.out.fresh hV) (lres_32 l) hn
      rw [lrst_lres hb] at this
      exact this.mono fun e w' ⟨B2, c2, h1, h2, h3⟩ => ⟨B2, c2, h1, h2, hV.two h3⟩
    have Hp : Hid (∀ V B2 c2, Row V .i32 B2 n l → Fresh w1 V → Calls Try.prog 14 #[.slice B2 n c2, .slice A n c] V fun e w' => e = .returned (.bool true) ∧ Fresh w1 w') := Lib.hid fun V B2 c2 hV hF => by
      have := hPlainInt32_any B2 A n n c2 c l l V hV (hQ1.out V hF) (by omega) (by omega)
      rw [decide_eq_true rfl] at this
      exact this.mono fun e w' ⟨h1, j, h2⟩ => ⟨h1, by rw [h2]; exact hF.drewN j⟩
    have Hrl : Hid (∀ V, Fresh w1 V → Calls Try.prog 17 #[.slice A n c] V fun e w' => ∃ B2 c2, e = .returned (.slice B2 n c2) ∧ Row w' .i32 B2 n (lrst l) ∧ Fresh w1 w') := Lib.hid fun V hV =>
      (HO.out.rstR c (hQ1.out V hV) hb hn).mono fun e w' ⟨B2, c2, h1, h2, h3⟩ => ⟨B2, c2, h1, h2, hV.two h3⟩
    have Hrr : Hid (∀ V B2 c2, Row V .i32 B2 n (lrst l) → Fresh w1 V → Calls Try.prog 15 #[.slice B2 n c2] V fun e w' => ∃ B3 c3, e = .returned (.slice B3 n c3) ∧ Row w' .i32 B3 n l ∧ Fresh w1 w') := Lib.hid fun V B2 c2 hV hF => by
      have := HO.out.resR c2 hV (lrst_32 l) hn
      rw [lres_lrst hb] at this
      exact this.mono fun e w' ⟨B3, c3, h1, h2, h3⟩ => ⟨B3, c3, h1, h2, hF.two h3⟩
    have Hkk : Hid (∀ V A' c', (A' = A ∨ n = 0) → Fresh w1 V → Calls Try.prog 15 #[.slice A' k c'] V fun e w' => ∃ B2 c2, e = .returned (.slice B2 k c2) ∧ Row w' .i32 B2 k ((lres l).take k) ∧ Fresh w1 w') := Lib.hid fun V A' c' hA hV => by
      have hrow : Row V .i32 A' k (l.take k) := by
        rcases hA with rfl | h0
        · exact (hQ1.out V hV).take hkn
        · obtain rfl : k = 0 := by omega
          exact Row.empty _ _ _
      have := HO.out.resR c' hrow (fun x hx => hb x (List.mem_of_mem_take hx)) (by omega)
      rw [lres_take l (by omega)] at this
      exact this.mono fun e w' ⟨B3, c3, h1, h2, h3⟩ => ⟨B3, c3, h1, h2, hV.two h3⟩
    have Hpk : Hid (∀ V B2 c2 B' c', Row V .i32 B2 k ((lres l).take k) → (B' = B ∨ n = 0) → Fresh w1 V → Calls Try.prog 14 #[.slice B2 k c2, .slice B' k c'] V fun e w' => e = .returned (.bool true) ∧ Fresh w1 w') := Lib.hid fun V B2 c2 B' c' hV hB hF => by
      have hrow : Row V .i32 B' k ((lres l).take k) := by
        rcases hB with rfl | h0
        · exact (HR.out.fresh hF).take hkn
        · obtain rfl : k = 0 := by omega
          exact Row.empty _ _ _
      have := hPlainInt32_any B2 B' k k c2 c' _ _ V hV hrow (by omega) (by omega)
      rw [decide_eq_true rfl] at this
      exact this.mono fun e w' ⟨h1, j, h2⟩ => ⟨h1, by rw [h2]; exact hF.drewN j⟩
    have hf0 : Fresh w1 (w1.drewN 1) := (Kept.refl _ _).drewN 1
    have k0 : (0 : Int) ≤ (k : Int) := by omega
    have k1 : (k : Int) ≤ (c : Int) := by omega
    have k2 : (k : Int) ≤ (cB : Int) := by omega
    have Hq : Hid (0 < n → (∃ b o, A = some ⟨b, o, none⟩) ∧ ∃ b o, B = some ⟨b, o, none⟩) := Lib.hid fun h => by
      obtain ⟨b, o, e, _⟩ := (hQ1.out w1 (Kept.refl _ _)).at_ 0 h
      obtain ⟨b', o', e', _⟩ := HR.out.at_ 0 h
      exact ⟨⟨b, o, e⟩, b', o', e'⟩
    have cases : (n = 0 ∧ k = 0 ∧ A = none ∧ c = 0 ∧ B = none ∧ cB = 0) ∨ (n = 0 ∧ k = 0 ∧ A = none ∧ c = 0 ∧ ∃ b, B = some b) ∨ (n = 0 ∧ k = 0 ∧ (∃ a, A = some a) ∧ B = none ∧ cB = 0) ∨ (n = 0 ∧ k = 0 ∧ (∃ a, A = some a) ∧ ∃ b, B = some b) ∨ (0 < n ∧ (∃ b o, A = some ⟨b, o, none⟩) ∧ ∃ b o, B = some ⟨b, o, none⟩) := by
      rcases Nat.eq_zero_or_pos n with h0 | h0
      · have hk : k = 0 := by omega
        rcases A with _ | a
        · rcases B with _ | b
          · exact .inl ⟨h0, hk, rfl, hz rfl, rfl, hBz rfl⟩
          · exact .inr (.inl ⟨h0, hk, rfl, hz rfl, b, rfl⟩)
        · rcases B with _ | b
          · exact .inr (.inr (.inl ⟨h0, hk, ⟨a, rfl⟩, rfl, hBz rfl⟩))
          · exact .inr (.inr (.inr (.inl ⟨h0, hk, ⟨a, rfl⟩, b, rfl⟩)))
      · exact .inr (.inr (.inr (.inr ⟨h0, Hq.out h0⟩)))
    clear hz hBz Hq
    have hkc : k ≤ c := by omega
    have hkcB : k ≤ cB := by omega
    rcases cases with ⟨h0, hk00, hA0, hc0, hB0, hcB0⟩ | ⟨h0, hk00, hA0, hc0, b, hB0⟩ | ⟨h0, hk00, ⟨a, hA0⟩, hB0, hcB0⟩ | ⟨h0, hk00, ⟨a, hA0⟩, b, hB0⟩ | ⟨h0, ⟨b, o, hA0⟩, b', o', hB0⟩
    focus
      subst hk00 hA0 hc0 hB0 hcB0
      have e0 : lrst l = l := by
        have h1 : l = [] := List.eq_nil_of_length_eq_zero (by omega)
        rw [h1]
        rfl
      rw [e0] at Hrr
    rotate_left
    focus
      subst hk00 hA0 hc0 hB0
    rotate_left
    focus
      subst hk00 hA0 hB0 hcB0
    rotate_left
    focus
      subst hk00 hA0 hB0
    rotate_left
    focus
      subst hA0 hB0
    all_goals
      have H0 := Lib.hid h0
      clear h0
      go_region_held3 (fun _ => True) (first | go_keep | exact True.intro)
        (first
          | (go_at_call 8; refine (Haw.out _ hf0).mono ?_; rintro e2 w2 ⟨rfl, hf2⟩)
          | (go_at_call 17; first | (with_reducible refine (Hrx.out _ (by assumption)).mono ?_; rintro e3 w3 ⟨B3, c3, rfl, hr3, hf3⟩) | (with_reducible refine (Hrl.out _ (by assumption)).mono ?_; rintro e5 w5 ⟨B5, c5, rfl, hr5, hf5⟩))
          | (go_at_call 15; first | (with_reducible refine (Hrr.out _ _ _ (by assumption) (by assumption)).mono ?_; rintro e6 w6 ⟨B6, c6, rfl, hr6, hf6⟩) | (with_reducible refine (Hkk.out _ _ _ (by first | exact .inl rfl | exact .inr H0.out) (by assumption)).mono ?_; rintro e8 w8 ⟨B8, c8, rfl, hr8, hf8⟩))
          | (go_at_call 14; first | (with_reducible refine (Hp.out _ _ _ (by assumption) (by assumption)).mono ?_; rintro e7 w7 ⟨rfl, hf7⟩) | (with_reducible refine (Hpk.out _ _ _ _ _ (by assumption) (by first | exact .inl rfl | exact .inr H0.out) (by assumption)).mono ?_; rintro e9 w9 ⟨rfl, hf9⟩)))
      have HF := Lib.hid (HE.out.two hf9).toBelow
      clear Haw Hrx Hp Hrl Hrr Hkk Hpk
      go_wp2_with fail
      go_ret
      exact ⟨rfl, HF.out⟩

set_option maxRecDepth 100000 in
theorem lifted (os : Os) (started : os.Started) (H : Type) (enc : TypeId × Value → H) :
    ReturnsInHanded {} Try.checked os 5 .any (Rows.lmsBackSpec.pre6 enc Try.prog Try.f5 Rows.lmsBackRow.domain false) (Rows.lmsBackSpec.post enc Try.prog Try.f5 false true false false) := by
  refine returnsInHanded_of_change (C := Try.checked) Try.own started (by kernel_rfl) Try.func5
    (ChangeSpec.witness6 (enc := enc) (C := Try.checked) false ⟨#[], #[.slice none 0 0, .int .i64 0], []⟩ 8 (by kernel_rfl) (by kernel_rfl) (by kernel_rfl) (by kernel_rfl)) ?_
  intro W base args ds gs before hval0 hW hcnd _
  have hval : ∀ (j : Nat) t v, Try.f5.params[j]? = some t → args[j]? = some v → Value.okWide Try.prog W .any base t v := hval0
  have hpost : ∀ W', Below W.heap.size W W' → Rows.lmsBackSpec.post enc Try.prog Try.f5 false true false false W args (.bool true) W' := fun W' hb =>
    law_post (by kernel_rfl) Try.underlying4 (by kernel_rfl) rfl (fun ds hl => match ds, hl with | [d1, d2], _ => ⟨rfl, rfl, rfl⟩) hW hb
  obtain ⟨p, q, hA0, hV, rfl, hfz, hnd⟩ := hW
  have hA : DataW.TrodAll enc Try.prog W 0 (fun _ => true) true Try.f5.params.toList args.toList ds p := hA0
  rw [Try.params5] at hA hval
  obtain ⟨v0, vs0, d0, ds0, p0, q0, hargs, rfl, rfl, h0, r0⟩ := trodAll_cons hA
  obtain ⟨v1, vs1, d1, ds1, p1, q1, rfl, rfl, rfl, h1, r1⟩ := trodAll_cons r0
  obtain ⟨rfl, rfl, rfl⟩ := trodAll_nil r1
  obtain rfl : args = #[v0, v1] := by cases args; simp_all
  obtain ⟨A0, n0, c0, xs0, rfl, hz0, hr0, hb0, hn0, hc0⟩ := open_rowc Try.underlying22 Try.underlying21 (by kernel_rfl) (hval 0 22 v0 rfl rfl) h0
  obtain ⟨a1, rfl, rfl, rfl, w1⟩ := open_int Try.underlying3 (hval 1 3 v1 rfl rfl) h1
  refine (walk lmsOK A0 n0 c0 xs0 a1 W hz0 hr0 (range_ints32 hb0) hn0 hc0).mono fun e W' ⟨he, hb⟩ => ⟨_, he, hpost W' hb⟩

/-- The statement. -/
theorem proved : Rows.LmsBackSaid :=
  OpenClaim.holds_of_wide 5 Try.f5 rfl rfl rfl rfl rfl rfl rfl ⟨rfl, rfl, rfl, rfl, rfl⟩ rfl rfl rfl rfl rfl (by kernel_rfl) Try.func5 (by kernel_rfl)
    (of_decide_eq_true (by kernel_rfl)) (by unfold Func.isWrapper; first | (rw [if_pos (by decide +kernel)]; kernel_rfl) | (rw [if_neg (by decide +kernel)]; exact ⟨rfl, rfl⟩))
    (fun os started H enc _ => lifted os started H enc)
#print axioms proved

end Go.Proofs.Ytgcbjfkneigijaa.lmsBack
