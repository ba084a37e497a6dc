/- RiceBest: no parameter costs less than the best one, and a lesser one costs more. For all numbers. -/
import Derived.Test.YtlnhpdikdefgoaaRicAw
import Derived.Test.YtlnhpdikdefgoaaRicH
import Derived.Test.YtlnhpdikdefgoaaArgs
namespace Go.Proofs.Ytlnhpdikdefgoaa.riceBest
open Go.ChangeShapes Go.WideShapes Go.ChangeAt Go.RowKit

attribute [local go_sem ↓] Go.wp_at_zero Go.wp_at_succ

set_option maxRecDepth 100000 in
set_option maxHeartbeats 1600000 in
theorem walk (ok : RiceOK) (A : Option Addr) (n c : Nat) (l : List Int) (w : World) (_ : A = none → c = 0) (hr : Row w .i32 A n l) (hb : R32 l) (_ : n ≤ maxLen) (_ : n ≤ c) :
    Calls Try.prog 6 #[.slice A n c] w fun e w' => e = .returned (.bool true) ∧ Below w.heap.size w w' := by
  by_cases hlong : 300 < n
  · have h1 : 300 < (n : Int) := by omega
    have HA := Lib.hid (awakeR_any ok w)
    clear hr ok
    go_enter Try.func6, Try.ntmps6
    go_wp2_with fail
    refine HA.out.mono ?_
    rintro e w1 ⟨rfl, hf⟩
    have HF := Lib.hid hf.toBelow
    clear hf HA
    go_wp2_with fail
    go_ret
    exact ⟨rfl, HF.out⟩
  · have h1 : ¬ 300 < (n : Int) := by omega
    have hlen := hr.len
    have HC : Hid (∀ (k : Nat) V, k ≤ 24 → Fresh w V → Calls Try.prog 13 #[.slice A n c, .int .i64 (k : Int)] V fun e w' => e = .returned (.int .i64 (rcost k l : Nat)) ∧ Fresh V w') := Lib.hid fun k V hk hV => by
      have := ok.cost A n c l k V (hr.kept hV (fun _ _ _ _ => id)) hb (by omega)
      rwa [kc_in hk] at this
    have HB := Lib.hid (ok.best A n c l w hr hb (by omega))
    have HL : Hid (∀ k : Nat, k ≤ 24 → rcost k l ≤ 20000) := Lib.hid fun k hk => by
      have := rcost_le hk l
      omega
    have hk24 := rbest_le l
    have Hmin : Hid ((∀ i, i ≤ 24 → rcost (rbest l) l ≤ rcost i l) ∧ ∀ i, i < rbest l → rcost (rbest l) l < rcost i l) := Lib.hid ⟨fun i hi => rbestTo_min l 24 i hi, fun i hi => rbestTo_least l 24 i hi⟩
    have HO := Lib.hid ok
    clear hr ok
    generalize rbest l = k at *
    have k0 : (0 : Int) ≤ (k : Int) := by omega
    have k1 : (k : Int) ≤ 24 := by omega
    go_enter Try.func6, Try.ntmps6
    go_wp2_with fail
    refine HB.out.mono ?_
    rintro e w1 ⟨rfl, hf1⟩
    have HA := Lib.hid (awakeR_any HO.out w1)
    have H1 := Lib.hid hf1
    clear hf1 HB
    go_wp2_with fail
    refine HA.out.mono ?_
    rintro e w2 ⟨rfl, hf2⟩
    have H2 := Lib.hid (H1.out.trans hf2 (fun _ _ h => h))
    clear hf2 HA H1
    go_wp2_with fail
    go_loopw [4] (fun i wr => ∃ j : Nat, j ≤ 25 ∧ i = .int .i64 j ∧ Fresh w wr) (fun i _ => (25 - intOf i).toNat)
    case atStart => exact ⟨0, by omega, rfl, H2.out⟩
    case round =>
      obtain ⟨j, hj, rfl, hf⟩ := hrel
      clear H2
      by_cases hlt : j ≤ 24
      · have j0 : (j : Int) ≤ 24 := by omega
        have HCj := Lib.hid (HC.out j wr hlt hf)
        have hx := HL.out j hlt
        have hy := HL.out k hk24
        have hxy := Hmin.out.1 j hlt
        have hlst := Hmin.out.2 j
        have HF := Lib.hid hf
        clear hf
        generalize rcost j l = x at *
        have HCk : Hid (∀ V, Fresh w V → Calls Try.prog 13 #[.slice A n c, .int .i64 (k : Int)] V fun e w' => e = .returned (.int .i64 (rcost k l : Nat)) ∧ Fresh V w') := Lib.hid fun V hV => HC.out k V hk24 hV
        generalize rcost k l = y at *
        have g1 : ¬ (x : Int) < (y : Int) := by omega
        go_wp2_with fail
        refine HCj.out.mono ?_
        rintro e w3 ⟨rfl, hf3⟩
        have H3 := Lib.hid (HF.out.trans hf3 (fun _ _ h => h))
        have HC1 := Lib.hid (HCk.out w3 H3.out)
        clear hf3 HCj HF
        by_cases hjk : j < k
        · have g2 : (j : Int) < (k : Int) := by omega
          have g3 : ((x : Int) == (y : Int)) = false := by have := hlst hjk; simp; omega
          clear hlst
          go_wp2_with fail
          refine HC1.out.mono ?_
          rintro e w4 ⟨rfl, hf4⟩
          have H4 := Lib.hid (H3.out.trans hf4 (fun _ _ h => h))
          have HC2 := Lib.hid (HCk.out w4 H4.out)
          clear hf4 H3 HC1
          go_wp2_with fail
          refine HC2.out.mono ?_
          rintro e w5 ⟨rfl, hf5⟩
          have H5 := Lib.hid (H4.out.trans hf5 (fun _ _ h => h))
          clear hf5 H4 HC2
          go_wp2_with fail
          go_roundw
          case rel => exact ⟨j + 1, by omega, by go_num, H5.out⟩
          case measure => simp [intOf]; omega
        · have g2 : ¬ (j : Int) < (k : Int) := by omega
          clear hlst
          go_wp2_with fail
          refine HC1.out.mono ?_
          rintro e w4 ⟨rfl, hf4⟩
          have H4 := Lib.hid (H3.out.trans hf4 (fun _ _ h => h))
          clear hf4 H3 HC1
          go_wp2_with fail
          go_roundw
          case rel => exact ⟨j + 1, by omega, by go_num, H4.out⟩
          case measure => simp [intOf]; omega
      · obtain rfl : j = 25 := by omega
        have HF := Lib.hid hf.toBelow
        clear hf
        go_wp2_with fail
        go_ret
        exact ⟨rfl, HF.out⟩

set_option maxRecDepth 100000 in
theorem lifted (os : Os) (started : os.Started) (H : Type) (enc : TypeId × Value → H) :
    ReturnsInHanded {} Try.checked os 6 .any (Rows.riceBestSpec.pre6 enc Try.prog Try.f6 Rows.riceBestRow.domain false) (Rows.riceBestSpec.post enc Try.prog Try.f6 false true false false) := by
  refine returnsInHanded_of_change (C := Try.checked) Try.own started (by kernel_rfl) Try.func6
    (ChangeSpec.witness6 (enc := enc) (C := Try.checked) false ⟨#[], #[.slice none 0 0], []⟩ 8 (by kernel_rfl) (by kernel_rfl) (by kernel_rfl) (by kernel_rfl)) ?_
  intro W base args ds gs before hval0 hW hcnd _
  have hval : ∀ (j : Nat) t v, Try.f6.params[j]? = some t → args[j]? = some v → Value.okWide Try.prog W .any base t v := hval0
  have hpost : ∀ W', Below W.heap.size W W' → Rows.riceBestSpec.post enc Try.prog Try.f6 false true false false W args (.bool true) W' := fun W' hb =>
    law_post (by kernel_rfl) Try.underlying4 (by kernel_rfl) rfl (fun ds hl => match ds, hl with | [d1], _ => ⟨rfl, rfl, rfl⟩) hW hb
  obtain ⟨p, q, hA0, hV, rfl, hfz, hnd⟩ := hW
  have hA : DataW.TrodAll enc Try.prog W 0 (fun _ => true) true Try.f6.params.toList args.toList ds p := hA0
  rw [Try.params6] at hA hval
  obtain ⟨v0, vs0, d0, ds0, p0, q0, hargs, rfl, rfl, h0, r0⟩ := trodAll_cons hA
  obtain ⟨rfl, rfl, rfl⟩ := trodAll_nil r0
  obtain rfl : args = #[v0] := by cases args; simp_all
  obtain ⟨A0, n0, c0, xs0, rfl, hz0, hr0, hb0, hn0, hc0⟩ := open_rowc Try.underlying22 Try.underlying21 (by kernel_rfl) (hval 0 22 v0 rfl rfl) h0
  refine (walk riceOK A0 n0 c0 xs0 W hz0 hr0 (range_ints32 hb0) hn0 hc0).mono fun e W' ⟨he, hb⟩ => ⟨_, he, hpost W' hb⟩

/-- The statement. -/
theorem proved : Rows.RiceBestSaid :=
  OpenClaim.holds_of_wide 6 Try.f6 rfl rfl rfl rfl rfl rfl rfl ⟨rfl, rfl, rfl, rfl, rfl⟩ rfl rfl rfl rfl rfl (by kernel_rfl) Try.func6 (by kernel_rfl)
    (of_decide_eq_true (by kernel_rfl)) (by unfold Func.isWrapper; first | (rw [if_pos (by decide +kernel)]; kernel_rfl) | (rw [if_neg (by decide +kernel)]; exact ⟨rfl, rfl⟩))
    (fun os started H enc _ => lifted os started H enc)
#print axioms proved

end Go.Proofs.Ytlnhpdikdefgoaa.riceBest
