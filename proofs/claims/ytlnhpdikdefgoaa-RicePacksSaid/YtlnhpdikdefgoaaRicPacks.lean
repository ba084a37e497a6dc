/- RicePacks: whatever numbers are packed: what Pack, Cost and Best answer is what the document says, and what was handed in stays. For all numbers, and every parameter. -/
import Derived.Test.YtlnhpdikdefgoaaRicAw
import Derived.Test.YtlnhpdikdefgoaaRicH
import Derived.Test.YtlnhpdikdefgoaaHelpInt32
import Derived.Test.YtlnhpdikdefgoaaArgs
namespace Go.Proofs.Ytlnhpdikdefgoaa.ricePacks
open Go.ChangeShapes Go.WideShapes Go.ChangeAt Go.RowKit

attribute [local go_sem ↓] Go.wp_at_zero Go.wp_at_succ

set_option maxRecDepth 100000 in
set_option maxHeartbeats 1600000 in
theorem walk (ok : RiceOK) (A : Option Addr) (n c : Nat) (l : List Int) (k : Int) (w : World) (hz : A = none → c = 0) (hr : Row w .i32 A n l) (hb : R32 l) (_ : n ≤ maxLen) (hnc : n ≤ c) :
    Calls Try.prog 3 #[.slice A n c, .int .i64 k] w fun e w' => e = .returned (.bool true) ∧ Below w.heap.size w w' := by
  by_cases hlong : 500 < n
  · have h1 : 500 < (n : Int) := by omega
    have HA := Lib.hid (awakeR_any ok w)
    clear hr ok
    go_enter Try.func3, Try.ntmps3
    go_wp2_with fail
    refine HA.out.mono ?_
    rintro e w1 ⟨rfl, hf⟩
    have HF := Lib.hid hf.toBelow
    clear hf HA
    go_wp2_with fail
    go_ret
    exact ⟨rfl, HF.out⟩
  · have h1 : ¬ 500 < (n : Int) := by omega
    have HO := Lib.hid (hOwnInt32_any A n c l 71 w hr hz (by omega))
    have hlen := hr.len
    have HR := Lib.hid (And.intro hr ok)
    have HQ : Hid (∀ V, Fresh w V → Row V .i32 A n l) := Lib.hid fun V hV => hr.kept hV (fun _ _ _ _ => id)
    clear hr ok
    go_enter Try.func3, Try.ntmps3
    go_wp2_with fail
    refine HO.out.mono ?_
    rintro e w1 ⟨q, rfl, hq, hqs, hf1⟩
    have HC : Hid (∀ V, Fresh w1 V → Row V .i32 (some ⟨q, 0, none⟩) n l ∧ Copy V q 21 .i32 l 71) := Lib.hid fun V hV => by
      have hq' : Copy V q 21 .i32 l 71 := ⟨hq.blk.kept hV id⟩
      have := hq'.row
      rw [hlen] at this
      exact ⟨this, hq'⟩
    have H1 := Lib.hid hf1
    have HP := Lib.hid (HR.out.2.pack (some ⟨q, 0, none⟩) n (n + 3) l w1 (HC.out w1 (Kept.refl _ _)).1 hb (by omega) (by omega))
    clear hq hf1 HO
    have Hpl : Hid (∀ x ∈ pk (rall l), 0 ≤ x ∧ x < 256) := Lib.hid (pk_bytes _)
    generalize hzz : pk (rall l) = z at *
    have Hzz := Lib.hid hzz
    clear hzz
    go_wp2_with fail
    refine HP.out.mono ?_
    rintro e w2 ⟨u, rfl, hu, _, hf2⟩
    obtain ⟨Au, cu, rfl, hru, _⟩ := hu.row
    have H2 := Lib.hid (And.intro hru (And.intro hf2 (H1.out.trans hf2 (fun _ _ h => h))))
    clear hu hf2 hru HP
    go_wp2_with fail
    have HQ2 := Lib.hid (qPackR_any A n c l w2 (HQ.out w2 H2.out.2.2) hb (by omega) hnc)
    rw [Hzz.out] at HQ2
    refine HQ2.out.mono ?_
    rintro e w3 ⟨v, rfl, hv, _, hf3⟩
    obtain ⟨Av, cv, rfl, hrv, _⟩ := hv.row
    have H3 := Lib.hid (And.intro hrv (And.intro (H2.out.1.kept hf3 (fun _ _ _ _ => id)) (And.intro (H2.out.2.1.trans hf3 (fun _ _ h => h)) (H2.out.2.2.trans hf3 (fun _ _ h => h)))))
    have HA := Lib.hid (awakeR_any HR.out.2 w3)
    clear hv hrv hf3 HQ2 H2
    go_wp2_with fail
    refine HA.out.mono ?_
    rintro e w4 ⟨rfl, hf4⟩
    have HB := Lib.hid (hBytes_any Au Av _ _ cu cv z z w4 (H3.out.2.1.kept hf4 (fun _ _ _ _ => id)) (H3.out.1.kept hf4 (fun _ _ _ _ => id)) Hpl.out Hpl.out)
    rw [decide_eq_true rfl] at HB
    have H4 := Lib.hid (And.intro (H3.out.2.2.1.trans hf4 (fun _ _ h => h)) (H3.out.2.2.2.trans hf4 (fun _ _ h => h)))
    clear hf4 H3 HA Hpl
    go_wp2_with fail
    refine HB.out.mono ?_
    rintro e w5 ⟨rfl, rfl⟩
    have HCo := Lib.hid (HR.out.2.cost (some ⟨q, 0, none⟩) n (n + 3) l k w4 (HC.out w4 H4.out.1).1 hb (by omega))
    go_wp2_with fail
    refine HCo.out.mono ?_
    rintro e w5 ⟨rfl, hf5⟩
    have H5 := Lib.hid (And.intro (H4.out.1.trans hf5 (fun _ _ h => h)) (H4.out.2.trans hf5 (fun _ _ h => h)))
    clear hf5 H4 HB HCo
    have HCq := Lib.hid (qCost_any A n c l k w5 (HQ.out w5 H5.out.2) hb (by omega))
    have HBc := Lib.hid (HR.out.2.best (some ⟨q, 0, none⟩) n (n + 3) l w5 (HC.out w5 H5.out.1).1 hb (by omega))
    generalize rcost (kc k) l = rc at *
    go_wp2_with fail
    refine HCq.out.mono ?_
    rintro e w6 ⟨rfl, rfl⟩
    clear HCq
    generalize hrb : rbest l = rb at *
    have Hrb := Lib.hid hrb
    clear hrb
    go_wp2_with fail
    refine HBc.out.mono ?_
    rintro e w6 ⟨rfl, hf6⟩
    have H6 := Lib.hid (And.intro (H5.out.1.trans hf6 (fun _ _ h => h)) (H5.out.2.trans hf6 (fun _ _ h => h)))
    have HBq := Lib.hid (qBest_any A n c l w6 (HQ.out w6 H6.out.2) hb (by omega))
    rw [Hrb.out] at HBq
    clear hf6 H5 HBc
    go_wp2_with fail
    refine HBq.out.mono ?_
    rintro e w7 ⟨rfl, rfl⟩
    have HK := Lib.hid (hKeptInt32_any q n c A l 71 w6 (HC.out w6 H6.out.1).2 (HQ.out w6 H6.out.2) (by omega))
    clear HBq HC HQ
    go_wp2_with fail
    refine HK.out.mono ?_
    rintro e w7 ⟨rfl, k7, rfl⟩
    have H7 := Lib.hid (H6.out.2.drewN k7).toBelow
    clear H6 HK
    go_wp2_with fail
    go_ret
    exact ⟨rfl, H7.out⟩


set_option maxRecDepth 100000 in
theorem lifted (os : Os) (started : os.Started) (H : Type) (enc : TypeId × Value → H) :
    ReturnsInHanded {} Try.checked os 3 .any (Rows.ricePacksSpec.pre6 enc Try.prog Try.f3 Rows.ricePacksRow.domain false) (Rows.ricePacksSpec.post enc Try.prog Try.f3 false true false false) := by
  refine returnsInHanded_of_change (C := Try.checked) Try.own started (by kernel_rfl) Try.func3
    (ChangeSpec.witness6 (enc := enc) (C := Try.checked) false ⟨#[], #[.slice none 0 0, .int .i64 0], []⟩ 8 (by kernel_rfl) (by kernel_rfl) (by kernel_rfl) (by kernel_rfl)) ?_
  intro W base args ds gs before hval0 hW hcnd _
  have hval : ∀ (j : Nat) t v, Try.f3.params[j]? = some t → args[j]? = some v → Value.okWide Try.prog W .any base t v := hval0
  have hpost : ∀ W', Below W.heap.size W W' → Rows.ricePacksSpec.post enc Try.prog Try.f3 false true false false W args (.bool true) W' := fun W' hb =>
    law_post (by kernel_rfl) Try.underlying4 (by kernel_rfl) rfl (fun ds hl => match ds, hl with | [d1, d2], _ => ⟨rfl, rfl, rfl⟩) hW hb
  obtain ⟨p, q, hA0, hV, rfl, hfz, hnd⟩ := hW
  have hA : DataW.TrodAll enc Try.prog W 0 (fun _ => true) true Try.f3.params.toList args.toList ds p := hA0
  rw [Try.params3] at hA hval
  obtain ⟨v0, vs0, d0, ds0, p0, q0, hargs, rfl, rfl, h0, r0⟩ := trodAll_cons hA
  obtain ⟨v1, vs1, d1, ds1, p1, q1, rfl, rfl, rfl, h1, r1⟩ := trodAll_cons r0
  obtain ⟨rfl, rfl, rfl⟩ := trodAll_nil r1
  obtain rfl : args = #[v0, v1] := by cases args; simp_all
  obtain ⟨A0, n0, c0, xs0, rfl, hz0, hr0, hb0, hn0, hc0⟩ := open_rowc Try.underlying22 Try.underlying21 (by kernel_rfl) (hval 0 22 v0 rfl rfl) h0
  obtain ⟨a1, rfl, rfl, rfl, w1⟩ := open_int Try.underlying3 (hval 1 3 v1 rfl rfl) h1
  refine (walk riceOK A0 n0 c0 xs0 a1 W hz0 hr0 (range_ints32 hb0) hn0 hc0).mono fun e W' ⟨he, hb⟩ => ⟨_, he, hpost W' hb⟩

/-- The statement. -/
theorem proved : Rows.RicePacksSaid :=
  OpenClaim.holds_of_wide 3 Try.f3 rfl rfl rfl rfl rfl rfl rfl ⟨rfl, rfl, rfl, rfl, rfl⟩ rfl rfl rfl rfl rfl (by kernel_rfl) Try.func3 (by kernel_rfl)
    (of_decide_eq_true (by kernel_rfl)) (by unfold Func.isWrapper; first | (rw [if_pos (by decide +kernel)]; kernel_rfl) | (rw [if_neg (by decide +kernel)]; exact ⟨rfl, rfl⟩))
    (fun os started H enc _ => lifted os started H enc)
#print axioms proved

end Go.Proofs.Ytlnhpdikdefgoaa.ricePacks
