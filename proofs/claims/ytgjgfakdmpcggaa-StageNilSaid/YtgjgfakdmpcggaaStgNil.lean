/- StageNil: a nil stage tells nothing, one that has not refined learns nothing; for every chance, context, bit and rate. No conditions. -/
import Derived.Test.YtgjgfakdmpcggaaStgAw
import Derived.Test.YtgjgfakdmpcggaaLaw
namespace Go.Proofs.Ytgjgfakdmpcggaa.stageNil
open Go.ChangeShapes Go.WideShapes Go.ChangeAt Go.RowKit

attribute [local go_sem ↓] Go.wp_at_zero Go.wp_at_succ

set_option maxHeartbeats 1600000 in
theorem walk (c i b r : Int) (w : World) :
    Calls Try.prog 5 #[.int .i64 c, .int .i64 i, .int .i64 b, .int .i64 r] w fun e w' => e = .returned (.bool true) ∧ Below w.heap.size w w' := by
  go_enter Try.func5, Try.ntmps5
  go_wp2_with fail
  refine (sLearn_nil _ _ _).mono ?_
  rintro e w' ⟨rfl, rfl⟩
  go_wp2_with fail
  refine (sNew_any 3 _).mono ?_
  rintro e w1 ⟨g, h, rfl, hm, hg, hh, hf⟩
  rw [show nc 3 = 3 from rfl] at hm
  have HM := Lib.hid hm
  have HF := Lib.hid hf
  clear hm hf
  go_wp2_with fail
  refine (sNew_any 3 _).mono ?_
  rintro e w2 ⟨g2, h2, rfl, hm2, hg2, hh2, hf2⟩
  rw [show nc 3 = 3 from rfl] at hm2
  have HA := Lib.hid (And.intro (HM.out.kept hf2 id id) (And.intro hm2 (HF.out.trans hf2 (fun _ _ h => h))))
  clear hm2 hf2 HM HF
  go_wp2_with fail
  refine (awake_any _).mono ?_
  rintro e w3 ⟨rfl, hf3⟩
  have HB := Lib.hid (And.intro (HA.out.1.kept hf3 id id) (And.intro (HA.out.2.1.kept hf3 id id) (HA.out.2.2.trans hf3 (fun _ _ h => h))))
  clear hf3 HA
  go_wp2_with fail
  refine (sLearn_none g h 3 _ _ _ _ HB.out.1).mono ?_
  rintro e w4 ⟨rfl, rfl⟩
  go_wp2_with fail
  go_loopw [12] (fun k wr => ∃ j : Nat, j ≤ 33 ∧ k = .int .i64 j ∧ Stg wr g h 3 (fun _ => fs) none ∧ Stg wr g2 h2 3 (fun _ => fs) none ∧ Fresh w' wr) (fun k _ => (33 - intOf k).toNat)
  case atStart => exact ⟨0, by omega, rfl, HB.out⟩
  case round =>
    obtain ⟨j, hj, rfl, hs1, hs2, hf⟩ := hrel
    have HC := Lib.hid (And.intro hs1 (And.intro hs2 hf))
    clear HB hs1 hs2 hf
    by_cases hlt : j < 33
    · go_wp2_with fail
      refine (sAt_any g h 3 _ _ i j _ HC.out.1).mono ?_
      rintro e w5 ⟨rfl, N, hN⟩
      have HN : Hid (Stg w5 g2 h2 3 (fun _ => fs) none ∧ ∀ V M, V = w5.drewN M → Stg V g h 3 (fun _ => fs) none ∧ Stg V g2 h2 3 (fun _ => fs) none ∧ Fresh w' V) := Lib.hid (by
        subst hN
        exact ⟨HC.out.2.1.drewN N, fun V M e => by subst e; exact ⟨(HC.out.1.drewN N).drewN M, (HC.out.2.1.drewN N).drewN M, (HC.out.2.2.drewN N).drewN M⟩⟩)
      clear hN HC
      go_wp2_with fail
      refine (sAt_any g2 h2 3 _ _ i j _ HN.out.1).mono ?_
      rintro e w6 ⟨rfl, M, hM⟩
      have HD := Lib.hid (HN.out.2 w6 M hM)
      clear hM HN
      go_wp2_with fail
      go_roundw
      case rel => exact ⟨j + 1, by omega, by go_num, HD.out⟩
      case measure => simp [intOf]; omega
    · obtain rfl : j = 33 := by omega
      go_wp2_with fail
      refine (sRefine_nil _ _ _).mono ?_
      rintro e w5 ⟨rfl, rfl⟩
      go_wp2_with fail
      refine (sAt_nil _ _ _).mono ?_
      rintro e w6 ⟨rfl, rfl⟩
      go_wp2_with fail
      go_ret
      exact ⟨rfl, HC.out.2.2.toBelow⟩

set_option maxRecDepth 100000 in
theorem lifted (os : Os) (started : os.Started) (H : Type) (enc : TypeId × Value → H) :
    ReturnsInHanded {} Try.checked os 5 .any (Rows.stageNilSpec.pre6 enc Try.prog Try.f5 Rows.stageNilRow.domain false) (Rows.stageNilSpec.post enc Try.prog Try.f5 false true false false) := by
  refine returnsInHanded_of_change (C := Try.checked) Try.own started (by kernel_rfl) Try.func5
    (ChangeSpec.witness6 (enc := enc) (C := Try.checked) false ⟨#[], #[.int .i64 0, .int .i64 0, .int .i64 0, .int .i64 0], []⟩ 8 (by kernel_rfl) (by kernel_rfl) (by kernel_rfl) (by kernel_rfl)) ?_
  intro W base args ds gs before hval0 hW hcnd _
  have hval : ∀ (j : Nat) t v, Try.f5.params[j]? = some t → args[j]? = some v → Value.okWide Try.prog W .any base t v := hval0
  have hpost : ∀ W', Below W.heap.size W W' → Rows.stageNilSpec.post enc Try.prog Try.f5 false true false false W args (.bool true) W' := fun W' hb =>
    law_post (by kernel_rfl) Try.underlying4 (by kernel_rfl) rfl (fun ds hl => match ds, hl with | [d1, d2, d3, d4], _ => ⟨rfl, rfl, rfl⟩) hW hb
  obtain ⟨p, q, hA0, hV, rfl, hfz, hnd⟩ := hW
  have hA : DataW.TrodAll enc Try.prog W 0 (fun _ => true) true Try.f5.params.toList args.toList ds p := hA0
  rw [Try.params5] at hA hval
  obtain ⟨v0, vs0, d0, ds0, p0, q0, hargs, rfl, rfl, h0, r0⟩ := trodAll_cons hA
  obtain ⟨v1, vs1, d1, ds1, p1, q1, rfl, rfl, rfl, h1, r1⟩ := trodAll_cons r0
  obtain ⟨v2, vs2, d2, ds2, p2, q2, rfl, rfl, rfl, h2, r2⟩ := trodAll_cons r1
  obtain ⟨v3, vs3, d3, ds3, p3, q3, rfl, rfl, rfl, h3, r3⟩ := trodAll_cons r2
  obtain ⟨rfl, rfl, rfl⟩ := trodAll_nil r3
  obtain rfl : args = #[v0, v1, v2, v3] := by cases args; simp_all
  obtain ⟨a0, rfl, rfl, rfl, w0⟩ := open_int Try.underlying3 (hval 0 3 v0 rfl rfl) h0
  obtain ⟨a1, rfl, rfl, rfl, w1⟩ := open_int Try.underlying3 (hval 1 3 v1 rfl rfl) h1
  obtain ⟨a2, rfl, rfl, rfl, w2⟩ := open_int Try.underlying3 (hval 2 3 v2 rfl rfl) h2
  obtain ⟨a3, rfl, rfl, rfl, w3⟩ := open_int Try.underlying3 (hval 3 3 v3 rfl rfl) h3
  refine (walk a0 a1 a2 a3 W).mono fun e W' ⟨he, hb⟩ => ⟨_, he, hpost W' hb⟩

/-- The statement. -/
theorem proved : Rows.StageNilSaid :=
  OpenClaim.holds_of_wide 5 Try.f5 rfl rfl rfl rfl rfl rfl rfl ⟨rfl, rfl, rfl, rfl, rfl⟩ rfl rfl rfl rfl rfl (by kernel_rfl) Try.func5 (by kernel_rfl)
    (of_decide_eq_true (by kernel_rfl)) (by unfold Func.isWrapper; first | (rw [if_pos (by decide +kernel)]; kernel_rfl) | (rw [if_neg (by decide +kernel)]; exact ⟨rfl, rfl⟩))
    (fun os started H enc _ => lifted os started H enc)
#print axioms proved

end Go.Proofs.Ytgjgfakdmpcggaa.stageNil
