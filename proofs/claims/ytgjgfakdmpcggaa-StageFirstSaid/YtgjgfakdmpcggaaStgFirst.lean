/- StageFirst: a stage that has learnt nothing tells about what it is told: no more than 160 away from it, and always from 1 to 4,095; for every chance and context. No conditions. -/
import Derived.Test.YtgjgfakdmpcggaaStgAw
import Derived.Test.YtgjgfakdmpcggaaLaw
namespace Go.Proofs.Ytgjgfakdmpcggaa.stageFirst
open Go.ChangeShapes Go.WideShapes Go.ChangeAt Go.RowKit

attribute [local go_sem ↓] Go.wp_at_zero Go.wp_at_succ

theorem some_chance (c : Int) : ∃ k : Nat, (IntKind.u64.wrap c).tmod 4095 = (k : Int) ∧ k < 4095 := by
  have h : 0 ≤ IntKind.u64.wrap c := by rw [IntKind.wrap_u64]; omega
  refine ⟨((IntKind.u64.wrap c).tmod 4095).toNat, ?_, ?_⟩
  all_goals
    rw [Int.tmod_eq_emod_of_nonneg h]; omega

set_option maxHeartbeats 1600000 in
theorem walk (c i : Int) (w : World) :
    Calls Try.prog 4 #[.int .i64 c, .int .i64 i] w fun e w' => e = .returned (.bool true) ∧ Below w.heap.size w w' := by
  obtain ⟨k, hc, hk⟩ := some_chance c
  go_enter Try.func4, Try.ntmps4
  go_wp2_with fail
  refine (sNew_any 4 _).mono ?_
  rintro e w1 ⟨g, h, rfl, hm, hg, hh, hf⟩
  rw [show nc 4 = 4 from rfl] at hm
  have HM := Lib.hid hm
  have HF := Lib.hid hf
  clear hm hf
  go_wp2_with fail
  refine (awake_any _).mono ?_
  rintro e w2 ⟨rfl, hf2⟩
  have HM2 := Lib.hid (HM.out.kept hf2 id id)
  have HF2 := Lib.hid (HF.out.trans hf2 (fun _ _ h => h))
  clear hf2 HM HF
  go_wp2_with fail
  have hnear := fs_near (p := k + 1) (by omega) (by omega)
  have hrb := rd_bd (T := fs) (fun k => by have := fs_bd k; omega) (sx (1 + (k : Int)))
  have HX := Lib.hid (sRefine_any g h 4 _ _ (1 + (k : Int)) i _ HM2.out)
  rw [show (((k + 1 : Nat)) : Int) = 1 + (k : Int) by omega] at hnear
  generalize rd fs (sx (1 + (k : Int))) = t at *
  obtain ⟨t1, t2⟩ := hnear
  obtain ⟨t3, t4⟩ := hrb
  refine HX.out.mono ?_
  rintro e w3 ⟨rfl, hm3, hk3⟩
  have HF3 := Lib.hid (HF2.out.trans hk3 (fun i hi e => by omega))
  clear hm3 hk3 HX HM2
  have t5 : t - (1 + (k : Int)) ≤ 160 := t1
  have t6 : 1 + (k : Int) - t ≤ 160 := t2
  go_wp2_with fail
  go_ret
  exact ⟨rfl, HF3.out.toBelow⟩

set_option maxRecDepth 100000 in
theorem lifted (os : Os) (started : os.Started) (H : Type) (enc : TypeId × Value → H) :
    ReturnsInHanded {} Try.checked os 4 .any (Rows.stageFirstSpec.pre6 enc Try.prog Try.f4 Rows.stageFirstRow.domain false) (Rows.stageFirstSpec.post enc Try.prog Try.f4 false true false false) := by
  refine returnsInHanded_of_change (C := Try.checked) Try.own started (by kernel_rfl) Try.func4
    (ChangeSpec.witness6 (enc := enc) (C := Try.checked) false ⟨#[], #[.int .i64 0, .int .i64 0], []⟩ 8 (by kernel_rfl) (by kernel_rfl) (by kernel_rfl) (by kernel_rfl)) ?_
  intro W base args ds gs before hval0 hW hcnd _
  have hval : ∀ (j : Nat) t v, Try.f4.params[j]? = some t → args[j]? = some v → Value.okWide Try.prog W .any base t v := hval0
  have hpost : ∀ W', Below W.heap.size W W' → Rows.stageFirstSpec.post enc Try.prog Try.f4 false true false false W args (.bool true) W' := fun W' hb =>
    law_post (by kernel_rfl) Try.underlying4 (by kernel_rfl) rfl (fun ds hl => match ds, hl with | [d1, d2], _ => ⟨rfl, rfl, rfl⟩) hW hb
  obtain ⟨p, q, hA0, hV, rfl, hfz, hnd⟩ := hW
  have hA : DataW.TrodAll enc Try.prog W 0 (fun _ => true) true Try.f4.params.toList args.toList ds p := hA0
  rw [Try.params4] at hA hval
  obtain ⟨v0, vs0, d0, ds0, p0, q0, hargs, rfl, rfl, h0, r0⟩ := trodAll_cons hA
  obtain ⟨v1, vs1, d1, ds1, p1, q1, rfl, rfl, rfl, h1, r1⟩ := trodAll_cons r0
  obtain ⟨rfl, rfl, rfl⟩ := trodAll_nil r1
  obtain rfl : args = #[v0, v1] := by cases args; simp_all
  obtain ⟨a0, rfl, rfl, rfl, w0⟩ := open_int Try.underlying3 (hval 0 3 v0 rfl rfl) h0
  obtain ⟨a1, rfl, rfl, rfl, w1⟩ := open_int Try.underlying3 (hval 1 3 v1 rfl rfl) h1
  refine (walk a0 a1 W).mono fun e W' ⟨he, hb⟩ => ⟨_, he, hpost W' hb⟩

/-- The statement. -/
theorem proved : Rows.StageFirstSaid :=
  OpenClaim.holds_of_wide 4 Try.f4 rfl rfl rfl rfl rfl rfl rfl ⟨rfl, rfl, rfl, rfl, rfl⟩ rfl rfl rfl rfl rfl (by kernel_rfl) Try.func4 (by kernel_rfl)
    (of_decide_eq_true (by kernel_rfl)) (by unfold Func.isWrapper; first | (rw [if_pos (by decide +kernel)]; kernel_rfl) | (rw [if_neg (by decide +kernel)]; exact ⟨rfl, rfl⟩))
    (fun os started H enc _ => lifted os started H enc)
#print axioms proved

end Go.Proofs.Ytgjgfakdmpcggaa.stageFirst
