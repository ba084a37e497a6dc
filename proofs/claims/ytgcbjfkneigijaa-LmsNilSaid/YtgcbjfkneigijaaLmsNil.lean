/- LmsNil: a nil filter guesses 0 and learns nothing; one that is new guesses 0. For every number. -/
import Derived.Test.YtgcbjfkneigijaaLmsC
import Derived.Test.YtgcbjfkneigijaaArgs
namespace Go.Proofs.Ytgcbjfkneigijaa.lmsNil
open Go.ChangeShapes Go.WideShapes Go.ChangeAt Go.RowKit

attribute [local go_sem ↓] Go.wp_at_zero Go.wp_at_succ

set_option maxRecDepth 100000 in
set_option maxHeartbeats 1600000 in
theorem walk {F : World → Nat → List Int → Prop} (ok : LmsOK F) (v : Int) (_ : -2147483648 ≤ v ∧ v ≤ 2147483647) (w : World) :
    Calls Try.prog 6 #[.int .i32 v] w fun e w' => e = .returned (.bool true) ∧ Below w.heap.size w w' := by
  have HO := Lib.hid ok
  clear ok
  go_enter Try.func6, Try.ntmps6
  go_wp2_with fail
  refine (HO.out.learnNil v w).mono ?_
  rintro e w1 ⟨rfl, hf1⟩
  have HF1 := Lib.hid hf1
  clear hf1
  go_wp2_with fail
  refine (HO.out.new w1).mono ?_
  rintro e w2 ⟨g, rfl, hF, _, hf2⟩
  have HG := Lib.hid hF
  have HF2 := Lib.hid (Fresh.two HF1.out hf2)
  clear hF hf2 HF1
  go_wp2_with fail
  refine (awakeL_any HO.out w2).mono ?_
  rintro e w3 ⟨rfl, hf3⟩
  have HG3 := Lib.hid (HO.out.kept HG.out hf3 (fun h => h))
  have HF3 := Lib.hid (Fresh.two HF2.out hf3)
  clear hf3 HG HF2
  go_wp2_with fail
  refine (HO.out.guessNil w3).mono ?_
  rintro e w4 ⟨rfl, hf4⟩
  have HG4 := Lib.hid (HO.out.kept HG3.out hf4 (fun h => h))
  have HF4 := Lib.hid (Fresh.two HF3.out hf4)
  clear hf4 HG3 HF3
  go_wp2_with fail
  refine (HO.out.guess g _ w4 HG4.out).mono ?_
  rintro e w5 ⟨rfl, hf5⟩
  rw [gl_zero]
  have HF5 := Lib.hid (Fresh.two HF4.out hf5).toBelow
  clear hf5 HG4 HF4
  go_wp2_with fail
  go_ret
  exact ⟨rfl, HF5.out⟩

set_option maxRecDepth 100000 in
theorem lifted (os : Os) (started : os.Started) (H : Type) (enc : TypeId × Value → H) :
    ReturnsInHanded {} Try.checked os 6 .any (Rows.lmsNilSpec.pre6 enc Try.prog Try.f6 Rows.lmsNilRow.domain false) (Rows.lmsNilSpec.post enc Try.prog Try.f6 false true false false) := by
  refine returnsInHanded_of_change (C := Try.checked) Try.own started (by kernel_rfl) Try.func6
    (ChangeSpec.witness6 (enc := enc) (C := Try.checked) false ⟨#[], #[.int .i32 0], []⟩ 8 (by kernel_rfl) (by kernel_rfl) (by kernel_rfl) (by kernel_rfl)) ?_
  intro W base args ds gs before hval0 hW hcnd _
  have hval : ∀ (j : Nat) t v, Try.f6.params[j]? = some t → args[j]? = some v → Value.okWide Try.prog W .any base t v := hval0
  have hpost : ∀ W', Below W.heap.size W W' → Rows.lmsNilSpec.post enc Try.prog Try.f6 false true false false W args (.bool true) W' := fun W' hb =>
    law_post (by kernel_rfl) Try.underlying4 (by kernel_rfl) rfl (fun ds hl => match ds, hl with | [d1], _ => ⟨rfl, rfl, rfl⟩) hW hb
  obtain ⟨p, q, hA0, hV, rfl, hfz, hnd⟩ := hW
  have hA : DataW.TrodAll enc Try.prog W 0 (fun _ => true) true Try.f6.params.toList args.toList ds p := hA0
  rw [Try.params6] at hA hval
  obtain ⟨v0, vs0, d0, ds0, p0, q0, hargs, rfl, rfl, h0, r0⟩ := trodAll_cons hA
  obtain ⟨rfl, rfl, rfl⟩ := trodAll_nil r0
  obtain rfl : args = #[v0] := by cases args; simp_all
  obtain ⟨a0, rfl, rfl, rfl, w0⟩ := open_int Try.underlying21 (hval 0 21 v0 rfl rfl) h0
  refine (walk lmsOK a0 (bounds_i32 w0) W).mono fun e W' ⟨he, hb⟩ => ⟨_, he, hpost W' hb⟩

/-- The statement. -/
theorem proved : Rows.LmsNilSaid :=
  OpenClaim.holds_of_wide 6 Try.f6 rfl rfl rfl rfl rfl rfl rfl ⟨rfl, rfl, rfl, rfl, rfl⟩ rfl rfl rfl rfl rfl (by kernel_rfl) Try.func6 (by kernel_rfl)
    (of_decide_eq_true (by kernel_rfl)) (by unfold Func.isWrapper; first | (rw [if_pos (by decide +kernel)]; kernel_rfl) | (rw [if_neg (by decide +kernel)]; exact ⟨rfl, rfl⟩))
    (fun os started H enc _ => lifted os started H enc)
#print axioms proved

end Go.Proofs.Ytgcbjfkneigijaa.lmsNil
