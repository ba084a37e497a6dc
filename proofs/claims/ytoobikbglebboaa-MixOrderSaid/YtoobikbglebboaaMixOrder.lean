/- MixOrder: Squash never falls and lies from 1 to 4,095, and Stretch is the least number of which it is so much; for every three numbers. No conditions. -/
import Derived.Test.YtoobikbglebboaaMixN
import Derived.Test.YtoobikbglebboaaLaw
namespace Go.Proofs.Ytoobikbglebboaa.mixOrder
open Go.ChangeShapes Go.WideShapes Go.ChangeAt Go.RowKit

theorem some_p (p : Int) : ∃ k : Int, (IntKind.u64.wrap p).tmod 4095 = k ∧ 0 ≤ k ∧ k ≤ 4094 := by
  have h : 0 ≤ IntKind.u64.wrap p := by rw [IntKind.wrap_u64]; omega
  refine ⟨_, rfl, ?_, ?_⟩
  · rw [Int.tmod_eq_emod_of_nonneg h]; omega
  · rw [Int.tmod_eq_emod_of_nonneg h]; omega

set_option maxHeartbeats 1600000 in
theorem walk (a b p : Int) (w : World) :
    Calls Try.prog 4 #[.int .i64 a, .int .i64 b, .int .i64 p] w fun e w' => e = .returned (.bool true) ∧ Below w.heap.size w w' := by
  have hab : sq (min a b) ≤ sq (max a b) := sq_mono (by omega)
  have hx := sq_bd (min a b)
  have hy := sq_bd (max a b)
  have HX := Lib.hid (And.intro (squash_any (min a b) ·) (squash_any (max a b) ·))
  generalize sq (min a b) = x at *
  generalize sq (max a b) = y at *
  obtain ⟨k, hk, hk0, hk1⟩ := some_p p
  have h1 : 1 ≤ 1 + k := by omega
  have h2 : 1 + k ≤ 4095 := by omega
  have hs := st_bd h1 h2
  have hle := st_le h1 h2
  have hlt := st_lt h1 h2
  have HS := Lib.hid (stretch_any (1 + k) ·)
  rw [pc_in h1 h2] at HS
  have HQ := Lib.hid (And.intro (squash_any (st (1 + k)) ·) (squash_any (st (1 + k) - 1) ·))
  have hz := sq_bd (st (1 + k))
  generalize sq (st (1 + k)) = z at *
  generalize sq (st (1 + k) - 1) = u at *
  generalize st (1 + k) = s at *
  have d1 : decide (x ≤ y) = true := by simp; omega
  have d2 : decide (1 ≤ x) = true := by simp; omega
  have d3 : decide (y ≤ 4095) = true := by simp; omega
  have d4 : decide (-2047 ≤ s) = true := by simp; omega
  have d5 : decide (s ≤ 2047) = true := by simp; omega
  have d6 : decide (1 + k ≤ z) = true := by simp; omega
  by_cases he : s = -2047
  · have d7 : (s == -2047) = true := by simpa using he
    clear hlt
    subst he
    go_enter Try.func4, Try.ntmps4
    go_wp2_with fail
    refine (HX.out.1 _).mono ?_
    rintro e w' ⟨rfl, rfl⟩
    go_wp2_with fail
    refine (HX.out.2 _).mono ?_
    rintro e w' ⟨rfl, rfl⟩
    go_wp2_with fail
    refine (HS.out _).mono ?_
    rintro e w' ⟨rfl, rfl⟩
    go_wp2_with fail
    refine (awake_any _).mono ?_
    rintro e w' ⟨rfl, rfl⟩
    go_wp2_with fail
    refine (HQ.out.1 _).mono ?_
    rintro e w' ⟨rfl, rfl⟩
    go_wp2_with fail
    go_ret
    exact ⟨rfl, (Kept.refl _ _).toBelow⟩
  · have d7 : (s == -2047) = false := by simpa using he
    have d8 : decide (u < 1 + k) = true := by simp; omega
    clear hlt he
    go_enter Try.func4, Try.ntmps4
    go_wp2_with fail
    refine (HX.out.1 _).mono ?_
    rintro e w' ⟨rfl, rfl⟩
    go_wp2_with fail
    refine (HX.out.2 _).mono ?_
    rintro e w' ⟨rfl, rfl⟩
    go_wp2_with fail
    refine (HS.out _).mono ?_
    rintro e w' ⟨rfl, rfl⟩
    go_wp2_with fail
    refine (awake_any _).mono ?_
    rintro e w' ⟨rfl, rfl⟩
    go_wp2_with fail
    refine (HQ.out.1 _).mono ?_
    rintro e w' ⟨rfl, rfl⟩
    go_wp2_with fail
    refine (HQ.out.2 _).mono ?_
    rintro e w' ⟨rfl, rfl⟩
    go_wp2_with fail
    go_ret
    exact ⟨rfl, (Kept.refl _ _).toBelow⟩

set_option maxRecDepth 100000 in
theorem lifted (os : Os) (started : os.Started) (H : Type) (enc : TypeId × Value → H) :
    ReturnsInHanded {} Try.checked os 4 .any (Rows.mixOrderSpec.pre6 enc Try.prog Try.f4 Rows.mixOrderRow.domain false) (Rows.mixOrderSpec.post enc Try.prog Try.f4 false true false false) := by
  refine returnsInHanded_of_change (C := Try.checked) Try.own started (by kernel_rfl) Try.func4
    (ChangeSpec.witness6 (enc := enc) (C := Try.checked) false ⟨#[], #[.int .i64 0, .int .i64 0, .int .i64 0], []⟩ 8 (by kernel_rfl) (by kernel_rfl) (by kernel_rfl) (by kernel_rfl)) ?_
  intro W base args ds gs before hval0 hW hcnd _
  have hval : ∀ (j : Nat) t v, Try.f4.params[j]? = some t → args[j]? = some v → Value.okWide Try.prog W .any base t v := hval0
  have hpost : ∀ W', Below W.heap.size W W' → Rows.mixOrderSpec.post enc Try.prog Try.f4 false true false false W args (.bool true) W' := fun W' hb =>
    law_post (by kernel_rfl) Try.underlying4 (by kernel_rfl) rfl (fun ds hl => match ds, hl with | [d1, d2, d3], _ => ⟨rfl, rfl, rfl⟩) hW hb
  obtain ⟨p, q, hA0, hV, rfl, hfz, hnd⟩ := hW
  have hA : DataW.TrodAll enc Try.prog W 0 (fun _ => true) true Try.f4.params.toList args.toList ds p := hA0
  rw [Try.params4] at hA hval
  obtain ⟨v0, vs0, d0, ds0, p0, q0, hargs, rfl, rfl, h0, r0⟩ := trodAll_cons hA
  obtain ⟨v1, vs1, d1, ds1, p1, q1, rfl, rfl, rfl, h1, r1⟩ := trodAll_cons r0
  obtain ⟨v2, vs2, d2, ds2, p2, q2, rfl, rfl, rfl, h2, r2⟩ := trodAll_cons r1
  obtain ⟨rfl, rfl, rfl⟩ := trodAll_nil r2
  obtain rfl : args = #[v0, v1, v2] := by cases args; simp_all
  obtain ⟨a0, rfl, rfl, rfl, w0⟩ := open_int Try.underlying3 (hval 0 3 v0 rfl rfl) h0
  obtain ⟨a1, rfl, rfl, rfl, w1⟩ := open_int Try.underlying3 (hval 1 3 v1 rfl rfl) h1
  obtain ⟨a2, rfl, rfl, rfl, w2⟩ := open_int Try.underlying3 (hval 2 3 v2 rfl rfl) h2
  refine (walk a0 a1 a2 W).mono fun e W' ⟨he, hb⟩ => ⟨_, he, hpost W' hb⟩

/-- The statement. -/
theorem proved : Rows.MixOrderSaid :=
  OpenClaim.holds_of_wide 4 Try.f4 rfl rfl rfl rfl rfl rfl rfl ⟨rfl, rfl, rfl, rfl, rfl⟩ rfl rfl rfl rfl rfl (by kernel_rfl) Try.func4 (by kernel_rfl)
    (of_decide_eq_true (by kernel_rfl)) (by unfold Func.isWrapper; first | (rw [if_pos (by decide +kernel)]; kernel_rfl) | (rw [if_neg (by decide +kernel)]; exact ⟨rfl, rfl⟩))
    (fun os started H enc _ => lifted os started H enc)
#print axioms proved

end Go.Proofs.Ytoobikbglebboaa.mixOrder
