/- GuessMany: behind 40 ones with rate 4 the chance is above 3,700, behind 40 zeros below 400; for every guess. No conditions. -/
import Derived.Test.YtcngppdjhmdceaaGueN
import Derived.Test.YtcngppdjhmdceaaLaw
namespace Go.Proofs.Ytcngppdjhmdceaa.guessMany
open Go.ChangeShapes Go.WideShapes Go.ChangeAt Go.RowKit

theorem rate4 : rt 4 = 4 := by decide +kernel
theorem one_b : ((1 : Int) != 0) = true := rfl
theorem zero_b : ((0 : Int) != 0) = false := rfl

set_option maxHeartbeats 1600000 in
theorem walk (a : Int) (ha : 0 ≤ a ∧ a ≤ 65535) (one : Bool) (w : World) :
    Calls Try.prog 6 #[.int .u16 a, .bool one] w fun e w' => e = .returned (.bool true) ∧ Below w.heap.size w w' := by
  obtain ⟨p, rfl⟩ : ∃ p : Nat, a = p := ⟨a.toNat, by omega⟩
  have hp : p < 65536 := by omega
  clear ha
  go_enter Try.func6, Try.ntmps6
  go_wp2_with fail
  go_loop [0, 5] (fun s i => ∃ j : Nat, j ≤ 40 ∧ i = .int .i64 j ∧ s = .int .u16 (many one j p : Nat)) (fun _ i => (40 - intOf i).toNat)
  case atStart => exact ⟨0, by omega, rfl, rfl⟩
  case round =>
    obtain ⟨j, hj, rfl, rfl⟩ := hrel
    have hm := many_lt hp one j
    by_cases hlt : j < 40
    · have hst : many one (j + 1) p = nx (many one j p) one 4 := rfl
      generalize many one j p = q at *
      have Hst := Lib.hid hst
      clear hst
      cases one
      · go_wp2_with fail
        refine (next_any q 0 4 _ hm).mono ?_
        rw [rate4, zero_b]
        rintro e w' ⟨rfl, rfl⟩
        go_wp2_with fail
        go_round
        case rel => exact ⟨j + 1, by omega, by go_num, by rw [Hst.out]⟩
        case measure => simp [intOf]; omega
      · go_wp2_with fail
        refine (next_any q 1 4 _ hm).mono ?_
        rw [rate4, one_b]
        rintro e w' ⟨rfl, rfl⟩
        go_wp2_with fail
        go_round
        case rel => exact ⟨j + 1, by omega, by go_num, by rw [Hst.out]⟩
        case measure => simp [intOf]; omega
    · obtain rfl : j = 40 := by omega
      go_wp2_with fail
      refine (chance_any _ _ hm).mono ?_
      rintro e w' ⟨rfl, rfl⟩
      go_wp2_with fail
      refine (awake_any _).mono ?_
      rintro e w' ⟨rfl, rfl⟩
      cases one
      · have h1 := many_zeros hp
        generalize ch (many false 40 p) = c at *
        have hd : decide ((c : Int) < 400) = true := by simp; omega
        go_wp2_with fail
        go_ret
        exact ⟨rfl, (Kept.refl _ _).toBelow⟩
      · have h1 := many_ones hp
        generalize ch (many true 40 p) = c at *
        have hd : decide ((3700 : Int) < c) = true := by simp; omega
        go_wp2_with fail
        go_ret
        exact ⟨rfl, (Kept.refl _ _).toBelow⟩

set_option maxRecDepth 100000 in
theorem lifted (os : Os) (started : os.Started) (H : Type) (enc : TypeId × Value → H) :
    ReturnsInHanded {} Try.checked os 6 .any (Rows.guessManySpec.pre6 enc Try.prog Try.f6 Rows.guessManyRow.domain false) (Rows.guessManySpec.post enc Try.prog Try.f6 false true false false) := by
  refine returnsInHanded_of_change (C := Try.checked) Try.own started (by kernel_rfl) Try.func6
    (ChangeSpec.witness6 (enc := enc) (C := Try.checked) false ⟨#[], #[.int .u16 0, .bool false], []⟩ 8 (by kernel_rfl) (by kernel_rfl) (by kernel_rfl) (by kernel_rfl)) ?_
  intro W base args ds gs before hval0 hW hcnd _
  have hval : ∀ (j : Nat) t v, Try.f6.params[j]? = some t → args[j]? = some v → Value.okWide Try.prog W .any base t v := hval0
  have hpost : ∀ W', Below W.heap.size W W' → Rows.guessManySpec.post enc Try.prog Try.f6 false true false false W args (.bool true) W' := fun W' hb =>
    law_post (by kernel_rfl) Try.underlying4 (by kernel_rfl) rfl (fun ds hl => match ds, hl with | [d1, d2], _ => ⟨rfl, rfl, rfl⟩) hW hb
  obtain ⟨p, q, hA0, hV, rfl, hfz, hnd⟩ := hW
  have hA : DataW.TrodAll enc Try.prog W 0 (fun _ => true) true Try.f6.params.toList args.toList ds p := hA0
  rw [Try.params6] at hA hval
  obtain ⟨v0, vs0, d0, ds0, p0, q0, hargs, rfl, rfl, h0, r0⟩ := trodAll_cons hA
  obtain ⟨v1, vs1, d1, ds1, p1, q1, rfl, rfl, rfl, h1, r1⟩ := trodAll_cons r0
  obtain ⟨rfl, rfl, rfl⟩ := trodAll_nil r1
  obtain rfl : args = #[v0, v1] := by cases args; simp_all
  obtain ⟨a0, rfl, rfl, rfl, w0⟩ := open_int Try.underlying22 (hval 0 22 v0 rfl rfl) h0
  obtain ⟨a1, rfl, rfl, rfl⟩ := open_bool Try.underlying4 (hval 1 4 v1 rfl rfl) h1
  refine (walk a0 (bounds_u16 w0) a1 W).mono fun e W' ⟨he, hb⟩ => ⟨_, he, hpost W' hb⟩

/-- The statement. -/
theorem proved : Rows.GuessManySaid :=
  OpenClaim.holds_of_wide 6 Try.f6 rfl rfl rfl rfl rfl rfl rfl ⟨rfl, rfl, rfl, rfl, rfl⟩ rfl rfl rfl rfl rfl (by kernel_rfl) Try.func6 (by kernel_rfl)
    (of_decide_eq_true (by kernel_rfl)) (by unfold Func.isWrapper; first | (rw [if_pos (by decide +kernel)]; kernel_rfl) | (rw [if_neg (by decide +kernel)]; exact ⟨rfl, rfl⟩))
    (fun os started H enc _ => lifted os started H enc)
#print axioms proved

end Go.Proofs.Ytcngppdjhmdceaa.guessMany
