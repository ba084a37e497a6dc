/- GuessTrend: with a one a guess never falls, with a zero it never rises, the greater of two stays as great at least, and the chance is from 1 to 4,095; for every two guesses, bit and rate. No conditions. -/
import Derived.Test.YtcngppdjhmdceaaGueN
import Derived.Test.YtcngppdjhmdceaaLaw
namespace Go.Proofs.Ytcngppdjhmdceaa.guessTrend
open Go.ChangeShapes Go.WideShapes Go.ChangeAt Go.RowKit

set_option maxHeartbeats 1600000 in
theorem walk (a : Int) (ha : 0 ≤ a ∧ a ≤ 65535) (b : Int) (hb : 0 ≤ b ∧ b ≤ 65535) (bit r : Int) (w : World) :
    Calls Try.prog 5 #[.int .u16 a, .int .u16 b, .int .i64 bit, .int .i64 r] w fun e w' => e = .returned (.bool true) ∧ Below w.heap.size w w' := by
  obtain ⟨p, hpe⟩ : ∃ p : Nat, min a b = p := ⟨(min a b).toNat, by omega⟩
  obtain ⟨q, hqe⟩ : ∃ q : Nat, max a b = q := ⟨(max a b).toNat, by omega⟩
  have hp : p < 65536 := by omega
  have hq : q < 65536 := by omega
  have hpq : p ≤ q := by omega
  clear ha hb
  have hmono := nx_mono (k := rt r) hpq hq (bit != 0)
  have hup := nx_up p (rt r)
  have hdn := nx_down p (rt r)
  have hlt := nx_lt hp (bit != 0) (rt r)
  have hc := ch_bd hlt
  have HN := Lib.hid (And.intro (next_any p bit r · hp) (next_any q bit r · hq))
  have HC := Lib.hid (chance_any (nx p (bit != 0) (rt r)) · hlt)
  obtain ⟨one, hone⟩ : ∃ one, (bit != 0) = one := ⟨_, rfl⟩
  rw [hone] at hmono hlt hc HN HC
  generalize nx q one (rt r) = B at *
  go_enter Try.func5, Try.ntmps5
  go_wp2_with fail
  refine (HN.out.1 _).mono ?_
  rintro e w' ⟨rfl, rfl⟩
  go_wp2_with fail
  refine (HN.out.2 _).mono ?_
  rintro e w' ⟨rfl, rfl⟩
  go_wp2_with fail
  refine (HC.out _).mono ?_
  rintro e w' ⟨rfl, rfl⟩
  go_wp2_with fail
  refine (awake_any _).mono ?_
  rintro e w' ⟨rfl, rfl⟩
  clear HN HC
  cases one
  · generalize nx p false (rt r) = A at *
    generalize ch A = c at *
    have d1 : decide ((A : Int) ≤ B) = true := by simp; omega
    have d2 : decide ((A : Int) ≤ p) = true := by simp; omega
    have d3 : decide ((1 : Int) ≤ c) = true := by simp; omega
    have d4 : decide ((c : Int) ≤ 4095) = true := by simp; omega
    have d5 : decide ((p : Int) < A) = false := by simp; omega
    by_cases he : p = A
    · have d6 : decide ((p : Int) ≤ A) = true := by simp; omega
      go_wp2_with fail
      go_ret
      exact ⟨rfl, (Kept.refl _ _).toBelow⟩
    · have d6 : decide ((p : Int) ≤ A) = false := by simp; omega
      go_wp2_with fail
      go_ret
      exact ⟨rfl, (Kept.refl _ _).toBelow⟩
  · generalize nx p true (rt r) = A at *
    generalize ch A = c at *
    have d1 : decide ((A : Int) ≤ B) = true := by simp; omega
    have d2 : decide ((p : Int) ≤ A) = true := by simp; omega
    have d3 : decide ((1 : Int) ≤ c) = true := by simp; omega
    have d4 : decide ((c : Int) ≤ 4095) = true := by simp; omega
    by_cases he : p = A
    · have d5 : decide ((p : Int) < A) = false := by simp; omega
      go_wp2_with fail
      go_ret
      exact ⟨rfl, (Kept.refl _ _).toBelow⟩
    · have d5 : decide ((p : Int) < A) = true := by simp; omega
      go_wp2_with fail
      go_ret
      exact ⟨rfl, (Kept.refl _ _).toBelow⟩

set_option maxRecDepth 100000 in
theorem lifted (os : Os) (started : os.Started) (H : Type) (enc : TypeId × Value → H) :
    ReturnsInHanded {} Try.checked os 5 .any (Rows.guessTrendSpec.pre6 enc Try.prog Try.f5 Rows.guessTrendRow.domain false) (Rows.guessTrendSpec.post enc Try.prog Try.f5 false true false false) := by
  refine returnsInHanded_of_change (C := Try.checked) Try.own started (by kernel_rfl) Try.func5
    (ChangeSpec.witness6 (enc := enc) (C := Try.checked) false ⟨#[], #[.int .u16 0, .int .u16 0, .int .i64 0, .int .i64 0], []⟩ 8 (by kernel_rfl) (by kernel_rfl) (by kernel_rfl) (by kernel_rfl)) ?_
  intro W base args ds gs before hval0 hW hcnd _
  have hval : ∀ (j : Nat) t v, Try.f5.params[j]? = some t → args[j]? = some v → Value.okWide Try.prog W .any base t v := hval0
  have hpost : ∀ W', Below W.heap.size W W' → Rows.guessTrendSpec.post enc Try.prog Try.f5 false true false false W args (.bool true) W' := fun W' hb =>
    law_post (by kernel_rfl) Try.underlying4 (by kernel_rfl) rfl (fun ds hl => match ds, hl with | [d1, d2, d3, d4], _ => ⟨rfl, rfl, rfl⟩) hW hb
  obtain ⟨p, q, hA0, hV, rfl, hfz, hnd⟩ := hW
  have hA : DataW.TrodAll enc Try.prog W 0 (fun _ => true) true Try.f5.params.toList args.toList ds p := hA0
  rw [Try.params5] at hA hval
  obtain ⟨v0, vs0, d0, ds0, p0, q0, hargs, rfl, rfl, h0, r0⟩ := trodAll_cons hA
  obtain ⟨v1, vs1, d1, ds1, p1, q1, rfl, rfl, rfl, h1, r1⟩ := trodAll_cons r0
  obtain ⟨v2, vs2, d2, ds2, p2, q2, rfl, rfl, rfl, h2, r2⟩ := trodAll_cons r1
  obtain ⟨v3, vs3, d3, ds3, p3, q3, rfl, rfl, rfl, h3, r3⟩ := trodAll_cons r2
  obtain ⟨rfl, rfl, rfl⟩ := trodAll_nil r3
  obtain rfl : args = #[v0, v1, v2, v3] := by cases args; simp_all
  obtain ⟨a0, rfl, rfl, rfl, w0⟩ := open_int Try.underlying22 (hval 0 22 v0 rfl rfl) h0
  obtain ⟨a1, rfl, rfl, rfl, w1⟩ := open_int Try.underlying22 (hval 1 22 v1 rfl rfl) h1
  obtain ⟨a2, rfl, rfl, rfl, w2⟩ := open_int Try.underlying3 (hval 2 3 v2 rfl rfl) h2
  obtain ⟨a3, rfl, rfl, rfl, w3⟩ := open_int Try.underlying3 (hval 3 3 v3 rfl rfl) h3
  refine (walk a0 (bounds_u16 w0) a1 (bounds_u16 w1) a2 a3 W).mono fun e W' ⟨he, hb⟩ => ⟨_, he, hpost W' hb⟩

/-- The statement. -/
theorem proved : Rows.GuessTrendSaid :=
  OpenClaim.holds_of_wide 5 Try.f5 rfl rfl rfl rfl rfl rfl rfl ⟨rfl, rfl, rfl, rfl, rfl⟩ rfl rfl rfl rfl rfl (by kernel_rfl) Try.func5 (by kernel_rfl)
    (of_decide_eq_true (by kernel_rfl)) (by unfold Func.isWrapper; first | (rw [if_pos (by decide +kernel)]; kernel_rfl) | (rw [if_neg (by decide +kernel)]; exact ⟨rfl, rfl⟩))
    (fun os started H enc _ => lifted os started H enc)
#print axioms proved

end Go.Proofs.Ytcngppdjhmdceaa.guessTrend
