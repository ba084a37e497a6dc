/- NumNil: of a nil writer there is nothing, and of a nil reader zero values and ErrNil; for every number, every text and every count. No conditions. -/
import Derived.Test.YtpilmeklmanjeaaNumAwake
import Derived.Test.YtpilmeklmanjeaaNumText
import Derived.Test.YtpilmeklmanjeaaLaw
namespace Go.Proofs.Ytpilmeklmanjeaa.numNil
open Go.ChangeShapes Go.WideShapes Go.ChangeAt Go.RowKit

set_option maxHeartbeats 1600000 in
theorem walk (x : Nat) (A : Option Addr) (m c : Nat) (n : Int) (hx : x < 18446744073709551616) (hm : m ≤ maxLen) (hn : n ≤ 9223372036854775807) (w : World) :
    Calls Try.prog 4 #[.int .u64 x, .slice A m c, .int .i64 n] w fun e w' => e = .returned (.bool true) ∧ Below w.heap.size w w' := by
  go_enter Try.func4, Try.ntmps4
  go_wp2_with fail
  refine (nNum_raw _ x _ _ hx (LastRaw.nil _ _)).mono ?_
  rintro e w1 ⟨rfl, h1⟩
  go_wp2_with fail
  refine (nText_nil A m c _ hm).mono ?_
  rintro e w2 ⟨rfl, h2⟩
  go_wp2_with fail
  refine (nLittle_raw _ x n _ _ hx (LastRaw.nil _ _)).mono ?_
  rintro e w3 ⟨rfl, h3⟩
  have h123 : Fresh w w3 := (h1.trans h2 fun _ _ h => h).trans h3 fun _ _ h => h
  clear h1 h2 h3
  go_wp2_with fail
  refine (nRaw_nil _ _).mono ?_
  rintro e w4 ⟨rfl, rfl⟩
  have h4 := h123.alloc (.cells #[.slice A m c] 23)
  generalize w3.alloc (.cells #[.slice A m c] 23) = w4 at *
  clear h123
  go_wp2_with fail
  refine (nAwake_any _).mono ?_
  rintro e w5 ⟨rfl, h5⟩
  have h45 := h4.trans h5 fun _ _ h => h
  clear h4 h5
  go_wp2_with fail
  refine (nBytes_nil _).mono ?_
  rintro e w' ⟨rfl, rfl⟩
  go_wp2_with fail
  refine (nrNum_nil _).mono ?_
  rintro e w' ⟨rfl, rfl⟩
  go_wp2_with fail
  refine (nrZig_nil _).mono ?_
  rintro e w' ⟨rfl, rfl⟩
  go_wp2_with fail
  refine (nrText_nil n _ hn).mono ?_
  rintro e w6 ⟨A6, c6, rfl, h6⟩
  have h46 := h45.trans h6 fun _ _ h => h
  clear h45 h6
  go_wp2_with fail
  refine (nrLittle_nil _ _).mono ?_
  rintro e w' ⟨rfl, rfl⟩
  go_wp2_with fail
  refine (nrBig_nil _ _).mono ?_
  rintro e w' ⟨rfl, rfl⟩
  go_wp2_with fail
  refine (nrRaw_nil _ _).mono ?_
  rintro e w' ⟨rfl, rfl⟩
  go_wp2_with fail
  refine (nrLeft_nil _).mono ?_
  rintro e w' ⟨rfl, rfl⟩
  go_wp2_with fail
  refine (nrErr_nil _).mono ?_
  rintro e w' ⟨rfl, rfl⟩
  go_wp2_with fail
  refine (nrEnd_nil _).mono ?_
  rintro e w' ⟨rfl, rfl⟩
  go_wp2
  go_ret
  exact ⟨rfl, h46.toBelow⟩

set_option maxRecDepth 100000 in
theorem lifted (os : Os) (started : os.Started) (H : Type) (enc : TypeId × Value → H) :
    ReturnsInHanded {} Try.checked os 4 .any (Rows.numNilSpec.pre6 enc Try.prog Try.f4 Rows.numNilRow.domain false) (Rows.numNilSpec.post enc Try.prog Try.f4 false true false false) := by
  refine returnsInHanded_of_change (C := Try.checked) Try.own started (by kernel_rfl) Try.func4
    (ChangeSpec.witness6 (enc := enc) (C := Try.checked) false ⟨#[], #[.int .u64 0, .slice none 0 0, .int .i64 0], []⟩ 8 (by kernel_rfl) (by kernel_rfl) (by kernel_rfl) (by kernel_rfl)) ?_
  intro W base args ds gs before hval0 hW hcnd _
  have hval : ∀ (j : Nat) t v, Try.f4.params[j]? = some t → args[j]? = some v → Value.okWide Try.prog W .any base t v := hval0
  have hpost : ∀ W', Below W.heap.size W W' → Rows.numNilSpec.post enc Try.prog Try.f4 false true false false W args (.bool true) W' := fun W' hb =>
    law_post (by kernel_rfl) Try.underlying4 (by kernel_rfl) rfl (fun ds hl => match ds, hl with | [d1, d2, d3], _ => ⟨rfl, rfl, rfl⟩) hW hb
  obtain ⟨p, q, hA0, hV, rfl, hfz, hnd⟩ := hW
  have hA : DataW.TrodAll enc Try.prog W 0 (fun _ => true) true Try.f4.params.toList args.toList ds p := hA0
  rw [Try.params4] at hA hval
  obtain ⟨v0, vs0, d0, ds0, p0, q0, hargs, rfl, rfl, h0, r0⟩ := trodAll_cons hA
  obtain ⟨v1, vs1, d1, ds1, p1, q1, rfl, rfl, rfl, h1, r1⟩ := trodAll_cons r0
  obtain ⟨v2, vs2, d2, ds2, p2, q2, rfl, rfl, rfl, h2, r2⟩ := trodAll_cons r1
  obtain ⟨rfl, rfl, rfl⟩ := trodAll_nil r2
  obtain rfl : args = #[v0, v1, v2] := by cases args; simp_all
  obtain ⟨a0, rfl, rfl, rfl, w0⟩ := open_int Try.underlying22 (hval 0 22 v0 rfl rfl) h0
  obtain ⟨A, m, c, xs, rfl, hnil, hx, hwx, hm⟩ := open_row Try.underlying23 Try.underlying5 (by kernel_rfl) (hval 1 23 v1 rfl rfl) h1
  obtain ⟨a2, rfl, rfl, rfl, w2⟩ := open_int Try.underlying3 (hval 2 3 v2 rfl rfl) h2
  have hb0 := bounds_u64 w0
  have hb2 := bounds_i64 w2
  obtain ⟨x, rfl⟩ := Int.eq_ofNat_of_zero_le hb0.1
  refine (walk x A m c a2 (by omega) hm (by omega) W).mono fun e W' ⟨he, hb⟩ => ⟨_, he, hpost W' hb⟩

/-- The statement. -/
theorem proved : Rows.NumNilSaid :=
  OpenClaim.holds_of_wide 4 Try.f4 rfl rfl rfl rfl rfl rfl rfl ⟨rfl, rfl, rfl, rfl, rfl⟩ rfl rfl rfl rfl rfl (by kernel_rfl) Try.func4 (by kernel_rfl)
    (of_decide_eq_true (by kernel_rfl)) (by unfold Func.isWrapper; first | (rw [if_pos (by decide +kernel)]; kernel_rfl) | (rw [if_neg (by decide +kernel)]; exact ⟨rfl, rfl⟩))
    (fun os started H enc _ => lifted os started H enc)
#print axioms proved

end Go.Proofs.Ytpilmeklmanjeaa.numNil
