/- CoderSmall: n ones of chance 4,095, n below 20,000, make no more than n / 2,048 + 6 bytes; for every number. No conditions. -/
import Derived.Test.YtfdeacoaimnfeaaCodF
import Derived.Test.YtfdeacoaimnfeaaLaw
namespace Go.Proofs.Ytfdeacoaimnfeaa.coderSmall
open Go.ChangeShapes Go.WideShapes Go.ChangeAt Go.RowKit

theorem one_b : ((1 : Int) != 0) = true := rfl
theorem mod_n (a : Int) : ∃ n : Nat, n < 20000 ∧ wrap64 ((IntKind.u64.wrap a).tmod 20000) = n := by
  have h0 : 0 ≤ IntKind.u64.wrap a := by rw [IntKind.wrap_u64]; omega
  obtain ⟨x, hx⟩ := Int.eq_ofNat_of_zero_le h0
  refine ⟨x % 20000, by omega, ?_⟩
  rw [hx, show ((x : Int).tmod 20000) = ((x % 20000 : Nat) : Int) from rfl, IntWalk.wrap64_in _ (by omega)]
theorem cl_4095 : cl 4095 = 4095 := by decide +kernel

set_option maxHeartbeats 1600000 in
theorem walk (a : Int) (w : World) :
    Calls Try.prog 6 #[.int .i64 a] w fun e w' => e = .returned (.bool true) ∧ Below w.heap.size w w' := by
  go_enter Try.func6, Try.ntmps6
  go_wp2_with fail
  refine (newEnc_any _).mono ?_
  rintro e w1 ⟨g, rfl, he, hg, hk⟩
  go_wp2_with fail
  refine (awake_any _).mono ?_
  rintro e w2 ⟨rfl, hk2⟩
  have he2 := he.kept hk2 id (fun _ _ => id)
  have hf := hk.trans hk2 fun _ _ h => h
  have H := Lib.hid (And.intro he2 hf)
  clear he2 hf he hk hk2
  go_wp2_with fail
  obtain ⟨n, hn, hna⟩ := mod_n a
  rw [hna]
  clear hna
  go_loopw [4] (fun i wr => ∃ j : Nat, j ≤ n ∧ i = .int .i64 j ∧ EPost w2 wr g 54 (.slice none 0 0) 0 (4294967295 - (falls j 4294967295 : Int)) []) (fun i _ => (n - intOf i).toNat)
  case atStart => exact ⟨0, by omega, rfl, EPost.refl H.out.1⟩
  case round =>
    obtain ⟨j, hj, rfl, v, he, hv, hk⟩ := hrel
    have hop : Open 0 (falls j 4294967295) := ⟨by have := falls_end (n := j) (by omega); omega, falls_hi j⟩
    have HH := Lib.hid (And.intro he (And.intro hv hk))
    have HO := Lib.hid hop
    clear he hv hk hop
    by_cases hlt : j < n
    · go_wp2_with fail
      refine (encode_any g 0 (falls j 4294967295) v [] 1 4095 _ HH.out.1 HO.out (by simp)).mono ?_
      rw [one_b, cl_4095, enc1_fall (by omega)]
      rintro e w3 ⟨rfl, hp⟩
      have hp2 := EPost.trans HH.out.2.1 HH.out.2.2 hp
      have HP := Lib.hid hp2
      clear hp hp2
      go_wp2_with fail
      go_roundw
      case rel => exact ⟨j + 1, by omega, by go_num, HP.out⟩
      case measure => simp [intOf]; omega
    · go_wp2_with fail
      refine (flush_any g 0 (falls j 4294967295) v [] _ HH.out.1 HO.out (by simp)).mono ?_
      rintro e w3 ⟨u, rfl, ho, _, _, hk3⟩
      obtain ⟨A, c, rfl, _, _⟩ := ho.row
      have hfin : Below w.heap.size w w3 := by
        have h1 : Fresh w wr := H.out.2.trans HH.out.2.2 fun i hi hf => by
          rcases hf with rfl | hf
          · omega
          · cases hf
        have h2 : Fresh w w3 := h1.trans hk3 fun i hi hf => by
          rcases hf with rfl | hf
          · omega
          · rcases HH.out.2.1 i hf with e | e
            · cases e
            · have := H.out.2.size; omega
        exact h2.toBelow
      have hlen : (([] : List Int) ++ four 0).length = 4 := rfl
      rw [hlen]
      clear hlen ho hk3
      have hd : decide ((4 : Int) ≤ (n : Int) / 2048 + 6) = true := by simp; omega
      go_wp2_with fail
      go_ret
      exact ⟨rfl, hfin⟩

set_option maxRecDepth 100000 in
theorem lifted (os : Os) (started : os.Started) (H : Type) (enc : TypeId × Value → H) :
    ReturnsInHanded {} Try.checked os 6 .any (Rows.coderSmallSpec.pre6 enc Try.prog Try.f6 Rows.coderSmallRow.domain false) (Rows.coderSmallSpec.post enc Try.prog Try.f6 false true false false) := by
  refine returnsInHanded_of_change (C := Try.checked) Try.own started (by kernel_rfl) Try.func6
    (ChangeSpec.witness6 (enc := enc) (C := Try.checked) false ⟨#[], #[.int .i64 0], []⟩ 8 (by kernel_rfl) (by kernel_rfl) (by kernel_rfl) (by kernel_rfl)) ?_
  intro W base args ds gs before hval0 hW hcnd _
  have hval : ∀ (j : Nat) t v, Try.f6.params[j]? = some t → args[j]? = some v → Value.okWide Try.prog W .any base t v := hval0
  have hpost : ∀ W', Below W.heap.size W W' → Rows.coderSmallSpec.post enc Try.prog Try.f6 false true false false W args (.bool true) W' := fun W' hb =>
    law_post (by kernel_rfl) Try.underlying4 (by kernel_rfl) rfl (fun ds hl => match ds, hl with | [d1], _ => ⟨rfl, rfl, rfl⟩) hW hb
  obtain ⟨p, q, hA0, hV, rfl, hfz, hnd⟩ := hW
  have hA : DataW.TrodAll enc Try.prog W 0 (fun _ => true) true Try.f6.params.toList args.toList ds p := hA0
  rw [Try.params6] at hA hval
  obtain ⟨v0, vs0, d0, ds0, p0, q0, hargs, rfl, rfl, h0, r0⟩ := trodAll_cons hA
  obtain ⟨rfl, rfl, rfl⟩ := trodAll_nil r0
  obtain rfl : args = #[v0] := by cases args; simp_all
  obtain ⟨a0, rfl, rfl, rfl, w0⟩ := open_int Try.underlying3 (hval 0 3 v0 rfl rfl) h0
  refine (walk a0 W).mono fun e W' ⟨he, hb⟩ => ⟨_, he, hpost W' hb⟩

/-- The statement. -/
theorem proved : Rows.CoderSmallSaid :=
  OpenClaim.holds_of_wide 6 Try.f6 rfl rfl rfl rfl rfl rfl rfl ⟨rfl, rfl, rfl, rfl, rfl⟩ rfl rfl rfl rfl rfl (by kernel_rfl) Try.func6 (by kernel_rfl)
    (of_decide_eq_true (by kernel_rfl)) (by unfold Func.isWrapper; first | (rw [if_pos (by decide +kernel)]; kernel_rfl) | (rw [if_neg (by decide +kernel)]; exact ⟨rfl, rfl⟩))
    (fun os started H enc _ => lifted os started H enc)
#print axioms proved

end Go.Proofs.Ytfdeacoaimnfeaa.coderSmall
