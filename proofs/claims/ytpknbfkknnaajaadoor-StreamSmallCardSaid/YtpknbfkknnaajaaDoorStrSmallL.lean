/- StreamSmall: one byte, again and again, from 1,500 on, is packed to a tenth at most, at any level. The tied card, for every byte, every number of them that the statement draws and every level. -/
import Derived.Test.YtpknbfkknnaajaaDoorStrAw
import Derived.Test.YtpknbfkknnaajaaDoorTie
import Derived.Test.YtpknbfkknnaajaaDoorCards
import Derived.SevenTiedAt
namespace Go.Proofs.YtpknbfkknnaajaaDoor.streamSmall
open Go.ChangeShapes Go.WideShapes Go.ChangeAt Go.RowKit

attribute [local go_sem ↓] Go.wp_at_zero Go.wp_at_succ

theorem ten_wrap {a j : Nat} (h : 10 * a ≤ j) (hj : j < 2000) : (10 : Int) * (a : Int) ≤ (j : Int) ∧ wrap64 (10 * (a : Int)) = 10 * (a : Int) :=
  ⟨by omega, IntWalk.wrap64_in _ (by omega)⟩
theorem rep_byte {y : Nat} (hy : y < 256) (j : Nat) : ∀ z ∈ List.replicate j (y : Int), 0 ≤ z ∧ z < 256 := fun z hz => by
  have := List.eq_of_mem_replicate hz
  omega

set_option maxRecDepth 100000 in
set_option maxHeartbeats 1600000 in
theorem walk (x : Int) (hx : 0 ≤ x ∧ x ≤ 255) (n lv : Int) (w : World) (hk : Kin w) :
    Calls Tryd.prog 6 #[.int .u8 x, .int .i64 n, .int .i64 lv] w fun e w' => e = .returned (.bool true) ∧ Below w.heap.size w w' := by
  obtain ⟨i0, hi, hz0, hz1, hz2⟩ := info_parts Tryd.infoByteC
  obtain ⟨r, hr, er⟩ := u64_mod n 500 (by omega)
  obtain ⟨l, hl, el⟩ := u64_mod lv 3 (by omega)
  obtain ⟨y, rfl⟩ := Int.eq_ofNat_of_zero_le hx.1
  have hy : y < 256 := by omega
  have er2 : wrap64 (r : Int) = r := IntWalk.wrap64_in _ (by omega)
  obtain ⟨N, hN⟩ : ∃ N : Nat, N = 1500 + r := ⟨_, rfl⟩
  have eN : (1500 + (r : Int)) = (N : Int) := by omega
  have eN2 : wrap64 (N : Int) = N := IntWalk.wrap64_in _ (by omega)
  have el2 : wrap64 (l : Int) = l := IntWalk.wrap64_in _ (by omega)
  have hN2 : 1500 ≤ N ∧ N < 2000 := by omega
  have HK := Lib.hid hk
  clear hk hN
  go_enter Tryd.func6, Tryd.ntmps6
  go_wp2_with (at_make; refine wpList_make_zeros _ rfl _ _ 22 rfl 5 i0 .u8 1 Tryd.underlying22 hi hz0 hz1 hz2 _ _ _ _ N rfl rfl (by omega) (by omega) (by omega) (by unfold maxLen; omega) ?_)
  intro w1 ho1 hf1
  have H1 := Lib.hid (And.intro (show Own w1 5 .u8 (.slice (some ⟨w.heap.size, 0, none⟩) N N) (List.replicate 0 (y : Int) ++ List.replicate (N - 0) 0) by simpa using ho1) hf1)
  clear ho1 hf1
  generalize hg : w.heap.size = g at *
  go_wp2_with fail
  go_loopw [20, 8] (fun i _ wr => ∃ j : Nat, j ≤ N ∧ i = .int .i64 j ∧ Own wr 5 .u8 (.slice (some ⟨g, 0, none⟩) N N) (List.replicate j (y : Int) ++ List.replicate (N - j) 0) ∧ Fresh w wr) (fun i _ _ => (N - intOf i).toNat)
  case atStart => exact ⟨0, by omega, rfl, H1.out.1, H1.out.2⟩
  case round =>
    obtain ⟨j, hj, rfl, ho, hf⟩ := hrel
    clear H1
    have hol : (List.replicate j (y : Int) ++ List.replicate (N - j) 0).length = N := by simp; omega
    by_cases hlt : j < N
    · have j0 : (j : Int) < (N : Int) := by omega
      have cg := ho.cellN hol hlt
      have fg := ho.frozenN hol j
      have ho2 := ho.storeN hol j (y : Int)
      rw [set_next _ N j _ (by simp) hlt, ← List.replicate_succ'] at ho2
      have hf2 := hf.trans (Kept.one wr g j (.int .u8 (y : Int))) (fun k hk e => by have e' : k = g := e; omega)
      have H2 := Lib.hid (And.intro ho2 hf2)
      clear ho hf ho2 hf2 hol
      go_wp2_with fail
      go_roundw
      case rel => exact ⟨j + 1, by omega, by go_num, H2.out.1, H2.out.2⟩
      case measure => simp [intOf]; omega
    · obtain rfl : j = N := by omega
      have j0 : ¬ (j : Int) < (j : Int) := by omega
      rw [Nat.sub_self, List.replicate_zero, List.append_nil] at ho
      obtain ⟨A, c, ev, hr2, _⟩ := ho.row
      rw [List.length_replicate] at ev hr2
      obtain ⟨rfl, rfl⟩ : some (⟨g, 0, none⟩ : Addr) = A ∧ j = c := by injection ev with h1 _ h3; exact ⟨h1, h3⟩
      have q1 : j ≤ 1048576 := Nat.le_trans (Nat.le_of_lt hN2.2) (by decide)
      have q2 : l ≤ 2 := by clear ho hol hf hr2 er el er2 el2 eN eN2; omega
      have HP := Lib.hid (cPack_any _ j j _ l wr (HK.out.kept hf id) hr2 (byteC (rep_byte hy j)) q1 q2)
      have hsm := packB_small (lv := l) hy q2 (n := j) hN2.1
      have HF := Lib.hid hf
      clear hf ho hr2 ev
      generalize packB l (bbs (List.replicate j (y : Int))) = zs at *
      go_wp2_with fail
      refine HP.out.mono ?_
      rintro e w2 ⟨u, rfl, hu, _, hf2⟩
      obtain ⟨Au, cu, rfl, _, _⟩ := hu.row
      have hk2 := HF.out.trans hf2 (fun _ _ h => h)
      have HA := Lib.hid (awake_any w2 (HK.out.kept hk2 id))
      have H2 := Lib.hid hk2
      obtain ⟨hs1, hs2⟩ := ten_wrap hsm hN2.2
      clear hu hf2 hk2 HF HP hsm
      go_wp2_with fail
      refine HA.out.mono ?_
      rintro e w3 ⟨rfl, hf3⟩
      have H3 := Lib.hid (H2.out.trans hf3 (fun _ _ h => h)).toBelow
      clear hf3 HA H2
      go_wp2_with fail
      go_ret
      exact ⟨rfl, H3.out⟩

set_option maxRecDepth 100000 in
theorem lifted (os : Os) (started : os.Started) (H : Type) (enc : TypeId × Value → H) :
    ReturnsInHanded {} Tryd.checked os 6 .any (fun w args => (Rows.streamSmallSpec.pre enc Tryd.prog Tryd.f6 [] false w args ∧ laidMetH Tryd.prog laidK w) ∧ sizedMet enc Tryd.prog Tryd.f6 (OpenSpec.ofChange Rows.streamSmallSpec) false w args)
      (Rows.streamSmallSpec.post enc Tryd.prog Tryd.f6 false true false false) := by
  refine returnsInHanded_of_change_and (C := Tryd.checked) (X := fun w _ => laidMetH Tryd.prog laidK w) (fun _ _ _ hh h => h.of_heap hh) Tryd.own started (by kernel_rfl) Tryd.func6
    (ChangeSpec.witness_shaped (enc := enc) (C := Tryd.checked) (os := os) (X := fun w _ => laidMetH Tryd.prog laidK w) false (World.doorLaid Tryd.prog 17 os) #[.int .u8 0, .int .i64 0, .int .i64 0] 8 rfl (World.shaped_of_RefB (by kernel_rfl) (by kernel_rfl)) (by kernel_rfl) (by kernel_rfl) (by kernel_rfl) (door_met os _)) ?_
  intro W base args ds gs before hval0 hW _ _ hL _
  have hval : ∀ (j : Nat) t v, Tryd.f6.params[j]? = some t → args[j]? = some v → Value.okWide Tryd.prog W .any base t v := hval0
  have hpost : ∀ W', Below W.heap.size W W' → Rows.streamSmallSpec.post enc Tryd.prog Tryd.f6 false true false false W args (.bool true) W' := fun W' hb =>
    law_post (by kernel_rfl) Tryd.underlying4 (by kernel_rfl) rfl (fun ds hl => match ds, hl with | [d1, d2, d3], _ => ⟨rfl, rfl, rfl⟩) hW hb
  obtain ⟨p, q, hA0, hV, rfl, hfz, hnd⟩ := hW
  have hA : DataW.TrodAll enc Tryd.prog W 0 (fun _ => true) true Tryd.f6.params.toList args.toList ds p := hA0
  rw [Tryd.params6] at hA hval
  obtain ⟨v0, vs0, d0, ds0, p0, q0, hargs, rfl, rfl, h0, r0⟩ := trodAll_cons hA
  obtain ⟨v1, vs1, d1, ds1, p1, q1, rfl, rfl, rfl, h1, r1⟩ := trodAll_cons r0
  obtain ⟨v2, vs2, d2, ds2, p2, q2, rfl, rfl, rfl, h2, r2⟩ := trodAll_cons r1
  obtain ⟨rfl, rfl, rfl⟩ := trodAll_nil r2
  obtain rfl : args = #[v0, v1, v2] := by cases args; simp_all
  obtain ⟨a0, rfl, rfl, rfl, w0⟩ := open_int Tryd.underlying5 (hval 0 5 v0 rfl rfl) h0
  obtain ⟨a1, rfl, rfl, rfl, w1⟩ := open_int Tryd.underlying3 (hval 1 3 v1 rfl rfl) h1
  obtain ⟨a2, rfl, rfl, rfl, w2⟩ := open_int Tryd.underlying3 (hval 2 3 v2 rfl rfl) h2
  refine (walk a0 (bounds_u8 w0) a1 a2 W (kin_of_laid hL)).mono fun e W' ⟨he, hb⟩ => ⟨_, he, hpost W' hb⟩

/-- The row. -/
theorem row_proved : Rows.StreamSmallSaid :=
  OpenClaim.holds_of_wide 6 Tryd.f6 rfl rfl rfl rfl rfl rfl rfl ⟨rfl, rfl, rfl, rfl, rfl⟩ rfl rfl rfl rfl rfl (by kernel_rfl) Tryd.func6 (by kernel_rfl)
    (of_decide_eq_true (by kernel_rfl)) (by unfold Func.isWrapper; first | (rw [if_pos (by decide +kernel)]; kernel_rfl) | (rw [if_neg (by decide +kernel)]; exact ⟨rfl, rfl⟩))
    (fun os started H enc _ => lifted os started H enc)

/-- The statement: the tied card. -/
theorem proved : Rows.StreamSmallCardSaid :=
  Claim7.holds_tied_plain_at .later [] [.data] true (true, "8330b7bf38052f90f88a9fa0d9cd396e9b05c0988097ea5622d998c1e3d70067") false
    row_proved (fun _ h => by cases h) (by kernel_rfl) (fun _ h => by cases h) streamSmall_row_tie rfl ⟨rfl, rfl⟩ (by kernel_rfl) rfl
    (fun f fn hf hfn => by
      obtain rfl : f = 6 := Option.some.inj ((show Tryd.prog.funcNamed "valise/valiselaw09.StreamSmall" = some 6 by kernel_rfl).symm.trans hf) |>.symm
      obtain rfl : fn = Tryd.f6 := (Option.some.inj (Tryd.func6.symm.trans hfn)).symm
      exact ⟨by kernel_rfl, fun j t ht => by
        rw [Tryd.params6] at ht
        have hm : t ∈ [5, 3] := by
          have := Array.mem_of_getElem? ht
          simp at this ⊢; omega
        have hall : ([5, 3].all fun u => !Tryd.prog.wantsStandIn u) = true := by kernel_rfl
        exact (show Tryd.prog.wantsStandIn t = false by simpa using List.all_eq_true.1 hall t hm)⟩)
    (by kernel_rfl)
#print axioms proved

end Go.Proofs.YtpknbfkknnaajaaDoor.streamSmall
