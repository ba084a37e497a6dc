/- ModelLearns: behind 60 of one byte the chance of each of its bits is three quarters at least. The tied card, for every level and every byte. -/
import Derived.Test.YtolpjncmjokniaaDoorModAw
import Derived.Test.YtolpjncmjokniaaDoorModRun
import Derived.Test.YtolpjncmjokniaaDoorTie
import Derived.Test.YtolpjncmjokniaaDoorCards
import Derived.SevenTiedAt
namespace Go.Proofs.YtolpjncmjokniaaDoor.modelLearns
open Go.ChangeShapes Go.WideShapes Go.ChangeAt Go.RowKit

attribute [local go_sem ↓] Go.wp_at_zero Go.wp_at_succ

theorem bit_val {c k : Nat} (hc : c < 256) (hk : k ≤ 7) : ∃ v : Nat, v ≤ 1 ∧ bits .and .u8 ((c : Int) / 2 ^ k) 1 = (v : Int) ∧ ((v : Int) != 0) = bit c (7 - k) := by
  have h1 : (c : Int) / 2 ^ k = ((c / 2 ^ k : Nat) : Int) := by simp
  have h2 : c / 2 ^ k ≤ c := Nat.div_le_self _ _
  refine ⟨c / 2 ^ k % 2, by omega, ?_, ?_⟩
  · rw [h1]
    have := u8_and_nat (c / 2 ^ k) 1 (by omega) (by omega)
    rw [Nat.and_one_is_mod] at this
    exact this
  · unfold bit
    rw [show 7 - (7 - k) = k by omega]
    rcases Nat.mod_two_eq_zero_or_one (c / 2 ^ k) with h | h <;> rw [h] <;> rfl

set_option maxHeartbeats 1600000 in
set_option maxRecDepth 100000 in
theorem walk (n : Int) (c : Nat) (hc : c < 256) (w : World) (hk : Kin w) : Calls Tryd.prog 4 #[.int .i64 n, .int .u8 c] w fun e w' => e = .returned (.bool true) ∧ Below w.heap.size w w' := by
  have HN := Lib.hid (mdNew_any n w hk)
  have hl := lvl_bd n
  have hp0 := hk.pos
  generalize lvl n = lv at *
  clear hk
  go_enter Tryd.func4, Tryd.ntmps4
  go_wp2_with fail
  refine HN.out.mono ?_
  rintro e w1 ⟨g, rfl, hm, hf⟩
  have HA := Lib.hid (awake_any w1 hm.kin)
  have HM := Lib.hid (And.intro hm hf)
  clear hm hf HN
  go_wp2_with fail
  refine HA.out.mono ?_
  rintro e w2 ⟨rfl, hf2⟩
  have hM2 : Mdl (fun k => w.heap.size ≤ k) w2 g lv (run lv c 0) ∧ Fresh w w2 := ⟨(HM.out.1.fresh hf2).wide (fun k e => e.1) (fun k e => Nat.lt_of_lt_of_le hp0 e), HM.out.2.trans hf2 (fun _ _ h => h)⟩
  have H2 := Lib.hid hM2
  clear hM2 hf2 HM HA
  go_wp2_with fail
  go_loopw [6] (fun i wr => ∃ a : Nat, a ≤ 60 ∧ i = .int .i64 a ∧ Mdl (fun k => w.heap.size ≤ k) wr g lv (run lv c (8 * a)) ∧ Fresh w wr) (fun i _ => (60 - intOf i).toNat)
  case atStart => exact ⟨0, by omega, rfl, H2.out⟩
  case round =>
    obtain ⟨a, ha, rfl, hm, hf⟩ := hrel
    clear H2
    have HM := Lib.hid (And.intro hm hf)
    clear hm hf
    by_cases hlt : a < 60
    · have a0 : (a : Int) < 60 := by omega
      go_wp2_with fail
      obtain ⟨w0, rfl⟩ : ∃ w0, w0 = wr := ⟨_, rfl⟩
      go_loopw [7] (fun i wr => ∃ z : Nat, z ≤ 8 ∧ i = .int .i64 ((z : Int) - 1) ∧ Mdl (fun k => w.heap.size ≤ k) wr g lv (run lv c (8 * a + (8 - z))) ∧ Fresh w wr) (fun i _ => (intOf i + 1).toNat)
      case atStart => exact ⟨8, by omega, rfl, HM.out⟩
      case round =>
        obtain ⟨z, hz, rfl, hm, hf⟩ := hrel
        clear HM
        have HM := Lib.hid (And.intro hm hf)
        clear hm hf
        by_cases hz0 : z = 0
        · subst hz0
          go_wp2_with fail
          go_roundw
          case rel => exact ⟨a + 1, by omega, by go_num, HM.out⟩
          case measure => simp [intOf]; omega
        · obtain ⟨k, rfl⟩ : ∃ k, z = k + 1 := ⟨z - 1, by omega⟩
          have ek : (((k + 1 : Nat) : Int) - 1) = (k : Int) := by omega
          rw [ek]
          have k0 : (0 : Int) ≤ (k : Int) := by omega
          have k1 : (k : Int) ≤ 7 := by omega
          obtain ⟨v, hv1, hv2, hv3⟩ := bit_val hc (show k ≤ 7 by omega)
          have hL := mdLearn_any _ g lv _ v wr HM.out.1
          rw [hv3, show bit c (7 - k) = bit c ((8 * a + (8 - (k + 1))) % 8) from congrArg (bit c) (by omega), show (run lv c (8 * a + (8 - (k + 1)))).learn lv (bit c ((8 * a + (8 - (k + 1))) % 8)) = run lv c (8 * a + (8 - (k + 1)) + 1) from rfl, show 8 * a + (8 - (k + 1)) + 1 = 8 * a + (8 - k) by omega] at hL
          have HL := Lib.hid hL
          have v0 : (0 : Int) ≤ (v : Int) := by omega
          have v1 : (v : Int) ≤ 1 := by omega
          clear hv3 hL
          go_wp2_with fail
          refine HL.out.mono ?_
          rintro e w5 ⟨rfl, hm5, hk5⟩
          have H5 := Lib.hid (And.intro hm5 (HM.out.2.trans hk5 (fun i hi e => by omega)))
          clear hm5 hk5 HM HL hv2
          go_wp2_with fail
          go_roundw
          case rel => exact ⟨k, by omega, by go_num, H5.out⟩
          case measure => simp [intOf] <;> omega
    · obtain rfl : a = 60 := by omega
      have a0 : ¬ ((60 : Nat) : Int) < 60 := by omega
      go_wp2_with fail
      go_loopw [8] (fun i wr => ∃ z : Nat, z ≤ 8 ∧ i = .int .i64 ((z : Int) - 1) ∧ Mdl (fun k => w.heap.size ≤ k) wr g lv (run lv c (480 + (8 - z))) ∧ Fresh w wr) (fun i _ => (intOf i + 1).toNat)
      case atStart => exact ⟨8, by omega, rfl, HM.out⟩
      case round =>
        obtain ⟨z, hz, rfl, hm, hf⟩ := hrel
        clear HM
        have HM := Lib.hid (And.intro hm hf)
        clear hm hf
        by_cases hz0 : z = 0
        · subst hz0
          go_wp2_with fail
          go_ret
          exact ⟨rfl, HM.out.2.toBelow⟩
        · obtain ⟨k, rfl⟩ : ∃ k, z = k + 1 := ⟨z - 1, by omega⟩
          have ek : (((k + 1 : Nat) : Int) - 1) = (k : Int) := by omega
          rw [ek]
          have k0 : (0 : Int) ≤ (k : Int) := by omega
          have k1 : (k : Int) ≤ 7 := by omega
          obtain ⟨v, hv1, hv2, hv3⟩ := bit_val hc (show k ≤ 7 by omega)
          have hlk := run_likely hc hl (t := 480 + (8 - (k + 1))) (by omega) (by omega)
          rw [show (480 + (8 - (k + 1))) % 8 = 7 - k by omega, ← hv3] at hlk
          have HC := Lib.hid (mChance_any _ g lv _ wr HM.out.1)
          have HL : Hid (∀ V, Mdl (fun k => w.heap.size ≤ k) V g lv (run lv c (480 + (8 - (k + 1)))) → Calls Tryd.prog 12 #[.pointer (some ⟨g, 0, none⟩), .int .i64 v] V fun e w' => e = .returned (.tuple #[]) ∧ Mdl (fun k => w.heap.size ≤ k) w' g lv (run lv c (480 + (8 - k))) ∧ Kept (fun k => w.heap.size ≤ k) V w') := Lib.hid fun V hV => by
            have hL := mdLearn_any _ g lv _ v V hV
            rwa [hv3, show bit c (7 - k) = bit c ((480 + (8 - (k + 1))) % 8) from congrArg (bit c) (by omega), show (run lv c (480 + (8 - (k + 1)))).learn lv (bit c ((480 + (8 - (k + 1))) % 8)) = run lv c (480 + (8 - (k + 1)) + 1) from rfl, show 480 + (8 - (k + 1)) + 1 = 480 + (8 - k) by omega] at hL
          obtain ⟨p1, p2⟩ := HM.out.1.fine.chance_bd lv
          clear hv3
          generalize (run lv c (480 + (8 - (k + 1)))).chance lv = p at *
          rcases (by omega : v = 0 ∨ v = 1) with rfl | rfl
          · have hp : 3072 ≤ 4096 - p := of_decide_eq_true hlk
            go_wp2_with fail
            refine HC.out.mono ?_
            rintro e w5 ⟨rfl, hm5, hk5⟩
            have H5 := Lib.hid (And.intro hm5 (HM.out.2.trans hk5 (fun i hi e => by omega)))
            clear hm5 hk5 HM HC
            go_wp2_with fail
            refine (HL.out _ H5.out.1).mono ?_
            rintro e w6 ⟨rfl, hm6, hk6⟩
            have H6 := Lib.hid (And.intro hm6 (H5.out.2.trans hk6 (fun i hi e => by omega)))
            clear hm6 hk6 H5 HL
            go_wp2_with fail
            go_roundw
            case rel => exact ⟨k, by omega, by go_num, H6.out⟩
            case measure => simp [intOf] <;> omega
          · have hp : 3072 ≤ p := of_decide_eq_true hlk
            go_wp2_with fail
            refine HC.out.mono ?_
            rintro e w5 ⟨rfl, hm5, hk5⟩
            have H5 := Lib.hid (And.intro hm5 (HM.out.2.trans hk5 (fun i hi e => by omega)))
            clear hm5 hk5 HM HC
            go_wp2_with fail
            refine (HL.out _ H5.out.1).mono ?_
            rintro e w6 ⟨rfl, hm6, hk6⟩
            have H6 := Lib.hid (And.intro hm6 (H5.out.2.trans hk6 (fun i hi e => by omega)))
            clear hm6 hk6 H5 HL
            go_wp2_with fail
            go_roundw
            case rel => exact ⟨k, by omega, by go_num, H6.out⟩
            case measure => simp [intOf] <;> omega

set_option maxRecDepth 100000 in
theorem lifted (os : Os) (started : os.Started) (H : Type) (enc : TypeId × Value → H) :
    ReturnsInHanded {} Tryd.checked os 4 .any (fun w args => (Rows.modelLearnsSpec.pre enc Tryd.prog Tryd.f4 [] false w args ∧ laidMetH Tryd.prog laidK w) ∧ sizedMet enc Tryd.prog Tryd.f4 (OpenSpec.ofChange Rows.modelLearnsSpec) false w args)
      (Rows.modelLearnsSpec.post enc Tryd.prog Tryd.f4 false true false false) := by
  refine returnsInHanded_of_change_and (C := Tryd.checked) (X := fun w _ => laidMetH Tryd.prog laidK w) (fun _ _ _ hh h => h.of_heap hh) Tryd.own started (by kernel_rfl) Tryd.func4
    (ChangeSpec.witness_shaped (enc := enc) (C := Tryd.checked) (os := os) (X := fun w _ => laidMetH Tryd.prog laidK w) false (World.doorLaid Tryd.prog 17 os) #[.int .i64 0, .int .u8 0] 8 rfl (World.shaped_of_RefB (by kernel_rfl) (by kernel_rfl)) (by kernel_rfl) (by kernel_rfl) (by kernel_rfl) (door_met os _)) ?_
  intro W base args ds gs before hval0 hW _ _ hL _
  have hval : ∀ (j : Nat) t v, Tryd.f4.params[j]? = some t → args[j]? = some v → Value.okWide Tryd.prog W .any base t v := hval0
  have hpost : ∀ W', Below W.heap.size W W' → Rows.modelLearnsSpec.post enc Tryd.prog Tryd.f4 false true false false W args (.bool true) W' := fun W' hb =>
    law_post (by kernel_rfl) Tryd.underlying4 (by kernel_rfl) rfl (fun ds hl => match ds, hl with | [d1, d2], _ => ⟨rfl, rfl, rfl⟩) hW hb
  obtain ⟨p, q, hA0, hV, rfl, hfz, hnd⟩ := hW
  have hA : DataW.TrodAll enc Tryd.prog W 0 (fun _ => true) true Tryd.f4.params.toList args.toList ds p := hA0
  rw [Tryd.params4] at hA hval
  obtain ⟨v0, vs0, d0, ds0, p0, q0, hargs, rfl, rfl, h0, r0⟩ := trodAll_cons hA
  obtain ⟨v1, vs1, d1, ds1, p1, q1, rfl, rfl, rfl, h1, r1⟩ := trodAll_cons r0
  obtain ⟨rfl, rfl, rfl⟩ := trodAll_nil r1
  obtain rfl : args = #[v0, v1] := by cases args; simp_all
  obtain ⟨a0, rfl, rfl, rfl, w0⟩ := open_int Tryd.underlying3 (hval 0 3 v0 rfl rfl) h0
  obtain ⟨a1, rfl, rfl, rfl, w1⟩ := open_int Tryd.underlying5 (hval 1 5 v1 rfl rfl) h1
  have hb1 := bounds_u8 w1
  obtain ⟨c, rfl⟩ := Int.eq_ofNat_of_zero_le hb1.1
  refine (walk a0 c (by omega) W (kin_of_laid hL)).mono fun e W' ⟨he, hb⟩ => ⟨_, he, hpost W' hb⟩

/-- The row. -/
theorem row_proved : Rows.ModelLearnsSaid :=
  OpenClaim.holds_of_wide 4 Tryd.f4 rfl rfl rfl rfl rfl rfl rfl ⟨rfl, rfl, rfl, rfl, rfl⟩ rfl rfl rfl rfl rfl (by kernel_rfl) Tryd.func4 (by kernel_rfl)
    (of_decide_eq_true (by kernel_rfl)) (by unfold Func.isWrapper; first | (rw [if_pos (by decide +kernel)]; kernel_rfl) | (rw [if_neg (by decide +kernel)]; exact ⟨rfl, rfl⟩))
    (fun os started H enc _ => lifted os started H enc)

/-- The statement: the tied card. -/
theorem proved : Rows.ModelLearnsCardSaid :=
  Claim7.holds_tied_plain_at .later [] [.data] true (true, "bb50c3ee959bc681252a19cd03d2b0412e9a9b921a0c082f4d30dafe5854a3ce") false
    row_proved (fun _ h => by cases h) (by kernel_rfl) (fun _ h => by cases h) modelLearns_row_tie rfl ⟨rfl, rfl⟩ (by kernel_rfl) rfl
    (fun f fn hf hfn => by
      obtain rfl : f = 4 := Option.some.inj ((show Tryd.prog.funcNamed "valise/valiselaw08.ModelLearns" = some 4 by kernel_rfl).symm.trans hf) |>.symm
      obtain rfl : fn = Tryd.f4 := (Option.some.inj (Tryd.func4.symm.trans hfn)).symm
      exact ⟨by kernel_rfl, fun j t ht => by
        rw [Tryd.params4] at ht
        have hm : t ∈ [3, 5] := by
          have := Array.mem_of_getElem? ht
          simp at this ⊢; omega
        have hall : ([3, 5].all fun u => !Tryd.prog.wantsStandIn u) = true := by kernel_rfl
        exact (show Tryd.prog.wantsStandIn t = false by simpa using List.all_eq_true.1 hall t hm)⟩)
    (by kernel_rfl)
#print axioms proved

end Go.Proofs.YtolpjncmjokniaaDoor.modelLearns
