/- FixedFlat: of numbers that are alike nothing is left of order 1 but the first one; of numbers that rise evenly nothing of order 2 but the first two; of such as rise by evenly rising steps nothing of order 3 but the first three. -/
import Derived.Test.YtiioikpjgeggdaaFixC
import Derived.Test.YtiioikpjgeggdaaFixFlatM
import Derived.Test.YtiioikpjgeggdaaArgs
namespace Go.Proofs.Ytiioikpjgeggdaa.fixedFlat
open Go.ChangeShapes Go.WideShapes Go.ChangeAt Go.RowKit

attribute [local go_sem ↓] Go.wp_at_zero Go.wp_at_succ

set_option maxRecDepth 100000 in
set_option maxHeartbeats 3200000 in
theorem walk (ok : FixedOK) (a : Int) (ha : -2147483648 ≤ a ∧ a ≤ 2147483647) (b : Int) (hb : -2147483648 ≤ b ∧ b ≤ 2147483647) (c : Int) (_ : -2147483648 ≤ c ∧ c ≤ 2147483647) (m : Int) (w : World) :
    Calls Try.prog 5 #[.int .i32 a, .int .i32 b, .int .i32 c, .int .i64 m] w fun e w' => e = .returned (.bool true) ∧ Below w.heap.size w w' := by
  obtain ⟨i4, hi4, h40, h41, h42⟩ := info_parts Try.infoI32F
  obtain ⟨r, hr0, hrr⟩ := u64_mod m 300 (by omega)
  have hr1 : 0 ≤ IntKind.u64.wrap m := by rw [IntKind.wrap_u64]; omega
  rw [Int.tmod_eq_emod_of_nonneg hr1] at hrr
  have Hr := Lib.hid hrr
  have HO := Lib.hid ok
  have HA32 := Lib.hid (And.intro (show -2147483648 ≤ a ∧ a < 2147483648 by omega) (show -2147483648 ≤ b ∧ b < 2147483648 by omega))
  have r0 : (0 : Int) ≤ (r : Int) := by omega
  have r1 : (r : Int) ≤ 299 := by omega
  clear hrr ok
  go_enter Try.func5, Try.ntmps5
  go_wp2_with fail
  rw [Hr.out]
  go_loopw [14, 9, 10, 11, 12, 13] (fun i x y z v s wr => ∃ j : Nat, j ≤ r ∧ i = .int .i64 j ∧ v = .int .i32 (zst a b c j).1 ∧ s = .int .i32 (zst a b c j).2 ∧ Tri3 w wr x y z (List.replicate j a) (ysq a b j) (zsq a b c j)) (fun i _ _ _ _ _ _ => (r - intOf i).toNat)
  case atStart => exact ⟨0, by omega, rfl, rfl, rfl, ⟨Own.nil _ _ _, Own.nil _ _ _, Own.nil _ _ _, fun k e => (by cases e), fun k e => (by cases e), fun k e => (by cases e), fun k e => (by cases e), fun k e => (by cases e), fun k e => (by cases e), Kept.refl _ _⟩⟩
  case round =>
    obtain ⟨j, hj, rfl, rfl, rfl, ht⟩ := hrel
    have HT := Lib.hid ht
    clear ht
    by_cases hlt : j < r
    · have j0 : (j : Int) < (r : Int) := by omega
      have hlx : (List.replicate j a).length = j := by simp
      have hly := ysq_length a b j
      have hlz := zsq_length a b c j
      have Hx : Hid (List.replicate (j + 1) a = List.replicate j a ++ [a]) := Lib.hid List.replicate_succ'
      have Hy : Hid (ysq a b (j + 1) = ysq a b j ++ [w32 (a + w32 (b * (j : Int)))]) := Lib.hid rfl
      have Hz : Hid (zsq a b c (j + 1) = zsq a b c j ++ [(zst a b c j).1]) := Lib.hid rfl
      have Hst : Hid ((zst a b c (j + 1)).1 = w32 ((zst a b c j).1 + (zst a b c j).2) ∧ (zst a b c (j + 1)).2 = w32 ((zst a b c j).2 + c)) := Lib.hid ⟨rfl, rfl⟩
      have hv := (zst_32 c HA32.out.1 HA32.out.2 j)
      generalize (zst a b c j).1 = v at *
      generalize (zst a b c j).2 = s at *
      generalize List.replicate j a = X at *
      generalize ysq a b j = Y at *
      generalize zsq a b c j = Z at *
      go_wp2_with (at_builtin; refine wpList_app _ rfl (.tmp 30) (.tmp 32) 22 rfl 21 i4 .i32 4 Try.underlying22 hi4 h40 h41 h42 _ X rfl (HT.out.ox.alloc _) _ 1 1 [a] rfl (Row.one _ _ _ _) (by unfold maxLen; omega) (by omega) ?_)
      intro x9 w1 ho9 hg9 hat9
      rw [← Hx.out] at ho9
      have HT1 := Lib.hid (HT.out.app ho9 hg9 hat9).rot
      clear ho9 hg9 hat9 HT Hx
      go_wp2_with (at_builtin; refine wpList_app _ rfl (.tmp 34) (.tmp 41) 22 rfl 21 i4 .i32 4 Try.underlying22 hi4 h40 h41 h42 _ Y rfl (HT1.out.ox.alloc _) _ 1 1 [wrap32 (a + wrap32 (b * (j : Int)))] rfl (Row.one _ _ _ _) (by unfold maxLen; omega) (by omega) ?_)
      intro y9 w2 ho9 hg9 hat9
      rw [w32_wr, w32_wr, ← Hy.out] at ho9
      have HT2 := Lib.hid (HT1.out.app ho9 hg9 hat9).rot
      clear ho9 hg9 hat9 HT1 Hy
      go_wp2_with (at_builtin; refine wpList_app _ rfl (.tmp 43) (.tmp 45) 22 rfl 21 i4 .i32 4 Try.underlying22 hi4 h40 h41 h42 _ Z rfl (HT2.out.ox.alloc _) _ 1 1 [v] rfl (Row.one _ _ _ _) (by unfold maxLen; omega) (by omega) ?_)
      intro z9 w3 ho9 hg9 hat9
      rw [← Hz.out] at ho9
      have HT3 := Lib.hid (HT2.out.app ho9 hg9 hat9).rot
      clear ho9 hg9 hat9 HT2 Hz
      go_wp2_with fail
      go_roundw
      case rel => exact ⟨j + 1, by omega, by go_num, by rw [Hst.out.1, ← w32_wr], by rw [Hst.out.2, ← w32_wr], HT3.out⟩
      case measure => simp [intOf]; omega
    · obtain rfl : j = r := by omega
      have hx32 := rep_32 HA32.out.1 j
      have hy32 := ysq_32 a b j
      have hz32 := zsq_32 c HA32.out.1 HA32.out.2 j
      have hlx : (List.replicate j a).length = j := by simp
      have hly := ysq_length a b j
      have hlz := zsq_length a b c j
      have Hfl : Hid ((∀ i, 1 ≤ i → i < j → (res 1 (List.replicate j a)).getD i 0 = 0) ∧ (∀ i, 2 ≤ i → i < j → (res 2 (ysq a b j)).getD i 0 = 0) ∧ ∀ i, 3 ≤ i → i < j → (res 3 (zsq a b c j)).getD i 0 = 0) := Lib.hid ⟨fun i h1 h2 => flat_x a h1 h2, fun i h1 h2 => flat_y a b h1 h2, fun i h1 h2 => flat_z a b c h1 h2⟩
      obtain ⟨Ax, cx, rfl, hx, _⟩ := HT.out.ox.row
      obtain ⟨Ay, cy, rfl, hy, _⟩ := HT.out.oy.row
      obtain ⟨Az, cz, rfl, hz, _⟩ := HT.out.oz.row
      have HF0 := Lib.hid HT.out.fr
      clear HT
      generalize List.replicate j a = X at *
      generalize ysq a b j = Y at *
      generalize zsq a b c j = Z at *
      rw [hlx] at hx
      rw [hly] at hy
      rw [hlz] at hz
      rw [hlx, hly, hlz]
      have HX := Lib.hid (And.intro hx hx32)
      have HY := Lib.hid (And.intro hy hy32)
      have HZ := Lib.hid (And.intro hz hz32)
      clear hx hy hz hx32 hy32 hz32 hlx hly hlz
      have HC1 := Lib.hid (HO.out.resR cx 1 HX.out.1 HX.out.2 (by omega))
      go_wp2_with fail
      refine HC1.out.mono ?_
      rintro e w1 ⟨B1, c1, rfl, hr1, hf1⟩
      rw [show ko 1 = 1 from rfl] at hr1
      have HR1 := Lib.hid hr1
      have HF1 := Lib.hid (Fresh.two HF0.out hf1)
      have HC2 := Lib.hid (HO.out.resR cy 2 (HY.out.1.fresh hf1) HY.out.2 (by omega))
      have HZ1 := Lib.hid (HZ.out.1.fresh hf1)
      clear hr1 hf1 HC1 HX HF0
      go_wp2_with fail
      refine HC2.out.mono ?_
      rintro e w2 ⟨B2, c2, rfl, hr2, hf2⟩
      rw [show ko 2 = 2 from rfl] at hr2
      have HR2 := Lib.hid (And.intro (HR1.out.fresh hf2) hr2)
      have HF2 := Lib.hid (Fresh.two HF1.out hf2)
      have HC3 := Lib.hid (HO.out.resR cz 3 (HZ1.out.fresh hf2) HZ.out.2 (by omega))
      clear hr2 hf2 HC2 HR1 HF1 HY HZ1
      go_wp2_with fail
      refine HC3.out.mono ?_
      rintro e w3 ⟨B3, c3, rfl, hr3, hf3⟩
      rw [show ko 3 = 3 from rfl] at hr3
      have HR3 := Lib.hid (And.intro (HR2.out.1.fresh hf3) (And.intro (HR2.out.2.fresh hf3) hr3))
      have HF3 := Lib.hid (Fresh.two HF2.out hf3)
      have HA := Lib.hid (awakeF_any HO.out w3)
      clear hr3 hf3 HC3 HR2 HF2 HZ
      go_wp2_with fail
      refine HA.out.mono ?_
      rintro e w4 ⟨rfl, hf4⟩
      have HR4 := Lib.hid (And.intro (HR3.out.1.fresh hf4) (And.intro (HR3.out.2.1.fresh hf4) (HR3.out.2.2.fresh hf4)))
      have HF4 := Lib.hid (Fresh.two HF3.out hf4).toBelow
      have hne : ((j : Int) != (j : Int)) = false := by simp
      clear hf4 HA HR3 HF3
      go_wp2_with fail
      go_loopw [18] (fun i wr => ∃ t : Nat, t ≤ j + 1 ∧ 1 ≤ t ∧ i = .int .i64 t ∧ wr = w4) (fun i _ => (j + 1 - intOf i).toNat)
      case atStart => exact ⟨1, by omega, by omega, rfl, rfl⟩
      case round =>
        obtain ⟨t, ht, ht1, rfl, rfl⟩ := hrel
        by_cases htj : t < j
        · have t0 : (t : Int) < (j : Int) := by omega
          obtain ⟨b1, o1, e1, _, d1⟩ := HR4.out.1.at_ t htj
          rw [Hfl.out.1 t ht1 htj] at d1
          have z1 : ((0 : Int) != 0) = false := rfl
          subst e1
          obtain ⟨b2, o2, e2, _, d2⟩ := HR4.out.2.1.at_ t htj
          subst e2
          obtain ⟨b3, o3, e3, _, d3⟩ := HR4.out.2.2.at_ t htj
          subst e3
          by_cases h2 : 2 ≤ t
          · rw [Hfl.out.2.1 t h2 htj] at d2
            have g2 : (2 : Int) ≤ (t : Int) := by omega
            by_cases h3 : 3 ≤ t
            · rw [Hfl.out.2.2 t h3 htj] at d3
              have g3 : (3 : Int) ≤ (t : Int) := by omega
              go_wp2_with fail
              go_roundw
              case rel => exact ⟨t + 1, by omega, by omega, by go_num, trivial⟩
              case measure => simp [intOf]; omega
            · have g3 : ¬ (3 : Int) ≤ (t : Int) := by omega
              go_wp2_with fail
              go_roundw
              case rel => exact ⟨t + 1, by omega, by omega, by go_num, trivial⟩
              case measure => simp [intOf]; omega
          · have g2 : ¬ (2 : Int) ≤ (t : Int) := by omega
            have g3 : ¬ (3 : Int) ≤ (t : Int) := by omega
            go_wp2_with fail
            go_roundw
            case rel => exact ⟨t + 1, by omega, by omega, by go_num, trivial⟩
            case measure => simp [intOf]; omega
        · have t0 : ¬ (t : Int) < (j : Int) := by omega
          go_wp2_with fail
          go_ret
          exact ⟨rfl, HF4.out⟩

set_option maxRecDepth 100000 in
theorem lifted (os : Os) (started : os.Started) (H : Type) (enc : TypeId × Value → H) :
    ReturnsInHanded {} Try.checked os 5 .any (Rows.fixedFlatSpec.pre6 enc Try.prog Try.f5 Rows.fixedFlatRow.domain false) (Rows.fixedFlatSpec.post enc Try.prog Try.f5 false true false false) := by
  refine returnsInHanded_of_change (C := Try.checked) Try.own started (by kernel_rfl) Try.func5
    (ChangeSpec.witness6 (enc := enc) (C := Try.checked) false ⟨#[], #[.int .i32 0, .int .i32 0, .int .i32 0, .int .i64 0], []⟩ 8 (by kernel_rfl) (by kernel_rfl) (by kernel_rfl) (by kernel_rfl)) ?_
  intro W base args ds gs before hval0 hW hcnd _
  have hval : ∀ (j : Nat) t v, Try.f5.params[j]? = some t → args[j]? = some v → Value.okWide Try.prog W .any base t v := hval0
  have hpost : ∀ W', Below W.heap.size W W' → Rows.fixedFlatSpec.post enc Try.prog Try.f5 false true false false W args (.bool true) W' := fun W' hb =>
    law_post (by kernel_rfl) Try.underlying4 (by kernel_rfl) rfl (fun ds hl => match ds, hl with | [d1, d2, d3, d4], _ => ⟨rfl, rfl, rfl⟩) hW hb
  obtain ⟨p, q, hA0, hV, rfl, hfz, hnd⟩ := hW
  have hA : DataW.TrodAll enc Try.prog W 0 (fun _ => true) true Try.f5.params.toList args.toList ds p := hA0
  rw [Try.params5] at hA hval
  obtain ⟨v0, vs0, d0, ds0, p0, q0, hargs, rfl, rfl, h0, r0⟩ := trodAll_cons hA
  obtain ⟨v1, vs1, d1, ds1, p1, q1, rfl, rfl, rfl, h1, r1⟩ := trodAll_cons r0
  obtain ⟨v2, vs2, d2, ds2, p2, q2, rfl, rfl, rfl, h2, r2⟩ := trodAll_cons r1
  obtain ⟨v3, vs3, d3, ds3, p3, q3, rfl, rfl, rfl, h3, r3⟩ := trodAll_cons r2
  obtain ⟨rfl, rfl, rfl⟩ := trodAll_nil r3
  obtain rfl : args = #[v0, v1, v2, v3] := by cases args; simp_all
  obtain ⟨a0, rfl, rfl, rfl, w0⟩ := open_int Try.underlying21 (hval 0 21 v0 rfl rfl) h0
  obtain ⟨a1, rfl, rfl, rfl, w1⟩ := open_int Try.underlying21 (hval 1 21 v1 rfl rfl) h1
  obtain ⟨a2, rfl, rfl, rfl, w2⟩ := open_int Try.underlying21 (hval 2 21 v2 rfl rfl) h2
  obtain ⟨a3, rfl, rfl, rfl, w3⟩ := open_int Try.underlying3 (hval 3 3 v3 rfl rfl) h3
  refine (walk fixedOK a0 (bounds_i32 w0) a1 (bounds_i32 w1) a2 (bounds_i32 w2) a3 W).mono fun e W' ⟨he, hb⟩ => ⟨_, he, hpost W' hb⟩

/-- The statement. -/
theorem proved : Rows.FixedFlatSaid :=
  OpenClaim.holds_of_wide 5 Try.f5 rfl rfl rfl rfl rfl rfl rfl ⟨rfl, rfl, rfl, rfl, rfl⟩ rfl rfl rfl rfl rfl (by kernel_rfl) Try.func5 (by kernel_rfl)
    (of_decide_eq_true (by kernel_rfl)) (by unfold Func.isWrapper; first | (rw [if_pos (by decide +kernel)]; kernel_rfl) | (rw [if_neg (by decide +kernel)]; exact ⟨rfl, rfl⟩))
    (fun os started H enc _ => lifted os started H enc)
#print axioms proved

end Go.Proofs.Ytiioikpjgeggdaa.fixedFlat
