/- The document's Join. -/
import Derived.Test.YtcpmjaoglbgmbaaTraCK
namespace Go.Proofs.Ytcpmjaoglbgmbaa
open Go.RowKit
set_option maxRecDepth 100000

attribute [local go_sem ↓] Go.wp_at_zero Go.wp_at_succ

set_option maxHeartbeats 1600000 in
theorem qJoinArg_any (A : Option Addr) (n c : Nat) (bt : Int) (w : World) (h : ¬ fitT n bt) :
    Calls Try.prog 14 #[.int .i64 bt, .slice A n c] w fun e w' => e = .returned (.tuple #[.slice none 0 0, .int .i64 1]) ∧ Fresh w w' := by
  by_cases h1 : (n : Int) < 1
  · clear h
    go_enter Try.func14, Try.ntmps14
    go_wp2_with fail
    go_ret2
    exact ⟨rfl, Kept.refl _ _⟩
  · by_cases h2 : 8 < (n : Int)
    · clear h
      go_enter Try.func14, Try.ntmps14
      go_wp2_with fail
      go_ret2
      exact ⟨rfl, Kept.refl _ _⟩
    · have h3 : (bt != 8) = true := by
        rw [bne_iff_ne]
        rintro rfl
        exact h ⟨by omega, by omega, .inl rfl⟩
      have h4 : (bt != 16) = true := by
        rw [bne_iff_ne]
        rintro rfl
        exact h ⟨by omega, by omega, .inr rfl⟩
      clear h
      go_enter Try.func14, Try.ntmps14
      go_wp2_with fail
      go_ret2
      exact ⟨rfl, Kept.refl _ _⟩

set_option maxHeartbeats 6400000 in
theorem qJoin8_any (A : Option Addr) (n c : Nat) (T : Nat → List Int) (w : World) (hr : Trs w A n T) (hn : 1 ≤ n ∧ n ≤ 8) (hf : Few n T) :
    Calls Try.prog 14 #[.int .i64 8, .slice A n c] w fun e w' => JoinR w w' e 8 n T := by
  obtain ⟨i0, hi, hz0, hz1, hz2⟩ := info_parts Try.infoTr1
  obtain ⟨b, o, rfl, hb, D, C, hrd⟩ := hr.at_ hn.1
  have hrd : Rd w b o n T D C := hrd
  have HR : Hid (∀ V, Fresh w V → Rd V b o n T D C) := Lib.hid fun V hV => hrd.fresh hb hV
  have HF := Lib.hid hf
  have hl0 := (hf 0 (by omega)).1
  have c1 : ¬ (n : Int) < 1 := by omega
  have c2 : ¬ 8 < (n : Int) := by omega
  have n0 : (0 : Int) < (n : Int) := by omega
  have hc0 := (hrd 0 (by omega)).1
  rw [Nat.add_zero] at hc0
  obtain ⟨l0, hle⟩ : ∃ l0, (T 0).length = l0 := ⟨_, rfl⟩
  rw [hle] at hc0 hl0
  have HL := Lib.hid hle
  have Hc : Hid (∀ V, Fresh w V → V.cell? ⟨b, o, none⟩ = some (.slice (D 0) l0 (C 0))) := Lib.hid fun V hV => (hV.cell (p := ⟨b, o, none⟩) hb id).trans hc0
  clear hr hrd hf hle hc0
  go_enter Try.func14, Try.ntmps14
  go_wp2_with fail
  go_loopw [7] (fun i V => ∃ k : Nat, k ≤ n ∧ i = .int .i64 k ∧ (∃ m, V = w.drewN m) ∧ ∀ i, i < k → (T i).length = l0 ∧ ∀ j, j < (T i).length → okT 8 ((T i).getD j 0)) (fun i _ => (n - intOf i).toNat)
  case atStart => exact ⟨0, by omega, rfl, ⟨0, rfl⟩, fun i hi => absurd hi (Nat.not_lt_zero _)⟩
  case round =>
    obtain ⟨k, hk, rfl, ⟨m, hwm⟩, hall⟩ := hrel
    have hfr : Fresh w wr := by rw [hwm]; exact (Kept.refl _ _).drewN m
    have HA := Lib.hid (And.intro hall (And.intro hwm hfr))
    clear hall hwm
    have hc0 := Hc.out wr hfr
    by_cases hlt : k < n
    · obtain ⟨hck, hrk⟩ := HR.out wr hfr k hlt
      have hfk := (HF.out k hlt).1
      obtain ⟨lk, hlk⟩ : ∃ lk, (T k).length = lk := ⟨_, rfl⟩
      rw [hlk] at hck hfk hrk
      have HK := Lib.hid (And.intro hlk hrk)
      have ik : (k : Int) < (n : Int) := by omega
      clear hlk hrk hfr
      by_cases hll : lk = l0
      · subst hll
        have hself : ((lk : Int) != (lk : Int)) = false := by simp
        go_wp2_with fail
        go_quiet (fail)
        generalize hw2 : wr.drewN nq = w2 at *
        have HW2 := Lib.hid hw2
        clear hw2
        go_wp2_with fail
        go_loopw [8] (fun i V => ∃ j : Nat, j ≤ lk ∧ i = .int .i64 j ∧ V = w2 ∧ ∀ i, i < j → okT 8 ((T k).getD i 0)) (fun i _ => (lk - intOf i).toNat)
        case atStart => exact ⟨0, by omega, rfl, rfl, fun i hi => absurd hi (Nat.not_lt_zero _)⟩
        case round =>
          obtain ⟨j, hj, rfl, rfl, hok⟩ := hrel
          have HJ := Lib.hid hok
          have hf2 : Fresh w wr := by rw [← HW2.out]; exact HA.out.2.2.drewN nq
          obtain ⟨hck2, hrk2⟩ := HR.out wr hf2 k hlt
          rw [HK.out.1] at hck2 hrk2
          have HF2 := Lib.hid hf2
          clear hok hf2 hck hc0
          by_cases hjl : j < lk
          · obtain ⟨b1, o1, hD, _, hcv⟩ := hrk2.at_ j hjl
            have ij : (j : Int) < (lk : Int) := by omega
            have hv := (HF.out k hlt).2.at_ j
            generalize hDe : D k = Dk at *
            subst hD
            generalize hve : (T k).getD j 0 = x at *
            have HX := Lib.hid hve
            clear hve hDe hrk2
            by_cases h2 : 127 < x
            · go_wp2_with fail
              go_ret2
              exact .inr ⟨fun h => by
                have := (h k hlt).2 j (by rw [HK.out.1]; exact hjl)
                rw [HX.out] at this
                exact absurd this.2 (by show ¬ x ≤ 127; omega), rfl, HF2.out⟩
            · by_cases h1 : x < -128
              · go_wp2_with fail
                go_ret2
                exact .inr ⟨fun h => by
                  have := (h k hlt).2 j (by rw [HK.out.1]; exact hjl)
                  rw [HX.out] at this
                  exact absurd this.1 (by show ¬ -127 - 1 ≤ x; omega), rfl, HF2.out⟩
              · have HO : Hid (okT 8 x) := Lib.hid ⟨by show -127 - 1 ≤ x; omega, by show x ≤ 127; omega⟩
                go_wp2_with fail
                go_roundw
                case rel => exact ⟨j + 1, by omega, by go_num, trivial, fun i hi => by
                  by_cases e : i = j
                  · rw [e, HX.out]
                    exact HO.out
                  · exact HJ.out i (by omega)⟩
                case measure => simp [intOf]; omega
          · obtain rfl : j = lk := by omega
            have HWe : Hid (∃ m, wr = w.drewN m) := Lib.hid (by
              exact ⟨_, by rw [← HW2.out, HA.out.2.1, World.drewN_drewN]⟩)
            clear hrk2
            go_wp2_with fail
            go_roundw
            case rel => exact ⟨k + 1, by omega, by go_num, HWe.out, fun i hi => by
              by_cases e : i = k
              · rw [e]
                exact ⟨HK.out.1, fun j' hj' => HJ.out j' (by rw [HK.out.1] at hj'; exact hj')⟩
              · exact HA.out.1 i (by omega)⟩
            case measure => simp [intOf]; omega
      · have hne : ((lk : Int) != (l0 : Int)) = true := by simp; omega
        go_wp2_with fail
        go_quiet (fail)
        go_wp2_with fail
        go_ret2
        exact .inr ⟨fun h => by
          have := (h k hlt).1
          rw [HK.out.1, HL.out] at this
          exact absurd this hll, rfl, HA.out.2.2.drewN _⟩
    · obtain rfl : k = n := by omega
      have HT : Hid (joinT 8 k T) := Lib.hid fun i hi => by
        have := HA.out.1 i hi
        rw [HL.out]
        exact this
      have H0 : Hid (NewRow w wr 5 .u8 (.slice none 0 0) (bysT 8 k T 0)) := Lib.hid ⟨Own.nil _ _ _, fun g e => (by cases e), HA.out.2.2⟩
      have HLn : Hid (∀ i, i < k → (T i).length = l0) := Lib.hid fun i hi => (HA.out.1 i hi).1
      clear hfr HA
      go_wp2_with fail
      go_loopw [10, 9] (fun i u V => ∃ j : Nat, j ≤ l0 ∧ i = .int .i64 j ∧ NewRow w V 5 .u8 u (bysT 8 k T j)) (fun i _ _ => (l0 - intOf i).toNat)
      case atStart => exact ⟨0, by omega, rfl, H0.out⟩
      case round =>
        obtain ⟨j, hj, rfl, hu⟩ := hrel
        have H3 := Lib.hid hu
        have hc0 := Hc.out wr hu.2.2
        clear hu H0
        by_cases hlt : j < l0
        · have ij : (j : Int) < (l0 : Int) := by omega
          go_wp2_with fail
          go_loopw [11, 9] (fun i u V => ∃ q : Nat, q ≤ k ∧ i = .int .i64 q ∧ NewRow w V 5 .u8 u (bysT 8 k T j ++ frmT 8 T j q)) (fun i _ _ => (k - intOf i).toNat)
          case atStart => exact ⟨0, by omega, rfl, by simpa [frmT] using H3.out⟩
          case round =>
            obtain ⟨q, hq, rfl, hu⟩ := hrel
            have H4 := Lib.hid hu
            clear hu H3 hc0
            by_cases hkl : q < k
            · obtain ⟨hck, hrk⟩ := HR.out wr H4.out.2.2 q hkl
              rw [HLn.out q hkl] at hck hrk
              obtain ⟨b1, o1, hD, _, hcv⟩ := hrk.at_ j hlt
              have hok := (HT.out q hkl).2 j (by rw [HLn.out q hkl]; exact hlt)
              have hlen : (bysT 8 k T j ++ frmT 8 T j q).length ≤ 1073741824 := by
                rw [List.length_append, bysT_length, frmT_length]
                have h1 := Nat.mul_le_mul (show j ≤ 16777216 by omega) (show k * wdT 8 ≤ 8 * 2 from Nat.mul_le_mul hn.2 (wdT_pos 8).2)
                have h2 : q * wdT 8 ≤ 8 * 2 := Nat.mul_le_mul (by omega) (wdT_pos 8).2
                omega
              have Hfr : Hid (frmT 8 T j (q + 1) = frmT 8 T j q ++ encT 8 ((T q).getD j 0)) := Lib.hid rfl
              have ik : (q : Int) < (k : Int) := by omega
              generalize hDe : D q = Dk at *
              subst hD
              generalize (T q).getD j 0 = x at *
              have hx0 : -128 ≤ x ∧ x ≤ 127 := by
                have e : mostT 8 = 127 := rfl
                unfold okT at hok
                rw [e] at hok
                omega
              have he : encT 8 x = [x + 128] := by
                rw [encT8]
                congr 1
                omega
              rw [he] at Hfr
              generalize hxs : bysT 8 k T j ++ frmT 8 T j q = xs at *
              have HXs := Lib.hid hxs
              clear hrk hok hDe he hxs
              go_wp2_with (at_builtin; refine wpList_new _ w rfl _ _ 22 rfl 5 i0 .u8 1 Try.underlying22 hi hz0 hz1 hz2 u9 xs rfl (H4.out.fresh ((Kept.refl _ _).alloc (.cells (ivs .u8 [x + 128]).toArray 5))) (some ⟨wr.heap.size, 0, none⟩) 1 1 [x + 128] rfl (Row.laidF wr 5 .u8 [x + 128]) (by unfold maxLen; omega) (by omega) ?_)
              intro v3 w3 hn3
              rw [← HXs.out, List.append_assoc, ← Hfr.out] at hn3
              have H5 := Lib.hid hn3
              clear hn3 H4 hck hcv
              go_wp2_with fail
              go_roundw
              case rel => exact ⟨q + 1, by omega, by go_num, H5.out⟩
              case measure => simp [intOf]; omega
            · obtain rfl : q = k := by omega
              have H5 : Hid (NewRow w wr 5 .u8 u9 (bysT 8 q T (j + 1))) := Lib.hid H4.out
              clear H4
              go_wp2_with fail
              go_roundw
              case rel => exact ⟨j + 1, by omega, by go_num, H5.out⟩
              case measure => simp [intOf]; omega
        · obtain rfl : j = l0 := by omega
          go_wp2_with fail
          go_ret2
          exact .inl ⟨HT.out, _, rfl, by rw [HL.out]; exact H3.out⟩

set_option maxHeartbeats 6400000 in
theorem qJoin16_any (A : Option Addr) (n c : Nat) (T : Nat → List Int) (w : World) (hr : Trs w A n T) (hn : 1 ≤ n ∧ n ≤ 8) (hf : Few n T) :
    Calls Try.prog 14 #[.int .i64 16, .slice A n c] w fun e w' => JoinR w w' e 16 n T := by
  obtain ⟨i0, hi, hz0, hz1, hz2⟩ := info_parts Try.infoTr1
  obtain ⟨b, o, rfl, hb, D, C, hrd⟩ := hr.at_ hn.1
  have hrd : Rd w b o n T D C := hrd
  have HR : Hid (∀ V, Fresh w V → Rd V b o n T D C) := Lib.hid fun V hV => hrd.fresh hb hV
  have HF := Lib.hid hf
  have hl0 := (hf 0 (by omega)).1
  have c1 : ¬ (n : Int) < 1 := by omega
  have c2 : ¬ 8 < (n : Int) := by omega
  have n0 : (0 : Int) < (n : Int) := by omega
  have hc0 := (hrd 0 (by omega)).1
  rw [Nat.add_zero] at hc0
  obtain ⟨l0, hle⟩ : ∃ l0, (T 0).length = l0 := ⟨_, rfl⟩
  rw [hle] at hc0 hl0
  have HL := Lib.hid hle
  have Hc : Hid (∀ V, Fresh w V → V.cell? ⟨b, o, none⟩ = some (.slice (D 0) l0 (C 0))) := Lib.hid fun V hV => (hV.cell (p := ⟨b, o, none⟩) hb id).trans hc0
  clear hr hrd hf hle hc0
  go_enter Try.func14, Try.ntmps14
  go_wp2_with fail
  go_loopw [7] (fun i V => ∃ k : Nat, k ≤ n ∧ i = .int .i64 k ∧ (∃ m, V = w.drewN m) ∧ ∀ i, i < k → (T i).length = l0 ∧ ∀ j, j < (T i).length → okT 16 ((T i).getD j 0)) (fun i _ => (n - intOf i).toNat)
  case atStart => exact ⟨0, by omega, rfl, ⟨0, rfl⟩, fun i hi => absurd hi (Nat.not_lt_zero _)⟩
  case round =>
    obtain ⟨k, hk, rfl, ⟨m, hwm⟩, hall⟩ := hrel
    have hfr : Fresh w wr := by rw [hwm]; exact (Kept.refl _ _).drewN m
    have HA := Lib.hid (And.intro hall (And.intro hwm hfr))
    clear hall hwm
    have hc0 := Hc.out wr hfr
    by_cases hlt : k < n
    · obtain ⟨hck, hrk⟩ := HR.out wr hfr k hlt
      have hfk := (HF.out k hlt).1
      obtain ⟨lk, hlk⟩ : ∃ lk, (T k).length = lk := ⟨_, rfl⟩
      rw [hlk] at hck hfk hrk
      have HK := Lib.hid (And.intro hlk hrk)
      have ik : (k : Int) < (n : Int) := by omega
      clear hlk hrk hfr
      by_cases hll : lk = l0
      · subst hll
        have hself : ((lk : Int) != (lk : Int)) = false := by simp
        go_wp2_with fail
        go_quiet (fail)
        generalize hw2 : wr.drewN nq = w2 at *
        have HW2 := Lib.hid hw2
        clear hw2
        go_wp2_with fail
        go_loopw [8] (fun i V => ∃ j : Nat, j ≤ lk ∧ i = .int .i64 j ∧ V = w2 ∧ ∀ i, i < j → okT 16 ((T k).getD i 0)) (fun i _ => (lk - intOf i).toNat)
        case atStart => exact ⟨0, by omega, rfl, rfl, fun i hi => absurd hi (Nat.not_lt_zero _)⟩
        case round =>
          obtain ⟨j, hj, rfl, rfl, hok⟩ := hrel
          have HJ := Lib.hid hok
          have hf2 : Fresh w wr := by rw [← HW2.out]; exact HA.out.2.2.drewN nq
          obtain ⟨hck2, hrk2⟩ := HR.out wr hf2 k hlt
          rw [HK.out.1] at hck2 hrk2
          have HF2 := Lib.hid hf2
          clear hok hf2 hck hc0
          by_cases hjl : j < lk
          · obtain ⟨b1, o1, hD, _, hcv⟩ := hrk2.at_ j hjl
            have ij : (j : Int) < (lk : Int) := by omega
            have hv := (HF.out k hlt).2.at_ j
            generalize hDe : D k = Dk at *
            subst hD
            generalize hve : (T k).getD j 0 = x at *
            have HX := Lib.hid hve
            clear hve hDe hrk2
            by_cases h2 : 32767 < x
            · go_wp2_with fail
              go_ret2
              exact .inr ⟨fun h => by
                have := (h k hlt).2 j (by rw [HK.out.1]; exact hjl)
                rw [HX.out] at this
                exact absurd this.2 (by show ¬ x ≤ 32767; omega), rfl, HF2.out⟩
            · by_cases h1 : x < -32768
              · go_wp2_with fail
                go_ret2
                exact .inr ⟨fun h => by
                  have := (h k hlt).2 j (by rw [HK.out.1]; exact hjl)
                  rw [HX.out] at this
                  exact absurd this.1 (by show ¬ -32767 - 1 ≤ x; omega), rfl, HF2.out⟩
              · have HO : Hid (okT 16 x) := Lib.hid ⟨by show -32767 - 1 ≤ x; omega, by show x ≤ 32767; omega⟩
                go_wp2_with fail
                go_roundw
                case rel => exact ⟨j + 1, by omega, by go_num, trivial, fun i hi => by
                  by_cases e : i = j
                  · rw [e, HX.out]
                    exact HO.out
                  · exact HJ.out i (by omega)⟩
                case measure => simp [intOf]; omega
          · obtain rfl : j = lk := by omega
            have HWe : Hid (∃ m, wr = w.drewN m) := Lib.hid (by
              exact ⟨_, by rw [← HW2.out, HA.out.2.1, World.drewN_drewN]⟩)
            clear hrk2
            go_wp2_with fail
            go_roundw
            case rel => exact ⟨k + 1, by omega, by go_num, HWe.out, fun i hi => by
              by_cases e : i = k
              · rw [e]
                exact ⟨HK.out.1, fun j' hj' => HJ.out j' (by rw [HK.out.1] at hj'; exact hj')⟩
              · exact HA.out.1 i (by omega)⟩
            case measure => simp [intOf]; omega
      · have hne : ((lk : Int) != (l0 : Int)) = true := by simp; omega
        go_wp2_with fail
        go_quiet (fail)
        go_wp2_with fail
        go_ret2
        exact .inr ⟨fun h => by
          have := (h k hlt).1
          rw [HK.out.1, HL.out] at this
          exact absurd this hll, rfl, HA.out.2.2.drewN _⟩
    · obtain rfl : k = n := by omega
      have HT : Hid (joinT 16 k T) := Lib.hid fun i hi => by
        have := HA.out.1 i hi
        rw [HL.out]
        exact this
      have H0 : Hid (NewRow w wr 5 .u8 (.slice none 0 0) (bysT 16 k T 0)) := Lib.hid ⟨Own.nil _ _ _, fun g e => (by cases e), HA.out.2.2⟩
      have HLn : Hid (∀ i, i < k → (T i).length = l0) := Lib.hid fun i hi => (HA.out.1 i hi).1
      clear hfr HA
      go_wp2_with fail
      go_loopw [10, 9] (fun i u V => ∃ j : Nat, j ≤ l0 ∧ i = .int .i64 j ∧ NewRow w V 5 .u8 u (bysT 16 k T j)) (fun i _ _ => (l0 - intOf i).toNat)
      case atStart => exact ⟨0, by omega, rfl, H0.out⟩
      case round =>
        obtain ⟨j, hj, rfl, hu⟩ := hrel
        have H3 := Lib.hid hu
        have hc0 := Hc.out wr hu.2.2
        clear hu H0
        by_cases hlt : j < l0
        · have ij : (j : Int) < (l0 : Int) := by omega
          go_wp2_with fail
          go_loopw [11, 9] (fun i u V => ∃ q : Nat, q ≤ k ∧ i = .int .i64 q ∧ NewRow w V 5 .u8 u (bysT 16 k T j ++ frmT 16 T j q)) (fun i _ _ => (k - intOf i).toNat)
          case atStart => exact ⟨0, by omega, rfl, by simpa [frmT] using H3.out⟩
          case round =>
            obtain ⟨q, hq, rfl, hu⟩ := hrel
            have H4 := Lib.hid hu
            clear hu H3 hc0
            by_cases hkl : q < k
            · obtain ⟨hck, hrk⟩ := HR.out wr H4.out.2.2 q hkl
              rw [HLn.out q hkl] at hck hrk
              obtain ⟨b1, o1, hD, _, hcv⟩ := hrk.at_ j hlt
              have hok := (HT.out q hkl).2 j (by rw [HLn.out q hkl]; exact hlt)
              have hlen : (bysT 16 k T j ++ frmT 16 T j q).length ≤ 1073741824 := by
                rw [List.length_append, bysT_length, frmT_length]
                have h1 := Nat.mul_le_mul (show j ≤ 16777216 by omega) (show k * wdT 16 ≤ 8 * 2 from Nat.mul_le_mul hn.2 (wdT_pos 16).2)
                have h2 : q * wdT 16 ≤ 8 * 2 := Nat.mul_le_mul (by omega) (wdT_pos 16).2
                omega
              have Hfr : Hid (frmT 16 T j (q + 1) = frmT 16 T j q ++ encT 16 ((T q).getD j 0)) := Lib.hid rfl
              have ik : (q : Int) < (k : Int) := by omega
              generalize hDe : D q = Dk at *
              subst hD
              generalize (T q).getD j 0 = x at *
              have hx0 : -32768 ≤ x ∧ x ≤ 32767 := by
                have e : mostT 16 = 32767 := rfl
                unfold okT at hok
                rw [e] at hok
                omega
              have he : encT 16 x = [x % 256, x / 256 % 256] := by
                rw [encT16]
              rw [he] at Hfr
              generalize hxs : bysT 16 k T j ++ frmT 16 T j q = xs at *
              have HXs := Lib.hid hxs
              clear hrk hok hDe he hxs
              go_wp2_with (at_builtin; refine wpList_new _ w rfl _ _ 22 rfl 5 i0 .u8 1 Try.underlying22 hi hz0 hz1 hz2 u9 xs rfl (H4.out.fresh ((Kept.refl _ _).alloc (.cells (ivs .u8 [x % 256, x / 256 % 256]).toArray 5))) (some ⟨wr.heap.size, 0, none⟩) 2 2 [x % 256, x / 256 % 256] rfl (Row.laidF wr 5 .u8 [x % 256, x / 256 % 256]) (by unfold maxLen; omega) (by omega) ?_)
              intro v3 w3 hn3
              rw [← HXs.out, List.append_assoc, ← Hfr.out] at hn3
              have H5 := Lib.hid hn3
              clear hn3 H4 hck hcv
              go_wp2_with fail
              go_roundw
              case rel => exact ⟨q + 1, by omega, by go_num, H5.out⟩
              case measure => simp [intOf]; omega
            · obtain rfl : q = k := by omega
              have H5 : Hid (NewRow w wr 5 .u8 u9 (bysT 16 q T (j + 1))) := Lib.hid H4.out
              clear H4
              go_wp2_with fail
              go_roundw
              case rel => exact ⟨j + 1, by omega, by go_num, H5.out⟩
              case measure => simp [intOf]; omega
        · obtain rfl : j = l0 := by omega
          go_wp2_with fail
          go_ret2
          exact .inl ⟨HT.out, _, rfl, by rw [HL.out]; exact H3.out⟩

end Go.Proofs.Ytcpmjaoglbgmbaa
