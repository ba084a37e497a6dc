/- The code's Join. -/
import Derived.Test.YtcpmjaoglbgmbaaTraCJ
namespace Go.Proofs.Ytcpmjaoglbgmbaa
open Go.RowKit
set_option maxRecDepth 100000

attribute [local go_sem ↓] Go.wp_at_zero Go.wp_at_succ

/-- What Join tells of tracks that may be so many: their bytes, or that they can't be joined. -/
def JoinR (w w' : World) (e : Ending) (bt : Int) (n : Nat) (T : Nat → List Int) : Prop :=
  (joinT bt n T ∧ ∃ u, e = .returned (.tuple #[u, .int .i64 0]) ∧ NewRow w w' 5 .u8 u (bysT bt n T (T 0).length)) ∨
  (¬ joinT bt n T ∧ e = .returned (.tuple #[.slice none 0 0, .int .i64 4]) ∧ Fresh w w')

set_option maxHeartbeats 1600000 in
theorem cJoinArg_any (A : Option Addr) (n c : Nat) (bt : Int) (w : World) (h : ¬ fitT n bt) :
    Calls Try.prog 13 #[.int .i64 bt, .slice A n c] w fun e w' => e = .returned (.tuple #[.slice none 0 0, .int .i64 1]) ∧ Fresh w w' := by
  have HC := cFits_any n bt w
  rw [decide_eq_false h] at HC
  have HC := Lib.hid HC
  clear h
  go_enter Try.func13, Try.ntmps13
  go_wp2_with fail
  refine HC.out.mono ?_
  rintro e w1 ⟨rfl, rfl⟩
  go_wp2_with fail
  go_ret2
  exact ⟨rfl, Kept.refl _ _⟩

set_option maxHeartbeats 3200000 in
theorem cJoin8_any (A : Option Addr) (n c : Nat) (T : Nat → List Int) (w : World) (hr : Trs w A n T) (hn : 1 ≤ n ∧ n ≤ 8) (hf : Few n T) :
    Calls Try.prog 13 #[.int .i64 8, .slice A n c] w fun e w' => JoinR w w' e 8 n T := by
  obtain ⟨i0, hi, hz0, hz1, hz2⟩ := info_parts Try.infoTr1
  obtain ⟨b, o, rfl, hb, D, C, hrd⟩ := hr.at_ hn.1
  have hrd : Rd w b o n T D C := hrd
  have HC := cFits_any (n : Int) 8 w
  rw [decide_eq_true (show fitT (n : Int) 8 from ⟨by omega, by omega, by omega⟩)] at HC
  have HC := Lib.hid HC
  have HJ := Lib.hid (cJoinable8_any b o n c T D C w hrd hn hf)
  have HR : Hid (∀ V, Fresh w V → Rd V b o n T D C) := Lib.hid fun V hV => hrd.fresh hb hV
  have HF := Lib.hid hf
  have hl0 := (hf 0 (by omega)).1
  clear hr hrd hf
  go_enter Try.func13, Try.ntmps13
  go_wp2_with fail
  refine HC.out.mono ?_
  rintro e w0 ⟨rfl, rfl⟩
  clear HC
  go_wp2_with fail
  refine HJ.out.mono ?_
  rintro e w1 ⟨ok, rfl, hok, rfl⟩
  clear HJ
  cases ok
  · have HN : Hid (¬ joinT 8 n T) := Lib.hid fun h => by
      have := hok.2 h
      cases this
    clear hok
    go_wp2_with fail
    go_ret2
    exact .inr ⟨HN.out, rfl, Kept.refl _ _⟩
  · have HT : Hid (joinT 8 n T) := Lib.hid (hok.1 rfl)
    clear hok
    have hc0 := (HR.out w1 (Kept.refl _ _) 0 (by omega)).1
    rw [Nat.add_zero] at hc0
    have HL : Hid (∀ i, i < n → (T i).length = (T 0).length) := Lib.hid fun i hi => (HT.out i hi).1
    generalize hl : (T 0).length = l0 at *
    have hpb : l0 * n ≤ 134217728 := by
      have := Nat.mul_le_mul hl0 hn.2
      omega
    obtain ⟨p, hp⟩ : ∃ p, l0 * n = p := ⟨_, rfl⟩
    have em : (l0 : Int) * (n : Int) = (p : Int) := by rw [← hp]; simp
    rw [hp] at hpb
    have HLe := Lib.hid hl
    clear hp hl
    go_wp2_with (refine wpList_make_own _ rfl _ _ 22 rfl 0 5 i0 _ 1 Try.underlying22 hi hz0 hz1 .i64 .i64 _ (p) rfl rfl (by omega) (by rw [hz2]; omega) (by unfold maxLen; omega) (by omega) ?_; intro w2 hown2 hg2; have hf2 : Fresh w1 w2 := (Kept.refl _ _).grown hg2 (fun k e _ => by cases e); have hc2 := (hf2.cell (p := ⟨b, o, none⟩) hb id).trans hc0)
    have H2 : Hid (NewRow w1 w2 5 .u8 (.slice (some ⟨w1.heap.size, 0, none⟩) 0 (p)) (bysT 8 n T 0)) := Lib.hid ⟨hown2, fun g e => by
      have : w1.heap.size = g := by simpa [Value.ownBlock] using e
      omega, hf2⟩
    clear hown2 hg2 hf2 hc2 hc0 em
    go_loopw [34, 6] (fun i u wr => ∃ j : Nat, j ≤ l0 ∧ i = .int .i64 j ∧ NewRow w1 wr 5 .u8 u (bysT 8 n T j)) (fun i _ _ => (l0 - intOf i).toNat)
    case atStart => exact ⟨0, by omega, rfl, H2.out⟩
    case round =>
      obtain ⟨j, hj, rfl, hu⟩ := hrel
      have H3 := Lib.hid hu
      clear hu H2
      by_cases hlt : j < l0
      · have ij : (j : Int) < (l0 : Int) := by omega
        go_wp2_with fail
        go_loopw [39, 6] (fun i u V => ∃ k : Nat, k ≤ n ∧ i = .int .i64 k ∧ NewRow w1 V 5 .u8 u (bysT 8 n T j ++ frmT 8 T j k)) (fun i _ _ => (n - intOf i).toNat)
        case atStart => exact ⟨0, by omega, rfl, by simpa [frmT] using H3.out⟩
        case round =>
          obtain ⟨k, hk, rfl, hu⟩ := hrel
          have H4 := Lib.hid hu
          clear hu H3
          by_cases hkl : k < n
          · obtain ⟨hck, hrk⟩ := HR.out wr H4.out.2.2 k hkl
            rw [HL.out k hkl] at hck hrk
            obtain ⟨b1, o1, hD, _, hcv⟩ := hrk.at_ j hlt
            have hok := (HT.out k hkl).2 j (by rw [HL.out k hkl]; exact hlt)
            have hlen : (bysT 8 n T j ++ frmT 8 T j k).length ≤ 1073741824 := by
              rw [List.length_append, bysT_length, frmT_length]
              have h1 := Nat.mul_le_mul (show j ≤ 16777216 by omega) (show n * wdT 8 ≤ 8 * 2 from Nat.mul_le_mul hn.2 (wdT_pos 8).2)
              have h2 : k * wdT 8 ≤ 8 * 2 := Nat.mul_le_mul (by omega) (wdT_pos 8).2
              omega
            have HW := Lib.hid (fun u (hu : NewRow w1 wr 5 .u8 u (bysT 8 n T j ++ frmT 8 T j k)) => cWith8_any w1 u _ ((T k).getD j 0) wr hu hok hlen)
            have Hfr : Hid (frmT 8 T j (k + 1) = frmT 8 T j k ++ encT 8 ((T k).getD j 0)) := Lib.hid rfl
            have ik : (k : Int) < (n : Int) := by omega
            generalize hDe : D k = Dk at *
            subst hD
            generalize (T k).getD j 0 = x at *
            clear hrk hok hlen hDe
            go_wp2_with fail
            refine (HW.out _ H4.out).mono ?_
            rintro e w3 ⟨v3, rfl, hn3⟩
            rw [List.append_assoc, ← Hfr.out] at hn3
            have H5 := Lib.hid hn3
            clear hn3 HW H4 hck hcv
            go_wp2_with fail
            go_roundw
            case rel => exact ⟨k + 1, by omega, by go_num, H5.out⟩
            case measure => simp [intOf]; omega
          · obtain rfl : k = n := by omega
            have H5 : Hid (NewRow w1 wr 5 .u8 u6 (bysT 8 k T (j + 1))) := Lib.hid H4.out
            clear H4
            go_wp2_with fail
            go_roundw
            case rel => exact ⟨j + 1, by omega, by go_num, H5.out⟩
            case measure => simp [intOf]; omega
      · obtain rfl : j = l0 := by omega
        go_wp2_with fail
        go_ret2
        exact .inl ⟨HT.out, _, rfl, by rw [HLe.out]; exact H3.out⟩

set_option maxHeartbeats 3200000 in
theorem cJoin16_any (A : Option Addr) (n c : Nat) (T : Nat → List Int) (w : World) (hr : Trs w A n T) (hn : 1 ≤ n ∧ n ≤ 8) (hf : Few n T) :
    Calls Try.prog 13 #[.int .i64 16, .slice A n c] w fun e w' => JoinR w w' e 16 n T := by
  obtain ⟨i0, hi, hz0, hz1, hz2⟩ := info_parts Try.infoTr1
  obtain ⟨b, o, rfl, hb, D, C, hrd⟩ := hr.at_ hn.1
  have hrd : Rd w b o n T D C := hrd
  have HC := cFits_any (n : Int) 16 w
  rw [decide_eq_true (show fitT (n : Int) 16 from ⟨by omega, by omega, by omega⟩)] at HC
  have HC := Lib.hid HC
  have HJ := Lib.hid (cJoinable16_any b o n c T D C w hrd hn hf)
  have HR : Hid (∀ V, Fresh w V → Rd V b o n T D C) := Lib.hid fun V hV => hrd.fresh hb hV
  have HF := Lib.hid hf
  have hl0 := (hf 0 (by omega)).1
  clear hr hrd hf
  go_enter Try.func13, Try.ntmps13
  go_wp2_with fail
  refine HC.out.mono ?_
  rintro e w0 ⟨rfl, rfl⟩
  clear HC
  go_wp2_with fail
  refine HJ.out.mono ?_
  rintro e w1 ⟨ok, rfl, hok, rfl⟩
  clear HJ
  cases ok
  · have HN : Hid (¬ joinT 16 n T) := Lib.hid fun h => by
      have := hok.2 h
      cases this
    clear hok
    go_wp2_with fail
    go_ret2
    exact .inr ⟨HN.out, rfl, Kept.refl _ _⟩
  · have HT : Hid (joinT 16 n T) := Lib.hid (hok.1 rfl)
    clear hok
    have hc0 := (HR.out w1 (Kept.refl _ _) 0 (by omega)).1
    rw [Nat.add_zero] at hc0
    have HL : Hid (∀ i, i < n → (T i).length = (T 0).length) := Lib.hid fun i hi => (HT.out i hi).1
    generalize hl : (T 0).length = l0 at *
    have hpb : l0 * n ≤ 134217728 := by
      have := Nat.mul_le_mul hl0 hn.2
      omega
    obtain ⟨p, hp⟩ : ∃ p, l0 * n = p := ⟨_, rfl⟩
    have em : (l0 : Int) * (n : Int) = (p : Int) := by rw [← hp]; simp
    rw [hp] at hpb
    have HLe := Lib.hid hl
    clear hp hl
    go_wp2_with (refine wpList_make_own _ rfl _ _ 22 rfl 0 5 i0 _ 1 Try.underlying22 hi hz0 hz1 .i64 .i64 _ (p * 2) rfl rfl (by omega) (by rw [hz2]; omega) (by unfold maxLen; omega) (by omega) ?_; intro w2 hown2 hg2; have hf2 : Fresh w1 w2 := (Kept.refl _ _).grown hg2 (fun k e _ => by cases e); have hc2 := (hf2.cell (p := ⟨b, o, none⟩) hb id).trans hc0)
    have H2 : Hid (NewRow w1 w2 5 .u8 (.slice (some ⟨w1.heap.size, 0, none⟩) 0 (p * 2)) (bysT 16 n T 0)) := Lib.hid ⟨hown2, fun g e => by
      have : w1.heap.size = g := by simpa [Value.ownBlock] using e
      omega, hf2⟩
    clear hown2 hg2 hf2 hc2 hc0 em
    go_loopw [34, 6] (fun i u wr => ∃ j : Nat, j ≤ l0 ∧ i = .int .i64 j ∧ NewRow w1 wr 5 .u8 u (bysT 16 n T j)) (fun i _ _ => (l0 - intOf i).toNat)
    case atStart => exact ⟨0, by omega, rfl, H2.out⟩
    case round =>
      obtain ⟨j, hj, rfl, hu⟩ := hrel
      have H3 := Lib.hid hu
      clear hu H2
      by_cases hlt : j < l0
      · have ij : (j : Int) < (l0 : Int) := by omega
        go_wp2_with fail
        go_loopw [39, 6] (fun i u V => ∃ k : Nat, k ≤ n ∧ i = .int .i64 k ∧ NewRow w1 V 5 .u8 u (bysT 16 n T j ++ frmT 16 T j k)) (fun i _ _ => (n - intOf i).toNat)
        case atStart => exact ⟨0, by omega, rfl, by simpa [frmT] using H3.out⟩
        case round =>
          obtain ⟨k, hk, rfl, hu⟩ := hrel
          have H4 := Lib.hid hu
          clear hu H3
          by_cases hkl : k < n
          · obtain ⟨hck, hrk⟩ := HR.out wr H4.out.2.2 k hkl
            rw [HL.out k hkl] at hck hrk
            obtain ⟨b1, o1, hD, _, hcv⟩ := hrk.at_ j hlt
            have hok := (HT.out k hkl).2 j (by rw [HL.out k hkl]; exact hlt)
            have hlen : (bysT 16 n T j ++ frmT 16 T j k).length ≤ 1073741824 := by
              rw [List.length_append, bysT_length, frmT_length]
              have h1 := Nat.mul_le_mul (show j ≤ 16777216 by omega) (show n * wdT 16 ≤ 8 * 2 from Nat.mul_le_mul hn.2 (wdT_pos 16).2)
              have h2 : k * wdT 16 ≤ 8 * 2 := Nat.mul_le_mul (by omega) (wdT_pos 16).2
              omega
            have HW := Lib.hid (fun u (hu : NewRow w1 wr 5 .u8 u (bysT 16 n T j ++ frmT 16 T j k)) => cWith16_any w1 u _ ((T k).getD j 0) wr hu hok hlen)
            have Hfr : Hid (frmT 16 T j (k + 1) = frmT 16 T j k ++ encT 16 ((T k).getD j 0)) := Lib.hid rfl
            have ik : (k : Int) < (n : Int) := by omega
            generalize hDe : D k = Dk at *
            subst hD
            generalize (T k).getD j 0 = x at *
            clear hrk hok hlen hDe
            go_wp2_with fail
            refine (HW.out _ H4.out).mono ?_
            rintro e w3 ⟨v3, rfl, hn3⟩
            rw [List.append_assoc, ← Hfr.out] at hn3
            have H5 := Lib.hid hn3
            clear hn3 HW H4 hck hcv
            go_wp2_with fail
            go_roundw
            case rel => exact ⟨k + 1, by omega, by go_num, H5.out⟩
            case measure => simp [intOf]; omega
          · obtain rfl : k = n := by omega
            have H5 : Hid (NewRow w1 wr 5 .u8 u6 (bysT 16 k T (j + 1))) := Lib.hid H4.out
            clear H4
            go_wp2_with fail
            go_roundw
            case rel => exact ⟨j + 1, by omega, by go_num, H5.out⟩
            case measure => simp [intOf]; omega
      · obtain rfl : j = l0 := by omega
        go_wp2_with fail
        go_ret2
        exact .inl ⟨HT.out, _, rfl, by rw [HLe.out]; exact H3.out⟩

end Go.Proofs.Ytcpmjaoglbgmbaa
