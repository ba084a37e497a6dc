/- The document's at, guess, Residual, Restore, Weight, Best of the fixed predictors. -/
import Derived.Test.YtiioikpjgeggdaaFixMath
import Derived.Test.YtiioikpjgeggdaaZeros
import Derived.Deep.DrawnRows
import Derived.Deep.QuietTactic
import Derived.Deep.RegionHeld3
namespace Go.Proofs.Ytiioikpjgeggdaa
open Go.RowKit
set_option maxRecDepth 100000

attribute [local go_sem ↓] Go.wp_at_zero Go.wp_at_succ

theorem Try.infoI32F : (Try.prog.info? 21).map (fun i => (i.zero, i.size, i.bytes)) = some (some (.int .i32 0), 1, 4) := by kernel_rfl

set_option maxHeartbeats 800000 in
theorem qAt_any (A : Option Addr) (n c : Nat) (l : List Int) (i j : Nat) (w : World) (hr : Row w .i32 A n l) (hi : i ≤ n) (hj : 0 < j) (hj3 : j ≤ 3) (_ : n ≤ 1000000000) :
    Calls Try.prog 24 #[.slice A n c, .int .i64 ((i : Int) - j)] w fun e w' => e = .returned (.int .i32 (pv l i j)) ∧ w = w' := by
  by_cases h : j ≤ i
  · rw [pv_some l h]
    obtain ⟨b, o, rfl, hb, hc⟩ := hr.at_ (i - j) (by omega)
    have h1 : ¬ (i : Int) - j < 0 := by omega
    have h2 : (i : Int) - j < (n : Int) := by omega
    have h3 : ((i : Int) - j).toNat = i - j := by omega
    have h4 : (i : Int) - j = ((i - j : Nat) : Int) := by omega
    generalize l.getD (i - j) 0 = v at *
    rw [h4] at h1 h2 h3 ⊢
    generalize i - j = m at *
    clear h4 hr hb
    go_enter Try.func24, Try.ntmps24
    go_wp2_with fail
    go_ret
    exact ⟨rfl, rfl⟩
  · rw [pv_none l (by omega)]
    have h1 : (i : Int) - j < 0 := by omega
    clear hr
    go_enter Try.func24, Try.ntmps24
    go_wp2_with fail
    go_ret
    exact ⟨rfl, rfl⟩

theorem pv_32 {l : List Int} (h : I32 l) (i j : Nat) : -2147483648 ≤ pv l i j ∧ pv l i j < 2147483648 := by
  unfold pv
  split
  · exact h.at_ _
  · omega

set_option maxHeartbeats 1600000 in
theorem qGuess_any (A : Option Addr) (n c : Nat) (l : List Int) (i : Nat) (k : Int) (w : World) (hr : Row w .i32 A n l) (h32 : I32 l) (hi : i ≤ n) (hn : n ≤ 1000000000) :
    Calls Try.prog 23 #[.slice A n c, .int .i64 i, .int .i64 k] w fun e w' => e = .returned (.int .i32 (w32 (gs (ko k) l i))) ∧ w = w' := by
  have HA : Hid (∀ j : Nat, 0 < j → j ≤ 3 → Calls Try.prog 24 #[.slice A n c, .int .i64 ((i : Int) - (j : Int))] w fun e w' => e = .returned (.int .i32 (pv l i j)) ∧ w = w') := Lib.hid fun j h1 h2 => qAt_any A n c l i j w hr hi h1 h2 hn
  have H1 := Lib.hid (HA.out 1 (by omega) (by omega))
  have H2 := Lib.hid (HA.out 2 (by omega) (by omega))
  have H3 := Lib.hid (HA.out 3 (by omega) (by omega))
  have b1 := pv_32 h32 i 1
  have b2 := pv_32 h32 i 2
  have b3 := pv_32 h32 i 3
  have hg : gs (ko k) l i = gp (ko k) (pv l i 1) (pv l i 2) (pv l i 3) := rfl
  rw [hg]
  clear hr h32 hg HA
  generalize pv l i 1 = x at *
  generalize pv l i 2 = y at *
  generalize pv l i 3 = z at *
  have i0 : (0 : Int) ≤ (i : Int) := by omega
  have i1 : (i : Int) ≤ 1000000000 := by omega
  go_enter Try.func23, Try.ntmps23
  go_wp2_with fail
  refine H1.out.mono ?_
  rintro e w1 ⟨rfl, rfl⟩
  go_wp2_with fail
  refine H2.out.mono ?_
  rintro e w1 ⟨rfl, rfl⟩
  go_wp2_with fail
  refine H3.out.mono ?_
  rintro e w1 ⟨rfl, rfl⟩
  clear H1 H2 H3
  rcases Int.lt_or_le 0 k with h0 | h0
  · by_cases h1 : k = 1
    · subst h1
      go_wp2_with fail
      go_ret
      refine ⟨ret_int ?_, rfl⟩
      exact (w32_id b1).symm
    · by_cases h2 : k = 2
      · subst h2
        go_wp2_with fail
        go_ret
        refine ⟨ret_int ?_, rfl⟩
        show _ = w32 (2 * x - y)
        unfold w32 wrap32
        omega
      · have hk : ko k = 3 := by unfold ko; omega
        have g1 : (k == 1) = false := by simp; omega
        have g2 : (k == 2) = false := by simp; omega
        have g3 : ¬ k ≤ 0 := by omega
        have Hk := Lib.hid hk
        clear hk
        go_wp2_with fail
        go_ret
        refine ⟨ret_int ?_, rfl⟩
        rw [Hk.out]
        show _ = w32 (3 * x - 3 * y + z)
        unfold w32 wrap32
        omega
  · have hk : ko k = 0 := by unfold ko; omega
    have Hk := Lib.hid hk
    clear hk
    go_wp2_with fail
    go_ret
    rw [Hk.out]
    exact ⟨rfl, rfl⟩

theorem res_elem (x g : Int) : w32 (x - w32 g) = w32 (x - g) := by unfold w32; omega
theorem rst_elem (x g : Int) : w32 (x + w32 g) = w32 (x + g) := by unfold w32; omega

theorem Own.sized {w : World} {e : TypeId} {k : IntKind} {v : Value} {xs : List Int} {n : Nat} (h : Own w e k v xs) (hn : xs.length = n) : w.ownsRow 0 e 1 v n (ivs k xs) := by
  subst hn
  exact h

set_option maxHeartbeats 1600000 in
/-- Residual: P11.1. -/
theorem qResidual_any (A : Option Addr) (n c : Nat) (l : List Int) (k : Int) (w : World) (hr : Row w .i32 A n l) (h32 : I32 l) (hn : n ≤ 1000000000) :
    Calls Try.prog 11 #[.slice A n c, .int .i64 k] w fun e w' => ∃ u, e = .returned u ∧ NewRow w w' 21 .i32 u (res (ko k) l) := by
  obtain ⟨i4, hi4, h40, h41, h42⟩ := info_parts Try.infoI32F
  obtain rfl := hr.len
  have HR : Hid (∀ V, Fresh w V → Row V .i32 A l.length l) := Lib.hid fun V hV => hr.kept hV (fun _ _ _ _ => id)
  have H32 := Lib.hid h32
  clear hr h32
  go_enter Try.func11, Try.ntmps11
  go_wp2_with fail
  go_loopw [6, 5] (fun i u wr => ∃ j : Nat, j ≤ l.length ∧ i = .int .i64 j ∧ NewRow w wr 21 .i32 u (resN (ko k) l j)) (fun i _ _ => (l.length - intOf i).toNat)
  case atStart => exact ⟨0, by omega, rfl, Own.nil _ _ _, fun k e => (by cases e), Kept.refl _ _⟩
  case round =>
    obtain ⟨j, hj, rfl, ho, hnw, hf⟩ := hrel
    have HN := Lib.hid (And.intro ho (And.intro hnw hf))
    clear ho hnw hf
    by_cases hlt : j < l.length
    · have hrow := HR.out wr HN.out.2.2
      obtain ⟨b, o, rfl, hbw, _⟩ := (HR.out w (Kept.refl _ _)).at_ j hlt
      obtain ⟨b', o', e', hb, hc⟩ := hrow.at_ j hlt
      injection e' with e'
      injection e' with e1 e2
      subst e1 e2
      have HG : Hid (∀ n : Nat, Calls Try.prog 23 #[.slice (some ⟨b, o, none⟩) l.length c, .int .i64 j, .int .i64 k] (wr.drewN n) fun e w' => e = .returned (.int .i32 (w32 (gs (ko k) l j))) ∧ wr.drewN n = w') := Lib.hid fun n => qGuess_any _ l.length c l j k (wr.drewN n) (hrow.drewN n) H32.out hj hn
      have j0 : (j : Int) < (l.length : Int) := by omega
      have hlen := resN_length (ko k) l j
      have Hs : Hid (resN (ko k) l (j + 1) = resN (ko k) l j ++ [w32 (l.getD j 0 - w32 (gs (ko k) l j))]) := Lib.hid (by rw [res_elem]; rfl)
      have hv := H32.out.at_ j
      generalize l.getD j 0 = v at *
      generalize w32 (gs (ko k) l j) = g at *
      generalize resN (ko k) l j = xs at *
      have hbu : u5.ownBlock ≠ some b := fun e => absurd (HN.out.2.1 b e) (by omega)
      clear hrow
      go_wp2_with fail
      go_region_held3 (fun w' => w'.cell? ⟨b, o + j, none⟩ = some (.int .i32 v)) (first | go_keep | exact c4)
        (first
          | (go_at_call 23; refine (HG.out _).mono ?_; rintro e2 w2 ⟨rfl, rfl⟩)
          | (refine step_append_lies _ (by rfl) _ _ _ (by rfl) 0 21 i4 (.int .i32 0) 1 4 Try.underlying22 hi4 h40 h41 h42 rfl (by decide) u5 xs.length (ivs .i32 xs) (by rfl) (World.ownsRow.alloc HN.out.1 _) ⟨wr.heap.size, 0, none⟩ 1 1 (ivs .i32 [IntKind.i32.wrap (v - g)]) (by rfl) (by rfl) (cell_one_new _ _ _) (ivs_one _ _) (by decide) (by unfold maxLen; omega) (by omega) (by omega) (wr.heap.size + 1) (by simp) ?_
             intro q cap w4 hown4 hgrow hat hlt4
             have c4 : w4.cell? ⟨b, o + j, none⟩ = some (.int .i32 v) := (hgrow.cell_far _ (by simp; omega) (Ne.symm hbu)).trans ((World.cell?_alloc_lt _ _ _ hb).trans hc)))
      have ho9 : Own w4 21 .i32 (.slice (some ⟨q, 0, none⟩) (j + 1) cap) (resN (ko k) l (j + 1)) := by
        rw [Hs.out, ← w32_wrap, ← hlen]
        exact Own.of_append hown4 rfl
      have H9 : Hid (NewRow w w4 21 .i32 (.slice (some ⟨q, 0, none⟩) (j + 1) cap) (resN (ko k) l (j + 1))) := Lib.hid ⟨ho9, fun m e => by
        have : q = m := by simpa [Value.ownBlock] using e
        subst this
        have := HN.out.2.2.size
        rcases hat with e2 | e2
        · exact HN.out.2.1 q e2
        · omega, ((HN.out.2.2.drewN 1).alloc _).grown hgrow (fun m e hm => absurd (HN.out.2.1 m e) (by omega))⟩
      clear ho9 hgrow hat HN Hs hown4
      go_wp2_with fail
      go_roundw
      case rel => exact ⟨j + 1, by omega, by go_num, H9.out⟩
      case measure => simp [intOf]; omega
    · obtain rfl : j = l.length := by omega
      have HE : Hid (NewRow w wr 21 .i32 u5 (res (ko k) l)) := Lib.hid ⟨HN.out.1, HN.out.2.1, HN.out.2.2⟩
      clear HN
      go_wp2_with fail
      go_ret
      exact ⟨_, rfl, HE.out⟩

set_option maxHeartbeats 1600000 in
/-- Restore: P11.1. -/
theorem qRestore_any (A : Option Addr) (n c : Nat) (l : List Int) (k : Int) (w : World) (hr : Row w .i32 A n l) (h32 : I32 l) (hn : n ≤ 1000000000) :
    Calls Try.prog 13 #[.slice A n c, .int .i64 k] w fun e w' => ∃ u, e = .returned u ∧ NewRow w w' 21 .i32 u (rst (ko k) l) := by
  obtain ⟨i4, hi4, h40, h41, h42⟩ := info_parts Try.infoI32F
  obtain rfl := hr.len
  have HR : Hid (∀ V, Fresh w V → Row V .i32 A l.length l) := Lib.hid fun V hV => hr.kept hV (fun _ _ _ _ => id)
  have H32 := Lib.hid h32
  clear hr h32
  go_enter Try.func13, Try.ntmps13
  go_wp2_with fail
  go_loopw [6, 5] (fun i u wr => ∃ j : Nat, j ≤ l.length ∧ i = .int .i64 j ∧ NewRow w wr 21 .i32 u (rstN (ko k) l j)) (fun i _ _ => (l.length - intOf i).toNat)
  case atStart => exact ⟨0, by omega, rfl, Own.nil _ _ _, fun k e => (by cases e), Kept.refl _ _⟩
  case round =>
    obtain ⟨j, hj, rfl, ho, hnw, hf⟩ := hrel
    have HN := Lib.hid (And.intro ho (And.intro hnw hf))
    clear ho hnw hf
    by_cases hlt : j < l.length
    · have hrow := HR.out wr HN.out.2.2
      obtain ⟨b, o, rfl, hbw, _⟩ := (HR.out w (Kept.refl _ _)).at_ j hlt
      obtain ⟨b', o', e', hb, hc⟩ := hrow.at_ j hlt
      injection e' with e'
      injection e' with e1 e2
      subst e1 e2
      have hlen := rstN_length (ko k) l j
      have Hs : Hid (rstN (ko k) l (j + 1) = rstN (ko k) l j ++ [w32 (l.getD j 0 + w32 (gs (ko k) (rstN (ko k) l j) j))]) := Lib.hid (by rw [rst_elem]; rfl)
      have hx32 : I32 (rstN (ko k) l j) := I32.of fun i hi => by
        rw [rstN_length] at hi
        rw [rstN_getD _ _ hi]
        exact w32_in _
      have hv := H32.out.at_ j
      generalize l.getD j 0 = v at *
      obtain ⟨Ao, co, rfl, hro, _⟩ := HN.out.1.row
      have HG : Hid (∀ n : Nat, Calls Try.prog 23 #[.slice Ao (rstN (ko k) l j).length co, .int .i64 j, .int .i64 k] (wr.drewN n) fun e w' => e = .returned (.int .i32 (w32 (gs (ko k) (rstN (ko k) l j) j))) ∧ wr.drewN n = w') := Lib.hid fun n => qGuess_any _ _ co _ j k (wr.drewN n) (hro.drewN n) hx32 (by omega) (by omega)
      have j0 : (j : Int) < (l.length : Int) := by omega
      generalize w32 (gs (ko k) (rstN (ko k) l j) j) = g at *
      generalize rstN (ko k) l j = xs at *
      rw [hlen] at HN HG
      have Hlen := Lib.hid hlen
      have hbu : (Value.slice Ao j co).ownBlock ≠ some b := fun e => absurd (HN.out.2.1 b e) (by omega)
      rw [hlen]
      clear hrow hlen hro hx32
      go_wp2_with fail
      go_region_held3 (fun w' => w'.cell? ⟨b, o + j, none⟩ = some (.int .i32 v)) (first | go_keep | exact c4)
        (first
          | (go_at_call 23; refine (HG.out _).mono ?_; rintro e2 w2 ⟨rfl, rfl⟩)
          | (refine step_append_lies _ (by rfl) _ _ _ (by rfl) 0 21 i4 (.int .i32 0) 1 4 Try.underlying22 hi4 h40 h41 h42 rfl (by decide) (.slice Ao j co) j (ivs .i32 xs) (by rfl) (World.ownsRow.alloc (Own.sized HN.out.1 Hlen.out) _) ⟨wr.heap.size, 0, none⟩ 1 1 (ivs .i32 [IntKind.i32.wrap (v + g)]) (by rfl) (by rfl) (cell_one_new _ _ _) (ivs_one _ _) (by decide) (by unfold maxLen; omega) (by omega) (by omega) (wr.heap.size + 1) (by simp) ?_
             intro q cap w4 hown4 hgrow hat hlt4
             have c4 : w4.cell? ⟨b, o + j, none⟩ = some (.int .i32 v) := (hgrow.cell_far _ (by simp; omega) (Ne.symm hbu)).trans ((World.cell?_alloc_lt _ _ _ hb).trans hc)))
      have ho9 : Own w4 21 .i32 (.slice (some ⟨q, 0, none⟩) (j + 1) cap) (rstN (ko k) l (j + 1)) := by
        rw [Hs.out, ← w32_wrap]
        exact Own.of_append hown4 (by rw [Hlen.out]; rfl)
      have H9 : Hid (NewRow w w4 21 .i32 (.slice (some ⟨q, 0, none⟩) (j + 1) cap) (rstN (ko k) l (j + 1))) := Lib.hid ⟨ho9, fun m e => by
        have : q = m := by simpa [Value.ownBlock] using e
        subst this
        have := HN.out.2.2.size
        rcases hat with e2 | e2
        · exact HN.out.2.1 q e2
        · omega, ((HN.out.2.2.drewN 1).alloc _).grown hgrow (fun m e hm => absurd (HN.out.2.1 m e) (by omega))⟩
      clear ho9 hgrow hat HN Hs hown4
      go_wp2_with fail
      go_roundw
      case rel => exact ⟨j + 1, by omega, by go_num, H9.out⟩
      case measure => simp [intOf]; omega
    · obtain rfl : j = l.length := by omega
      have HE : Hid (NewRow w wr 21 .i32 u5 (rst (ko k) l)) := Lib.hid ⟨HN.out.1, HN.out.2.1, HN.out.2.2⟩
      clear HN
      go_wp2_with fail
      go_ret
      exact ⟨_, rfl, HE.out⟩

set_option maxHeartbeats 1600000 in
/-- Weight: P11.2. -/
theorem qWeight_any (A : Option Addr) (n c : Nat) (l : List Int) (w : World) (hr : Row w .i32 A n l) (h32 : I32 l) (hn : n ≤ 1000000000) :
    Calls Try.prog 15 #[.slice A n c] w fun e w' => e = .returned (.int .u64 (weight l : Nat)) ∧ w = w' := by
  obtain rfl := hr.len
  have HR := Lib.hid hr
  have H32 := Lib.hid h32
  clear hr h32
  go_enter Try.func15, Try.ntmps15
  go_wp2_with fail
  go_loopw [4, 3] (fun i x wr => ∃ j : Nat, j ≤ l.length ∧ i = .int .i64 j ∧ x = .int .u64 (weight (l.take j) : Nat) ∧ wr = w) (fun i _ _ => (l.length - intOf i).toNat)
  case atStart => exact ⟨0, by omega, rfl, rfl, rfl⟩
  case round =>
    obtain ⟨j, hj, rfl, rfl, rfl⟩ := hrel
    have hle := weight_le (l := l.take j) (fun x hx => H32.out x (List.mem_of_mem_take hx))
    rw [List.length_take, Nat.min_eq_left hj] at hle
    by_cases hlt : j < l.length
    · obtain ⟨b, o, rfl, hb, hc⟩ := HR.out.at_ j hlt
      have Ht := Lib.hid (weight_take l hlt)
      have hv := H32.out.at_ j
      generalize l.getD j 0 = v at *
      generalize weight (l.take j) = s at *
      have j0 : (j : Int) < (l.length : Int) := by omega
      have ha : max v (-v) = (v.natAbs : Int) := by omega
      have ha0 : (0 : Int) ≤ (v.natAbs : Int) := by omega
      have ha1 : (v.natAbs : Int) ≤ 2147483648 := by omega
      have hs1 : (s : Int) ≤ 2147483648 * 1000000000 := by omega
      generalize v.natAbs = a at *
      go_wp2_with fail
      go_roundw
      case rel => exact ⟨j + 1, by omega, by go_num, by rw [Ht.out]; go_num, trivial⟩
      case measure => simp [intOf]; omega
    · obtain rfl : j = l.length := by omega
      rw [List.take_length]
      go_wp2_with fail
      go_ret
      exact ⟨rfl, rfl⟩

set_option maxHeartbeats 1600000 in
/-- Best: P11.2. -/
theorem qBestO_any (A : Option Addr) (n c : Nat) (l : List Int) (w : World) (hr : Row w .i32 A n l) (h32 : I32 l) (hn : n ≤ 1000000000) :
    Calls Try.prog 17 #[.slice A n c] w fun e w' => e = .returned (.int .i64 (bestOr l 3 : Nat)) ∧ Fresh w w' := by
  have HC : Hid (∀ (k : Nat) (V : World), k ≤ 3 → Fresh w V → Calls Try.prog 11 #[.slice A n c, .int .i64 (k : Int)] V fun e w' => ∃ B cB, e = .returned (.slice B n cB) ∧ Row w' .i32 B n (res k l) ∧ Fresh V w') := Lib.hid fun k V hk hV => by
    refine (qResidual_any A n c l k V (hr.kept hV (fun _ _ _ _ => id)) h32 hn).mono ?_
    rintro e w' ⟨u, rfl, hu, _, hf⟩
    obtain ⟨B, cB, rfl, hrow, _⟩ := hu.row
    rw [ko_in hk] at hrow
    rw [ko_in hk]
    rw [res_length, hr.len] at hrow
    rw [res_length, hr.len]
    exact ⟨B, cB, rfl, hrow, hf⟩
  have HW : Hid (∀ (k : Nat) (B : Option Addr) (cB : Nat) (V : World), Row V .i32 B n (res k l) → Calls Try.prog 15 #[.slice B n cB] V fun e w' => e = .returned (.int .u64 (wres l k : Nat)) ∧ V = w') := Lib.hid fun k B cB V hV => qWeight_any B n cB (res k l) V hV (res_32 k l) hn
  have HL : Hid (∀ k : Nat, wres l k ≤ 2147483648 * 1000000000) := Lib.hid fun k => by
    have := wres_le l k
    have := hr.len
    omega
  clear hr h32
  go_enter Try.func17, Try.ntmps17
  go_wp2_with fail
  go_loopw [4, 3] (fun i x wr => ∃ j : Nat, j ≤ 3 ∧ i = .int .i64 ((j : Int) + 1) ∧ x = .int .i64 (bestOr l j : Nat) ∧ Fresh w wr) (fun i _ _ => (4 - intOf i).toNat)
  case atStart => exact ⟨0, by omega, rfl, rfl, Kept.refl _ _⟩
  case round =>
    obtain ⟨j, hj, rfl, rfl, hf⟩ := hrel
    have hb := bestOr_le l j
    have HF := Lib.hid hf
    clear hf
    by_cases hlt : j < 3
    · have hs : bestOr l (j + 1) = if wres l (j + 1) < wres l (bestOr l j) then j + 1 else bestOr l j := rfl
      have Hs := Lib.hid hs
      have b1 := HL.out (j + 1)
      have b2 := HL.out (bestOr l j)
      have HC1 := Lib.hid (HC.out (j + 1) wr (by omega) HF.out)
      have HC2 : Hid (∀ V, Fresh w V → _) := Lib.hid fun V hV => HC.out (bestOr l j) V (by omega) hV
      have HW1 : Hid (∀ (B : Option Addr) (cB : Nat) (V : World), Row V .i32 B n (res (j + 1) l) → _) := Lib.hid fun B cB V hV => HW.out (j + 1) B cB V hV
      have HW2 : Hid (∀ (B : Option Addr) (cB : Nat) (V : World), Row V .i32 B n (res (bestOr l j) l) → _) := Lib.hid fun B cB V hV => HW.out (bestOr l j) B cB V hV
      clear hs HC HL HW
      generalize bestOr l j = m at *
      generalize wres l (j + 1) = x at *
      generalize wres l m = y at *
      have j0 : (j : Int) + 1 ≤ 3 := by omega
      go_wp2_with fail
      rw [show ((j : Int) + 1) = ((j + 1 : Nat) : Int) from by omega]
      refine HC1.out.mono ?_
      rintro e w1 ⟨B, cB, rfl, hB, hf1⟩
      have HX := Lib.hid (HW1.out B cB w1 hB)
      have H1 := Lib.hid (HF.out.trans hf1 (fun _ _ h => h))
      clear hB hf1 HC1 HF HW1
      go_wp2_with fail
      refine HX.out.mono ?_
      rintro e w2 ⟨rfl, rfl⟩
      have HC3 := Lib.hid (HC2.out w1 H1.out)
      clear HX HC2
      go_wp2_with fail
      refine HC3.out.mono ?_
      rintro e w2 ⟨D, cD, rfl, hD, hf2⟩
      have HY := Lib.hid (HW2.out D cD w2 hD)
      have H2 := Lib.hid (H1.out.trans hf2 (fun _ _ h => h))
      clear hD hf2 HC3 HW2 H1
      go_wp2_with fail
      refine HY.out.mono ?_
      rintro e w3 ⟨rfl, rfl⟩
      clear HY
      by_cases hxy : x < y
      · rw [if_pos hxy] at Hs
        have hx : (x : Int) < (y : Int) := by omega
        go_wp2_with fail
        go_roundw
        case rel => exact ⟨j + 1, by omega, by go_num, by rw [Hs.out]; go_num, H2.out⟩
        case measure => simp [intOf]; omega
      · rw [if_neg hxy] at Hs
        have hx : ¬ (x : Int) < (y : Int) := by omega
        go_wp2_with fail
        go_roundw
        case rel => exact ⟨j + 1, by omega, by go_num, by rw [Hs.out], H2.out⟩
        case measure => simp [intOf]; omega
    · obtain rfl : j = 3 := by omega
      go_wp2_with fail
      go_ret
      exact ⟨rfl, HF.out⟩

end Go.Proofs.Ytiioikpjgeggdaa
