/- The code's fixed predictors: the three numbers ahead (past), Residual, Restore, Weight, Best; fixedOK. -/
import Derived.Test.YtiioikpjgeggdaaFixAw
import Derived.BigQuiet
import Derived.BigRegion
import Derived.Lib.MinMax
namespace Go.Proofs.Ytiioikpjgeggdaa
open Go.RowKit
set_option maxRecDepth 100000

attribute [local go_sem ↓] Go.wp_at_zero Go.wp_at_succ

/-- The three numbers ahead, the nearest first, at block g. -/
def Pst (w : World) (g : Nat) (a b c : Int) : Prop := Blk w g 36 #[.int .i64 a, .int .i64 b, .int .i64 c]
/-- .. of place i of l. -/
def PstL (w : World) (g : Nat) (l : List Int) (i : Nat) : Prop := Pst w g (pv l i 1) (pv l i 2) (pv l i 3)
theorem Pst.cells {w : World} {g : Nat} {a b c : Int} (h : Pst w g a b c) : w.cell? ⟨g, 0, none⟩ = some (.int .i64 a) ∧ w.cell? ⟨g, 1, none⟩ = some (.int .i64 b) ∧ w.cell? ⟨g, 2, none⟩ = some (.int .i64 c) :=
  ⟨by simpa using Blk.cell h 0, by simpa using Blk.cell h 1, by simpa using Blk.cell h 2⟩
theorem pv_next (l : List Int) (i j : Nat) : pv l (i + 1) (j + 1) = pv l i j := by
  unfold pv
  by_cases h : j ≤ i
  · rw [if_pos h, if_pos (by omega), show i + 1 - (j + 1) = i - j by omega]
  · rw [if_neg h, if_neg (by omega)]
theorem pv_zero (l : List Int) (i : Nat) : pv l i 0 = l.getD i 0 := by unfold pv; rw [if_pos (Nat.zero_le i), Nat.sub_zero]

set_option maxHeartbeats 1600000 in
theorem cGuess_any (g : Nat) (a b c k : Int) (w : World) (h : Pst w g a b c) (ha : -2147483648 ≤ a ∧ a < 2147483648) (hb : -2147483648 ≤ b ∧ b < 2147483648) (hc : -2147483648 ≤ c ∧ c < 2147483648) :
    Calls Try.prog 19 #[.pointer (some ⟨g, 0, none⟩), .int .i64 k] w fun e w' => e = .returned (.int .i64 (gp (ko k) a b c)) ∧ ∃ n, w' = w.drewN n := by
  obtain ⟨c0, c1, c2⟩ := h.cells
  have HP := Lib.hid h
  clear h
  have hko : ko k = 0 ∨ ko k = 1 ∨ ko k = 2 ∨ ko k = 3 := by have := ko_le k; omega
  rcases hko with hk | hk | hk | hk
  · have hm : min (max k 0) 3 = 0 := by unfold ko at hk; omega
    rw [hk]
    clear hk
    go_enter Try.func19, Try.ntmps19
    go_wp2_with fail
    go_ret
    exact ⟨rfl, 0, rfl⟩
  · have hm : min (max k 0) 3 = 1 := by unfold ko at hk; omega
    rw [hk]
    clear hk
    go_enter Try.func19, Try.ntmps19
    go_wp2_with fail
    go_ret
    exact ⟨rfl, 0, rfl⟩
  · have hm : min (max k 0) 3 = 2 := by unfold ko at hk; omega
    rw [hk]
    clear hk
    have hg : gp 2 a b c = 2 * a - b := rfl
    rw [hg]
    go_enter Try.func19, Try.ntmps19
    go_wp2_with fail
    go_quiet (fail)
    go_wp2_with fail
    go_ret
    exact ⟨rfl, _, rfl⟩
  · have hm : min (max k 0) 3 = 3 := by unfold ko at hk; omega
    rw [hk]
    clear hk
    have hg : gp 3 a b c = 3 * a - 3 * b + c := rfl
    rw [hg]
    go_enter Try.func19, Try.ntmps19
    go_wp2_with fail
    go_quiet (fail)
    go_wp2_with fail
    go_ret
    exact ⟨rfl, _, rfl⟩

set_option maxHeartbeats 1600000 in
theorem cLearn_any (g : Nat) (a b c v : Int) (w : World) (h : Pst w g a b c) (hv : -2147483648 ≤ v ∧ v < 2147483648) :
    Calls Try.prog 20 #[.pointer (some ⟨g, 0, none⟩), .int .i32 v] w fun e w' => e = .returned (.tuple #[]) ∧ Pst w' g v a b ∧ Kept (fun k => k = g) w w' := by
  obtain ⟨c0, c1, c2⟩ := h.cells
  have f0 := Blk.frozen h 0
  have f1 := Blk.frozen h 1
  have f2 := Blk.frozen h 2
  have HP := Lib.hid h
  clear h
  go_enter Try.func20, Try.ntmps20
  go_wp2_with fail
  go_region
  all_goals
    go_end0
    refine ⟨rfl, ?_, ((((Kept.refl (fun k => k = g) w).setCell (fun _ => rfl) _).setCell (fun _ => rfl) _).setCell (fun _ => rfl) _).drew⟩
    exact (((HP.out.set_ 0 _).set_ 1 _).set_ 2 _).drew

theorem w32_wr (x : Int) : wrap32 x = w32 x := by unfold w32 wrap32; rfl
theorem gp_in (k : Nat) {a b c : Int} (ha : -2147483648 ≤ a ∧ a < 2147483648) (hb : -2147483648 ≤ b ∧ b < 2147483648) (hc : -2147483648 ≤ c ∧ c < 2147483648) : -17179869184 ≤ gp k a b c ∧ gp k a b c ≤ 17179869184 := by
  unfold gp
  split
  · omega
  · split
    · omega
    · split <;> omega

set_option maxHeartbeats 1600000 in
/-- Residual: P11.1. -/
theorem cResidual_any (A : Option Addr) (n c : Nat) (l : List Int) (k : Int) (w : World) (hr : Row w .i32 A n l) (h32 : I32 l) (hn : n ≤ 1048576) :
    Calls Try.prog 9 #[.slice A n c, .int .i64 k] w fun e w' => ∃ u, e = .returned u ∧ NewRow w w' 21 .i32 u (res (ko k) l) := by
  obtain ⟨i4, hi4, h40, h41, h42⟩ := info_parts Try.infoI32F
  obtain rfl := hr.len
  have HR : Hid (∀ V, Fresh w V → Row V .i32 A l.length l) := Lib.hid fun V hV => hr.kept hV (fun _ _ _ _ => id)
  have H32 := Lib.hid h32
  have hm : l.length ≤ 1048576 := hn
  clear hr h32 hn
  go_enter Try.func9, Try.ntmps9
  go_wp2_with (at_make; refine wpList_make_zeros _ rfl _ _ 22 rfl 21 i4 .i32 4 Try.underlying22 hi4 h40 h41 h42 _ _ _ _ l.length rfl rfl rfl rfl (by omega) (by unfold maxLen; omega) ?_)
  intro w1 ho1 hf1
  have hp1 : PstL (w.alloc (.cells #[.int .i64 0, .int .i64 0, .int .i64 0] 36)) w.heap.size l 0 := Blk.new _ _ _
  have H1 := Lib.hid (And.intro (hp1.kept hf1 id) (And.intro ho1 (((Kept.refl (fun _ => False) w).alloc (.cells #[.int .i64 0, .int .i64 0, .int .i64 0] 36)).trans hf1 (fun _ _ h => h))))
  clear hp1 ho1 hf1
  go_wp2_with fail
  generalize hg : w.heap.size = g at *
  have HG := Lib.hid hg
  clear hg
  go_loopw [14] (fun i wr => ∃ j : Nat, j ≤ l.length ∧ i = .int .i64 j ∧ PstL wr g l j ∧ Own wr 21 .i32 (.slice (some ⟨g + 1, 0, none⟩) l.length l.length) (resN (ko k) l j ++ List.replicate (l.length - j) 0) ∧ Fresh w wr) (fun i _ => (l.length - intOf i).toNat)
  case atStart => exact ⟨0, by omega, rfl, H1.out.1, H1.out.2.1, H1.out.2.2⟩
  case round =>
    obtain ⟨j, hj, rfl, hp, ho, hf⟩ := hrel
    clear H1
    have hol : (resN (ko k) l j ++ List.replicate (l.length - j) 0).length = l.length := by rw [List.length_append, resN_length, List.length_replicate]; omega
    have hgl := ho.lt (g := g + 1) rfl
    have hws := HG.out
    have HX := Lib.hid (And.intro hp (And.intro ho hf))
    by_cases hlt : j < l.length
    · obtain ⟨b, o, rfl, hbw, _⟩ := (HR.out w (Kept.refl _ _)).at_ j hlt
      obtain ⟨b', o', e', hb, hc⟩ := (HR.out wr hf).at_ j hlt
      injection e' with e'
      injection e' with e1 e2
      subst e1 e2
      have j0 : (j : Int) < (l.length : Int) := by omega
      have hv := H32.out.at_ j
      have HC := Lib.hid (cGuess_any g _ _ _ k wr hp (pv_32 H32.out j 1) (pv_32 H32.out j 2) (pv_32 H32.out j 3))
      have Hr : Hid (resN (ko k) l (j + 1) = resN (ko k) l j ++ [w32 (l.getD j 0 - gp (ko k) (pv l j 1) (pv l j 2) (pv l j 3))]) := Lib.hid rfl
      have hgp := gp_in (ko k) (pv_32 H32.out j 1) (pv_32 H32.out j 2) (pv_32 H32.out j 3)
      have Hv := Lib.hid (show l.getD j 0 = pv l (j + 1) 1 by rw [pv_next, pv_zero])
      generalize gp (ko k) (pv l j 1) (pv l j 2) (pv l j 3) = gu at *
      generalize l.getD j 0 = v at *
      clear hp ho hf
      go_wp2_with fail
      refine HC.out.mono ?_
      rintro e w2 ⟨rfl, m, rfl⟩
      clear HC
      have cg : (wr.drewN m).cell? ⟨g + 1, j, none⟩ = _ := (HX.out.2.1.drewN m).cellN hol hlt
      have fg := (HX.out.2.1.drewN m).frozenN hol j
      have ho3 := (HX.out.2.1.drewN m).storeN hol j (w32 (v - gu))
      have hp3 : PstL ((wr.drewN m).setCell ⟨g + 1, j, none⟩ (.int .i32 (w32 (v - gu)))) g l j := Blk.far (Blk.drewN HX.out.1 m) (by simp) _
      have hf3 := (HX.out.2.2.drewN m).setCell (p := ⟨g + 1, j, none⟩) (fun h => absurd h (by simp only; omega)) (.int .i32 (w32 (v - gu)))
      rw [set_next _ _ _ _ (resN_length _ _ _) hlt, ← Hr.out] at ho3
      have H3 := Lib.hid (And.intro hp3 (And.intro ho3 hf3))
      clear hp3 ho3 hf3
      go_wp2_with fail
      rw [w32_wr]
      generalize (wr.drewN m).setCell ⟨g + 1, j, none⟩ (.int .i32 (w32 (v - gu))) = w3 at *
      refine (cLearn_any g _ _ _ v w3 H3.out.1 hv).mono ?_
      rintro e w4 ⟨rfl, hp4, hk4⟩
      rw [← pv_next l j 1, ← pv_next l j 2, Hv.out] at hp4
      have ho4 := H3.out.2.1.kept hk4 (fun g' e e2 => by
        have e1 : g + 1 = g' := by simpa [Value.ownBlock] using e
        have e2' : g' = g := e2
        omega)
      have hf4 := H3.out.2.2.trans hk4 (fun i hi e => by have e' : i = g := e; omega)
      have H4 := Lib.hid (And.intro hp4 (And.intro ho4 hf4))
      clear hp4 ho4 hf4 hk4 H3
      go_wp2_with fail
      go_roundw
      case rel => exact ⟨j + 1, by omega, by go_num, H4.out.1, H4.out.2.1, H4.out.2.2⟩
      case measure => simp [intOf]; omega
    · obtain rfl : j = l.length := by omega
      rw [Nat.sub_self, List.replicate_zero, List.append_nil] at ho
      have HE : Hid (NewRow w wr 21 .i32 (.slice (some ⟨g + 1, 0, none⟩) l.length l.length) (res (ko k) l)) := Lib.hid ⟨ho, fun m e => by
        have e' : g + 1 = m := by simpa [Value.ownBlock] using e
        omega, hf⟩
      clear HX hp ho hf
      go_wp2_with fail
      go_ret
      exact ⟨_, rfl, HE.out⟩

set_option maxHeartbeats 1600000 in
/-- Restore: P11.1. -/
theorem cRestore_any (A : Option Addr) (n c : Nat) (l : List Int) (k : Int) (w : World) (hr : Row w .i32 A n l) (h32 : I32 l) (hn : n ≤ 1048576) :
    Calls Try.prog 12 #[.slice A n c, .int .i64 k] w fun e w' => ∃ u, e = .returned u ∧ NewRow w w' 21 .i32 u (rst (ko k) l) := by
  obtain ⟨i4, hi4, h40, h41, h42⟩ := info_parts Try.infoI32F
  obtain rfl := hr.len
  have HR : Hid (∀ V, Fresh w V → Row V .i32 A l.length l) := Lib.hid fun V hV => hr.kept hV (fun _ _ _ _ => id)
  have H32 := Lib.hid h32
  have hm : l.length ≤ 1048576 := hn
  clear hr h32 hn
  go_enter Try.func12, Try.ntmps12
  go_wp2_with (at_make; refine wpList_make_zeros _ rfl _ _ 22 rfl 21 i4 .i32 4 Try.underlying22 hi4 h40 h41 h42 _ _ _ _ l.length rfl rfl rfl rfl (by omega) (by unfold maxLen; omega) ?_)
  intro w1 ho1 hf1
  have hp1 : PstL (w.alloc (.cells #[.int .i64 0, .int .i64 0, .int .i64 0] 36)) w.heap.size [] 0 := Blk.new _ _ _
  have H1 := Lib.hid (And.intro (hp1.kept hf1 id) (And.intro ho1 (((Kept.refl (fun _ => False) w).alloc (.cells #[.int .i64 0, .int .i64 0, .int .i64 0] 36)).trans hf1 (fun _ _ h => h))))
  clear hp1 ho1 hf1
  go_wp2_with fail
  generalize hg : w.heap.size = g at *
  have HG := Lib.hid hg
  clear hg
  go_loopw [14] (fun i wr => ∃ j : Nat, j ≤ l.length ∧ i = .int .i64 j ∧ PstL wr g (rstN (ko k) l j) j ∧ Own wr 21 .i32 (.slice (some ⟨g + 1, 0, none⟩) l.length l.length) (rstN (ko k) l j ++ List.replicate (l.length - j) 0) ∧ Fresh w wr) (fun i _ => (l.length - intOf i).toNat)
  case atStart => exact ⟨0, by omega, rfl, H1.out.1, H1.out.2.1, H1.out.2.2⟩
  case round =>
    obtain ⟨j, hj, rfl, hp, ho, hf⟩ := hrel
    clear H1
    have hol : (rstN (ko k) l j ++ List.replicate (l.length - j) 0).length = l.length := by rw [List.length_append, rstN_length, List.length_replicate]; omega
    have hgl := ho.lt (g := g + 1) rfl
    have hws := HG.out
    have HX := Lib.hid (And.intro hp (And.intro ho hf))
    by_cases hlt : j < l.length
    · obtain ⟨b, o, rfl, hbw, _⟩ := (HR.out w (Kept.refl _ _)).at_ j hlt
      obtain ⟨b', o', e', hb, hc⟩ := (HR.out wr hf).at_ j hlt
      injection e' with e'
      injection e' with e1 e2
      subst e1 e2
      have hx32 : I32 (rstN (ko k) l j) := I32.of fun i hi => by
        rw [rstN_length] at hi
        rw [rstN_getD _ _ hi]
        exact w32_in _
      have j0 : (j : Int) < (l.length : Int) := by omega
      have hv := H32.out.at_ j
      have HC := Lib.hid (cGuess_any g _ _ _ k wr hp (pv_32 hx32 j 1) (pv_32 hx32 j 2) (pv_32 hx32 j 3))
      have Hr : Hid (rstN (ko k) l (j + 1) = rstN (ko k) l j ++ [w32 (l.getD j 0 + gp (ko k) (pv (rstN (ko k) l j) j 1) (pv (rstN (ko k) l j) j 2) (pv (rstN (ko k) l j) j 3))]) := Lib.hid rfl
      have hgp := gp_in (ko k) (pv_32 hx32 j 1) (pv_32 hx32 j 2) (pv_32 hx32 j 3)
      generalize gp (ko k) (pv (rstN (ko k) l j) j 1) (pv (rstN (ko k) l j) j 2) (pv (rstN (ko k) l j) j 3) = gu at *
      generalize l.getD j 0 = v at *
      have Hv : Hid (w32 (v + gu) = pv (rstN (ko k) l (j + 1)) (j + 1) 1 ∧ pv (rstN (ko k) l j) j 1 = pv (rstN (ko k) l (j + 1)) (j + 1) 2 ∧ pv (rstN (ko k) l j) j 2 = pv (rstN (ko k) l (j + 1)) (j + 1) 3) := Lib.hid (by
        rw [pv_next, pv_next, pv_next, pv_zero, Hr.out, pv_append _ _ (by rw [rstN_length]; omega) (by decide), pv_append _ _ (by rw [rstN_length]; omega) (by decide)]
        exact ⟨by simp [List.getD, rstN_length], rfl, rfl⟩)
      clear hp ho hf
      go_wp2_with fail
      refine HC.out.mono ?_
      rintro e w2 ⟨rfl, m, rfl⟩
      clear HC
      have cg : (wr.drewN m).cell? ⟨g + 1, j, none⟩ = _ := (HX.out.2.1.drewN m).cellN hol hlt
      have fg := (HX.out.2.1.drewN m).frozenN hol j
      have ho3 := (HX.out.2.1.drewN m).storeN hol j (w32 (v + gu))
      have hp3 : PstL ((wr.drewN m).setCell ⟨g + 1, j, none⟩ (.int .i32 (w32 (v + gu)))) g (rstN (ko k) l j) j := Blk.far (Blk.drewN HX.out.1 m) (by simp) _
      have hf3 := (HX.out.2.2.drewN m).setCell (p := ⟨g + 1, j, none⟩) (fun h => absurd h (by simp only; omega)) (.int .i32 (w32 (v + gu)))
      have cx : ((wr.drewN m).setCell ⟨g + 1, j, none⟩ (.int .i32 (w32 (v + gu)))).cell? ⟨g + 1, j, none⟩ = some (.int .i32 (w32 (v + gu))) := by
        have := ho3.cellN (by rw [List.length_set]; exact hol) hlt
        rw [this]
        simp [List.getD, hol, hlt]
      rw [set_next _ _ _ _ (rstN_length _ _ _) hlt, ← Hr.out] at ho3
      have H3 := Lib.hid (And.intro hp3 (And.intro ho3 hf3))
      clear hp3 ho3 hf3
      go_wp2_with fail
      rw [w32_wr]
      generalize (wr.drewN m).setCell ⟨g + 1, j, none⟩ (.int .i32 (w32 (v + gu))) = w3 at *
      refine (cLearn_any g _ _ _ _ w3 H3.out.1 (w32_in _)).mono ?_
      rintro e w4 ⟨rfl, hp4, hk4⟩
      rw [Hv.out.1, Hv.out.2.1, Hv.out.2.2] at hp4
      have ho4 := H3.out.2.1.kept hk4 (fun g' e e2 => by
        have e1 : g + 1 = g' := by simpa [Value.ownBlock] using e
        have e2' : g' = g := e2
        omega)
      have hf4 := H3.out.2.2.trans hk4 (fun i hi e => by have e' : i = g := e; omega)
      have H4 := Lib.hid (And.intro hp4 (And.intro ho4 hf4))
      clear hp4 ho4 hf4 hk4 H3
      go_wp2_with fail
      go_roundw
      case rel => exact ⟨j + 1, by omega, by go_num, H4.out.1, H4.out.2.1, H4.out.2.2⟩
      case measure => simp [intOf]; omega
    · obtain rfl : j = l.length := by omega
      rw [Nat.sub_self, List.replicate_zero, List.append_nil] at ho
      have HE : Hid (NewRow w wr 21 .i32 (.slice (some ⟨g + 1, 0, none⟩) l.length l.length) (rst (ko k) l)) := Lib.hid ⟨ho, fun m e => by
        have e' : g + 1 = m := by simpa [Value.ownBlock] using e
        omega, hf⟩
      clear HX hp ho hf
      go_wp2_with fail
      go_ret
      exact ⟨_, rfl, HE.out⟩

set_option maxHeartbeats 1600000 in
/-- Weight: P11.2. -/
theorem cWeight_any (A : Option Addr) (n c : Nat) (l : List Int) (w : World) (hr : Row w .i32 A n l) (h32 : I32 l) (hn : n ≤ 1048576) :
    Calls Try.prog 14 #[.slice A n c] w fun e w' => e = .returned (.int .u64 (weight l : Nat)) ∧ w = w' := by
  obtain rfl := hr.len
  have HR := Lib.hid hr
  have H32 := Lib.hid h32
  clear hr h32
  go_enter Try.func14, Try.ntmps14
  go_wp2_with fail
  go_loopw [9, 3] (fun i x wr => ∃ j : Nat, j ≤ l.length ∧ i = .int .i64 j ∧ x = .int .u64 (weight (l.take j) : Nat) ∧ wr = w) (fun i _ _ => (l.length - intOf i).toNat)
  case atStart => exact ⟨0, by omega, rfl, rfl, rfl⟩
  case round =>
    obtain ⟨j, hj, rfl, rfl, rfl⟩ := hrel
    have hle := weight_le (l := l.take j) (fun x hx => H32.out x (List.mem_of_mem_take hx))
    rw [List.length_take, Nat.min_eq_left hj] at hle
    by_cases hlt : j < l.length
    · obtain ⟨b, o, rfl, hb, hc⟩ := HR.out.at_ j hlt
      have Ht := Lib.hid (weight_take l hlt)
      have hv := H32.out.at_ j
      generalize l.getD j 0 = v at *
      generalize weight (l.take j) = s at *
      have j0 : (j : Int) < (l.length : Int) := by omega
      have ha : max v (-v) = (v.natAbs : Int) := by omega
      have ha0 : (0 : Int) ≤ (v.natAbs : Int) := by omega
      have ha1 : (v.natAbs : Int) ≤ 2147483648 := by omega
      have hs1 : (s : Int) ≤ 2147483648 * 1000000000 := by omega
      generalize v.natAbs = a at *
      go_wp2_with fail
      go_roundw
      case rel => exact ⟨j + 1, by omega, by go_num, by rw [Ht.out]; go_num, trivial⟩
      case measure => simp [intOf]; omega
    · obtain rfl : j = l.length := by omega
      rw [List.take_length]
      go_wp2_with fail
      go_ret
      exact ⟨rfl, rfl⟩

set_option maxHeartbeats 1600000 in
/-- Best: P11.2. -/
theorem cBestO_any (A : Option Addr) (n c : Nat) (l : List Int) (w : World) (hr : Row w .i32 A n l) (h32 : I32 l) (hn : n ≤ 1048576) :
    Calls Try.prog 16 #[.slice A n c] w fun e w' => e = .returned (.int .i64 (bestOr l 3 : Nat)) ∧ Fresh w w' := by
  have HC : Hid (∀ (k : Nat) (V : World), k ≤ 3 → Fresh w V → Calls Try.prog 9 #[.slice A n c, .int .i64 (k : Int)] V fun e w' => ∃ B cB, e = .returned (.slice B n cB) ∧ Row w' .i32 B n (res k l) ∧ Fresh V w') := Lib.hid fun k V hk hV => by
    refine (cResidual_any A n c l k V (hr.kept hV (fun _ _ _ _ => id)) h32 hn).mono ?_
    rintro e w' ⟨u, rfl, hu, _, hf⟩
    obtain ⟨B, cB, rfl, hrow, _⟩ := hu.row
    rw [ko_in hk] at hrow
    rw [ko_in hk]
    rw [res_length, hr.len] at hrow
    rw [res_length, hr.len]
    exact ⟨B, cB, rfl, hrow, hf⟩
  have HW : Hid (∀ (k : Nat) (B : Option Addr) (cB : Nat) (V : World), Row V .i32 B n (res k l) → Calls Try.prog 14 #[.slice B n cB] V fun e w' => e = .returned (.int .u64 (wres l k : Nat)) ∧ V = w') := Lib.hid fun k B cB V hV => cWeight_any B n cB (res k l) V hV (res_32 k l) hn
  have HW0 := Lib.hid (show Calls Try.prog 14 #[.slice A n c] w fun e w' => e = .returned (.int .u64 (wres l 0 : Nat)) ∧ w = w' by
    have := cWeight_any A n c l w hr h32 hn
    unfold wres
    rwa [res_zero h32])
  have HL : Hid (∀ k : Nat, wres l k ≤ 2147483648 * 1000000000) := Lib.hid fun k => by
    have := wres_le l k
    have := hr.len
    omega
  clear hr h32
  go_enter Try.func16, Try.ntmps16
  go_wp2_with fail
  refine HW0.out.mono ?_
  rintro e w1 ⟨rfl, rfl⟩
  clear HW0
  go_wp2_with fail
  go_loopw [5, 3, 4] (fun i x y wr => ∃ j : Nat, j ≤ 3 ∧ i = .int .i64 ((j : Int) + 1) ∧ x = .int .i64 (bestOr l j : Nat) ∧ y = .int .u64 (wres l (bestOr l j) : Nat) ∧ Fresh w wr) (fun i _ _ _ => (4 - intOf i).toNat)
  case atStart => exact ⟨0, by omega, rfl, rfl, rfl, Kept.refl _ _⟩
  case round =>
    obtain ⟨j, hj, rfl, rfl, rfl, hf⟩ := hrel
    have hb := bestOr_le l j
    have HF := Lib.hid hf
    clear hf
    by_cases hlt : j < 3
    · have hs : bestOr l (j + 1) = if wres l (j + 1) < wres l (bestOr l j) then j + 1 else bestOr l j := rfl
      have Hs := Lib.hid hs
      have b1 := HL.out (j + 1)
      have b2 := HL.out (bestOr l j)
      have HC1 := Lib.hid (HC.out (j + 1) wr (by omega) HF.out)
      have HW1 : Hid (∀ (B : Option Addr) (cB : Nat) (V : World), Row V .i32 B n (res (j + 1) l) → _) := Lib.hid fun B cB V hV => HW.out (j + 1) B cB V hV
      have HX : Hid (∀ x, wres l (j + 1) = x → wres l (j + 1) = x) := Lib.hid fun _ h => h
      clear hs HC HL HW
      have Hy : Hid (∀ m, bestOr l j = m → wres l (bestOr l j) = wres l m) := Lib.hid fun m h => by rw [h]
      generalize hm : bestOr l j = m at *
      have Hm := Lib.hid hm
      clear hm
      generalize hx : wres l (j + 1) = x at *
      generalize hy : wres l m = y at *
      have HXY := Lib.hid (And.intro hx hy)
      clear hx hy
      have j0 : (j : Int) + 1 ≤ 3 := by omega
      go_wp2_with fail
      rw [show ((j : Int) + 1) = ((j + 1 : Nat) : Int) from by omega]
      refine HC1.out.mono ?_
      rintro e w1 ⟨B, cB, rfl, hB, hf1⟩
      have HX := Lib.hid (HW1.out B cB w1 hB)
      have H1 := Lib.hid (HF.out.trans hf1 (fun _ _ h => h))
      clear hB hf1 HC1 HF HW1
      go_wp2_with fail
      refine HX.out.mono ?_
      rintro e w2 ⟨rfl, rfl⟩
      clear HX
      by_cases hxy : x < y
      · rw [if_pos hxy] at Hs
        have hx : (x : Int) < (y : Int) := by omega
        go_wp2_with fail
        go_roundw
        case rel => exact ⟨j + 1, by omega, by go_num, by rw [Hs.out]; go_num, by rw [Hs.out, HXY.out.1], H1.out⟩
        case measure => simp [intOf]; omega
      · rw [if_neg hxy] at Hs
        have hx : ¬ (x : Int) < (y : Int) := by omega
        go_wp2_with fail
        go_roundw
        case rel => exact ⟨j + 1, by omega, by go_num, by rw [Hs.out], by rw [Hs.out, HXY.out.2], H1.out⟩
        case measure => simp [intOf]; omega
    · obtain rfl : j = 3 := by omega
      go_wp2_with fail
      go_ret
      exact ⟨rfl, HF.out⟩

/-- What the laws ask of the code. -/
theorem fixedOK : FixedOK := ⟨cResidual_any, cRestore_any, fun A n c l w hr h hn => (cWeight_any A n c l w hr h hn).mono fun _ _ h => ⟨h.1, h.2 ▸ Kept.refl _ _⟩, cBestO_any⟩

end Go.Proofs.Ytiioikpjgeggdaa
