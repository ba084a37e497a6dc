/- Texts of this proof, one behind the other: FixQ, FixAw, FixC, LmsMath, LmsQ, LmsR, LmsAw, LmsC. -/
import Derived.Test.YtodmchjdflpbpaaPart2
import Derived.Test.YtodmchjdflpbpaaZeros
import Derived.Deep.DrawnRows
import Derived.Deep.QuietTactic
import Derived.Deep.RegionHeld3
import Derived.BigQuiet
import Derived.BigRegion
import Derived.Lib.MinMax
import Derived.StillTailTactics
import Derived.Test.YtodmchjdflpbpaaArr
import Derived.Deep.MidRow

/- The document's at, guess, Residual, Restore, Weight, Best of the fixed predictors. -/
namespace Go.Proofs.Ytodmchjdflpbpaa
open Go.RowKit
set_option maxRecDepth 100000

attribute [local go_sem ↓] Go.wp_at_zero Go.wp_at_succ

theorem Try.infoI32F : (Try.prog.info? 21).map (fun i => (i.zero, i.size, i.bytes)) = some (some (.int .i32 0), 1, 4) := by kernel_rfl


theorem pv_32 {l : List Int} (h : I32 l) (i j : Nat) : -2147483648 ≤ pv l i j ∧ pv l i j < 2147483648 := by
  unfold pv
  split
  · exact h.at_ _
  · omega


theorem res_elem (x g : Int) : w32 (x - w32 g) = w32 (x - g) := by unfold w32; omega
theorem rst_elem (x g : Int) : w32 (x + w32 g) = w32 (x + g) := by unfold w32; omega

theorem Own.sized {w : World} {e : TypeId} {k : IntKind} {v : Value} {xs : List Int} {n : Nat} (h : Own w e k v xs) (hn : xs.length = n) : w.ownsRow 0 e 1 v n (ivs k xs) := by
  subst hn
  exact h





end Go.Proofs.Ytodmchjdflpbpaa

/- What the laws of the fixed predictors ask of the code; awake. -/
namespace Go.Proofs.Ytodmchjdflpbpaa
open Go.RowKit
set_option maxRecDepth 100000

attribute [local go_sem ↓] Go.wp_at_zero Go.wp_at_succ


theorem three_res : res (ko 2) [5, 7, 9] = [5, -3, 0] := by decide +kernel




end Go.Proofs.Ytodmchjdflpbpaa

/- The code's fixed predictors: the three numbers ahead (past), Residual, Restore, Weight, Best; fixedOK. -/
namespace Go.Proofs.Ytodmchjdflpbpaa
open Go.RowKit
set_option maxRecDepth 100000

attribute [local go_sem ↓] Go.wp_at_zero Go.wp_at_succ

/-- The three numbers ahead, the nearest first, at block g. -/
def Pst (w : World) (g : Nat) (a b c : Int) : Prop := Blk w g 105 #[.int .i64 a, .int .i64 b, .int .i64 c]
/-- .. of place i of l. -/
def PstL (w : World) (g : Nat) (l : List Int) (i : Nat) : Prop := Pst w g (pv l i 1) (pv l i 2) (pv l i 3)
theorem Pst.cells {w : World} {g : Nat} {a b c : Int} (h : Pst w g a b c) : w.cell? ⟨g, 0, none⟩ = some (.int .i64 a) ∧ w.cell? ⟨g, 1, none⟩ = some (.int .i64 b) ∧ w.cell? ⟨g, 2, none⟩ = some (.int .i64 c) :=
  ⟨by simpa using Blk.cell h 0, by simpa using Blk.cell h 1, by simpa using Blk.cell h 2⟩
theorem pv_next (l : List Int) (i j : Nat) : pv l (i + 1) (j + 1) = pv l i j := by
  unfold pv
  by_cases h : j ≤ i
  · rw [if_pos h, if_pos (by omega), show i + 1 - (j + 1) = i - j by omega]
  · rw [if_neg h, if_neg (by omega)]
theorem pv_zero (l : List Int) (i : Nat) : pv l i 0 = l.getD i 0 := by unfold pv; rw [if_pos (Nat.zero_le i), Nat.sub_zero]

set_option maxHeartbeats 1600000 in
theorem cGuess_any (g : Nat) (a b c k : Int) (w : World) (h : Pst w g a b c) (ha : -2147483648 ≤ a ∧ a < 2147483648) (hb : -2147483648 ≤ b ∧ b < 2147483648) (hc : -2147483648 ≤ c ∧ c < 2147483648) :
    Calls Try.prog 47 #[.pointer (some ⟨g, 0, none⟩), .int .i64 k] w fun e w' => e = .returned (.int .i64 (gp (ko k) a b c)) ∧ ∃ n, w' = w.drewN n := by
  obtain ⟨c0, c1, c2⟩ := h.cells
  have HP := Lib.hid h
  clear h
  have hko : ko k = 0 ∨ ko k = 1 ∨ ko k = 2 ∨ ko k = 3 := by have := ko_le k; omega
  rcases hko with hk | hk | hk | hk
  · have hm : min (max k 0) 3 = 0 := by unfold ko at hk; omega
    rw [hk]
    clear hk
    go_enter Try.func47, Try.ntmps47
    go_wp2_with fail
    go_ret
    exact ⟨rfl, 0, rfl⟩
  · have hm : min (max k 0) 3 = 1 := by unfold ko at hk; omega
    rw [hk]
    clear hk
    go_enter Try.func47, Try.ntmps47
    go_wp2_with fail
    go_ret
    exact ⟨rfl, 0, rfl⟩
  · have hm : min (max k 0) 3 = 2 := by unfold ko at hk; omega
    rw [hk]
    clear hk
    have hg : gp 2 a b c = 2 * a - b := rfl
    rw [hg]
    go_enter Try.func47, Try.ntmps47
    go_wp2_with fail
    go_quiet (fail)
    go_wp2_with fail
    go_ret
    exact ⟨rfl, _, rfl⟩
  · have hm : min (max k 0) 3 = 3 := by unfold ko at hk; omega
    rw [hk]
    clear hk
    have hg : gp 3 a b c = 3 * a - 3 * b + c := rfl
    rw [hg]
    go_enter Try.func47, Try.ntmps47
    go_wp2_with fail
    go_quiet (fail)
    go_wp2_with fail
    go_ret
    exact ⟨rfl, _, rfl⟩

set_option maxHeartbeats 1600000 in
theorem cLearn_any (g : Nat) (a b c v : Int) (w : World) (h : Pst w g a b c) (hv : -2147483648 ≤ v ∧ v < 2147483648) :
    Calls Try.prog 48 #[.pointer (some ⟨g, 0, none⟩), .int .i32 v] w fun e w' => e = .returned (.tuple #[]) ∧ Pst w' g v a b ∧ Kept (fun k => k = g) w w' := by
  obtain ⟨c0, c1, c2⟩ := h.cells
  have f0 := Blk.frozen h 0
  have f1 := Blk.frozen h 1
  have f2 := Blk.frozen h 2
  have HP := Lib.hid h
  clear h
  go_enter Try.func48, Try.ntmps48
  go_wp2_with fail
  go_region
  all_goals
    go_end0
    refine ⟨rfl, ?_, ((((Kept.refl (fun k => k = g) w).setCell (fun _ => rfl) _).setCell (fun _ => rfl) _).setCell (fun _ => rfl) _).drew⟩
    exact (((HP.out.set_ 0 _).set_ 1 _).set_ 2 _).drew

theorem w32_wr (x : Int) : wrap32 x = w32 x := by unfold w32 wrap32; rfl
theorem gp_in (k : Nat) {a b c : Int} (ha : -2147483648 ≤ a ∧ a < 2147483648) (hb : -2147483648 ≤ b ∧ b < 2147483648) (hc : -2147483648 ≤ c ∧ c < 2147483648) : -17179869184 ≤ gp k a b c ∧ gp k a b c ≤ 17179869184 := by
  unfold gp
  split
  · omega
  · split
    · omega
    · split <;> omega

set_option maxHeartbeats 1600000 in
/-- Residual: P11.1. -/
theorem cResidual_any (A : Option Addr) (n c : Nat) (l : List Int) (k : Int) (w : World) (hr : Row w .i32 A n l) (h32 : I32 l) (hn : n ≤ 1048576) :
    Calls Try.prog 45 #[.slice A n c, .int .i64 k] w fun e w' => ∃ u, e = .returned u ∧ NewRow w w' 21 .i32 u (res (ko k) l) := by
  obtain ⟨i4, hi4, h40, h41, h42⟩ := info_parts Try.infoI32F
  obtain rfl := hr.len
  have HR : Hid (∀ V, Fresh w V → Row V .i32 A l.length l) := Lib.hid fun V hV => hr.kept hV (fun _ _ _ _ => id)
  have H32 := Lib.hid h32
  have hm : l.length ≤ 1048576 := hn
  clear hr h32 hn
  go_enter Try.func45, Try.ntmps45
  go_wp2_with (at_make; refine wpList_make_zeros _ rfl _ _ 51 rfl 21 i4 .i32 4 Try.underlying51 hi4 h40 h41 h42 _ _ _ _ l.length rfl rfl rfl rfl (by omega) (by unfold maxLen; omega) ?_)
  intro w1 ho1 hf1
  have hp1 : PstL (w.alloc (.cells #[.int .i64 0, .int .i64 0, .int .i64 0] 105)) w.heap.size l 0 := Blk.new _ _ _
  have H1 := Lib.hid (And.intro (hp1.kept hf1 id) (And.intro ho1 (((Kept.refl (fun _ => False) w).alloc (.cells #[.int .i64 0, .int .i64 0, .int .i64 0] 105)).trans hf1 (fun _ _ h => h))))
  clear hp1 ho1 hf1
  go_wp2_with fail
  generalize hg : w.heap.size = g at *
  have HG := Lib.hid hg
  clear hg
  go_loopw [14] (fun i wr => ∃ j : Nat, j ≤ l.length ∧ i = .int .i64 j ∧ PstL wr g l j ∧ Own wr 21 .i32 (.slice (some ⟨g + 1, 0, none⟩) l.length l.length) (resN (ko k) l j ++ List.replicate (l.length - j) 0) ∧ Fresh w wr) (fun i _ => (l.length - intOf i).toNat)
  case atStart => exact ⟨0, by omega, rfl, H1.out.1, H1.out.2.1, H1.out.2.2⟩
  case round =>
    obtain ⟨j, hj, rfl, hp, ho, hf⟩ := hrel
    clear H1
    have hol : (resN (ko k) l j ++ List.replicate (l.length - j) 0).length = l.length := by rw [List.length_append, resN_length, List.length_replicate]; omega
    have hgl := ho.lt (g := g + 1) rfl
    have hws := HG.out
    have HX := Lib.hid (And.intro hp (And.intro ho hf))
    by_cases hlt : j < l.length
    · obtain ⟨b, o, rfl, hbw, _⟩ := (HR.out w (Kept.refl _ _)).at_ j hlt
      obtain ⟨b', o', e', hb, hc⟩ := (HR.out wr hf).at_ j hlt
      injection e' with e'
      injection e' with e1 e2
      subst e1 e2
      have j0 : (j : Int) < (l.length : Int) := by omega
      have hv := H32.out.at_ j
      have HC := Lib.hid (cGuess_any g _ _ _ k wr hp (pv_32 H32.out j 1) (pv_32 H32.out j 2) (pv_32 H32.out j 3))
      have Hr : Hid (resN (ko k) l (j + 1) = resN (ko k) l j ++ [w32 (l.getD j 0 - gp (ko k) (pv l j 1) (pv l j 2) (pv l j 3))]) := Lib.hid rfl
      have hgp := gp_in (ko k) (pv_32 H32.out j 1) (pv_32 H32.out j 2) (pv_32 H32.out j 3)
      have Hv := Lib.hid (show l.getD j 0 = pv l (j + 1) 1 by rw [pv_next, pv_zero])
      generalize gp (ko k) (pv l j 1) (pv l j 2) (pv l j 3) = gu at *
      generalize l.getD j 0 = v at *
      clear hp ho hf
      go_wp2_with fail
      refine HC.out.mono ?_
      rintro e w2 ⟨rfl, m, rfl⟩
      clear HC
      have cg : (wr.drewN m).cell? ⟨g + 1, j, none⟩ = _ := (HX.out.2.1.drewN m).cellN hol hlt
      have fg := (HX.out.2.1.drewN m).frozenN hol j
      have ho3 := (HX.out.2.1.drewN m).storeN hol j (w32 (v - gu))
      have hp3 : PstL ((wr.drewN m).setCell ⟨g + 1, j, none⟩ (.int .i32 (w32 (v - gu)))) g l j := Blk.far (Blk.drewN HX.out.1 m) (by simp) _
      have hf3 := (HX.out.2.2.drewN m).setCell (p := ⟨g + 1, j, none⟩) (fun h => absurd h (by simp only; omega)) (.int .i32 (w32 (v - gu)))
      rw [set_next _ _ _ _ (resN_length _ _ _) hlt, ← Hr.out] at ho3
      have H3 := Lib.hid (And.intro hp3 (And.intro ho3 hf3))
      clear hp3 ho3 hf3
      go_wp2_with fail
      rw [w32_wr]
      generalize (wr.drewN m).setCell ⟨g + 1, j, none⟩ (.int .i32 (w32 (v - gu))) = w3 at *
      refine (cLearn_any g _ _ _ v w3 H3.out.1 hv).mono ?_
      rintro e w4 ⟨rfl, hp4, hk4⟩
      rw [← pv_next l j 1, ← pv_next l j 2, Hv.out] at hp4
      have ho4 := H3.out.2.1.kept hk4 (fun g' e e2 => by
        have e1 : g + 1 = g' := by simpa [Value.ownBlock] using e
        have e2' : g' = g := e2
        omega)
      have hf4 := H3.out.2.2.trans hk4 (fun i hi e => by have e' : i = g := e; omega)
      have H4 := Lib.hid (And.intro hp4 (And.intro ho4 hf4))
      clear hp4 ho4 hf4 hk4 H3
      go_wp2_with fail
      go_roundw
      case rel => exact ⟨j + 1, by omega, by go_num, H4.out.1, H4.out.2.1, H4.out.2.2⟩
      case measure => simp [intOf]; omega
    · obtain rfl : j = l.length := by omega
      rw [Nat.sub_self, List.replicate_zero, List.append_nil] at ho
      have HE : Hid (NewRow w wr 21 .i32 (.slice (some ⟨g + 1, 0, none⟩) l.length l.length) (res (ko k) l)) := Lib.hid ⟨ho, fun m e => by
        have e' : g + 1 = m := by simpa [Value.ownBlock] using e
        omega, hf⟩
      clear HX hp ho hf
      go_wp2_with fail
      go_ret
      exact ⟨_, rfl, HE.out⟩


set_option maxHeartbeats 1600000 in
/-- Weight: P11.2. -/
theorem cWeight_any (A : Option Addr) (n c : Nat) (l : List Int) (w : World) (hr : Row w .i32 A n l) (h32 : I32 l) (hn : n ≤ 1048576) :
    Calls Try.prog 44 #[.slice A n c] w fun e w' => e = .returned (.int .u64 (weight l : Nat)) ∧ w = w' := by
  obtain rfl := hr.len
  have HR := Lib.hid hr
  have H32 := Lib.hid h32
  clear hr h32
  go_enter Try.func44, Try.ntmps44
  go_wp2_with fail
  go_loopw [9, 3] (fun i x wr => ∃ j : Nat, j ≤ l.length ∧ i = .int .i64 j ∧ x = .int .u64 (weight (l.take j) : Nat) ∧ wr = w) (fun i _ _ => (l.length - intOf i).toNat)
  case atStart => exact ⟨0, by omega, rfl, rfl, rfl⟩
  case round =>
    obtain ⟨j, hj, rfl, rfl, rfl⟩ := hrel
    have hle := weight_le (l := l.take j) (fun x hx => H32.out x (List.mem_of_mem_take hx))
    rw [List.length_take, Nat.min_eq_left hj] at hle
    by_cases hlt : j < l.length
    · obtain ⟨b, o, rfl, hb, hc⟩ := HR.out.at_ j hlt
      have Ht := Lib.hid (weight_take l hlt)
      have hv := H32.out.at_ j
      generalize l.getD j 0 = v at *
      generalize weight (l.take j) = s at *
      have j0 : (j : Int) < (l.length : Int) := by omega
      have ha : max v (-v) = (v.natAbs : Int) := by omega
      have ha0 : (0 : Int) ≤ (v.natAbs : Int) := by omega
      have ha1 : (v.natAbs : Int) ≤ 2147483648 := by omega
      have hs1 : (s : Int) ≤ 2147483648 * 1000000000 := by omega
      generalize v.natAbs = a at *
      go_wp2_with fail
      go_roundw
      case rel => exact ⟨j + 1, by omega, by go_num, by rw [Ht.out]; go_num, trivial⟩
      case measure => simp [intOf]; omega
    · obtain rfl : j = l.length := by omega
      rw [List.take_length]
      go_wp2_with fail
      go_ret
      exact ⟨rfl, rfl⟩

set_option maxHeartbeats 1600000 in
/-- Best: P11.2. -/
theorem cBestO_any (A : Option Addr) (n c : Nat) (l : List Int) (w : World) (hr : Row w .i32 A n l) (h32 : I32 l) (hn : n ≤ 1048576) :
    Calls Try.prog 41 #[.slice A n c] w fun e w' => e = .returned (.int .i64 (bestOr l 3 : Nat)) ∧ Fresh w w' := by
  have HC : Hid (∀ (k : Nat) (V : World), k ≤ 3 → Fresh w V → Calls Try.prog 45 #[.slice A n c, .int .i64 (k : Int)] V fun e w' => ∃ B cB, e = .returned (.slice B n cB) ∧ Row w' .i32 B n (res k l) ∧ Fresh V w') := Lib.hid fun k V hk hV => by
    refine (cResidual_any A n c l k V (hr.kept hV (fun _ _ _ _ => id)) h32 hn).mono ?_
    rintro e w' ⟨u, rfl, hu, _, hf⟩
    obtain ⟨B, cB, rfl, hrow, _⟩ := hu.row
    rw [ko_in hk] at hrow
    rw [ko_in hk]
    rw [res_length, hr.len] at hrow
    rw [res_length, hr.len]
    exact ⟨B, cB, rfl, hrow, hf⟩
  have HW : Hid (∀ (k : Nat) (B : Option Addr) (cB : Nat) (V : World), Row V .i32 B n (res k l) → Calls Try.prog 44 #[.slice B n cB] V fun e w' => e = .returned (.int .u64 (wres l k : Nat)) ∧ V = w') := Lib.hid fun k B cB V hV => cWeight_any B n cB (res k l) V hV (res_32 k l) hn
  have HW0 := Lib.hid (show Calls Try.prog 44 #[.slice A n c] w fun e w' => e = .returned (.int .u64 (wres l 0 : Nat)) ∧ w = w' by
    have := cWeight_any A n c l w hr h32 hn
    unfold wres
    rwa [res_zero h32])
  have HL : Hid (∀ k : Nat, wres l k ≤ 2147483648 * 1000000000) := Lib.hid fun k => by
    have := wres_le l k
    have := hr.len
    omega
  clear hr h32
  go_enter Try.func41, Try.ntmps41
  go_wp2_with fail
  refine HW0.out.mono ?_
  rintro e w1 ⟨rfl, rfl⟩
  clear HW0
  go_wp2_with fail
  go_loopw [5, 3, 4] (fun i x y wr => ∃ j : Nat, j ≤ 3 ∧ i = .int .i64 ((j : Int) + 1) ∧ x = .int .i64 (bestOr l j : Nat) ∧ y = .int .u64 (wres l (bestOr l j) : Nat) ∧ Fresh w wr) (fun i _ _ _ => (4 - intOf i).toNat)
  case atStart => exact ⟨0, by omega, rfl, rfl, rfl, Kept.refl _ _⟩
  case round =>
    obtain ⟨j, hj, rfl, rfl, rfl, hf⟩ := hrel
    have hb := bestOr_le l j
    have HF := Lib.hid hf
    clear hf
    by_cases hlt : j < 3
    · have hs : bestOr l (j + 1) = if wres l (j + 1) < wres l (bestOr l j) then j + 1 else bestOr l j := rfl
      have Hs := Lib.hid hs
      have b1 := HL.out (j + 1)
      have b2 := HL.out (bestOr l j)
      have HC1 := Lib.hid (HC.out (j + 1) wr (by omega) HF.out)
      have HW1 : Hid (∀ (B : Option Addr) (cB : Nat) (V : World), Row V .i32 B n (res (j + 1) l) → _) := Lib.hid fun B cB V hV => HW.out (j + 1) B cB V hV
      have HX : Hid (∀ x, wres l (j + 1) = x → wres l (j + 1) = x) := Lib.hid fun _ h => h
      clear hs HC HL HW
      have Hy : Hid (∀ m, bestOr l j = m → wres l (bestOr l j) = wres l m) := Lib.hid fun m h => by rw [h]
      generalize hm : bestOr l j = m at *
      have Hm := Lib.hid hm
      clear hm
      generalize hx : wres l (j + 1) = x at *
      generalize hy : wres l m = y at *
      have HXY := Lib.hid (And.intro hx hy)
      clear hx hy
      have j0 : (j : Int) + 1 ≤ 3 := by omega
      go_wp2_with fail
      rw [show ((j : Int) + 1) = ((j + 1 : Nat) : Int) from by omega]
      refine HC1.out.mono ?_
      rintro e w1 ⟨B, cB, rfl, hB, hf1⟩
      have HX := Lib.hid (HW1.out B cB w1 hB)
      have H1 := Lib.hid (HF.out.trans hf1 (fun _ _ h => h))
      clear hB hf1 HC1 HF HW1
      go_wp2_with fail
      refine HX.out.mono ?_
      rintro e w2 ⟨rfl, rfl⟩
      clear HX
      by_cases hxy : x < y
      · rw [if_pos hxy] at Hs
        have hx : (x : Int) < (y : Int) := by omega
        go_wp2_with fail
        go_roundw
        case rel => exact ⟨j + 1, by omega, by go_num, by rw [Hs.out]; go_num, by rw [Hs.out, HXY.out.1], H1.out⟩
        case measure => simp [intOf]; omega
      · rw [if_neg hxy] at Hs
        have hx : ¬ (x : Int) < (y : Int) := by omega
        go_wp2_with fail
        go_roundw
        case rel => exact ⟨j + 1, by omega, by go_num, by rw [Hs.out], by rw [Hs.out, HXY.out.2], H1.out⟩
        case measure => simp [intOf]; omega
    · obtain rfl : j = 3 := by omega
      go_wp2_with fail
      go_ret
      exact ⟨rfl, HF.out⟩


end Go.Proofs.Ytodmchjdflpbpaa

/- The adaptive predictor, as plain mathematics: eight weights and the last eight numbers in one list of sixteen. -/
namespace Go.Proofs.Ytodmchjdflpbpaa
open Go.RowKit
set_option maxRecDepth 100000

def sgn (x : Int) : Int := if 0 < x then 1 else if x < 0 then -1 else 0
theorem sgn_in (x : Int) : -1 ≤ sgn x ∧ sgn x ≤ 1 := by unfold sgn; split <;> (try split) <;> omega
/-- The sum of each number times its weight, as 64 bits. -/
def dotS (S : List Int) : Nat → Int
  | 0 => 0
  | j + 1 => dotS S j + S.getD j 0 * S.getD (8 + j) 0
/-- The guess. -/
def gl (S : List Int) : Int := w32 (wrap64 (dotS S 8) / 256)
/-- The first j weights, learnt. -/
def upS (e : Int) (S : List Int) : Nat → List Int
  | 0 => S
  | j + 1 => (upS e S j).set j (w32 (S.getD j 0 + w32 (e * sgn (S.getD (8 + j) 0))))
/-- The numbers moved on, from the oldest one down. -/
def shS (S : List Int) : Nat → List Int
  | 0 => S
  | t + 1 => (shS S t).set (15 - t) ((shS S t).getD (14 - t) 0)
def learnS (S : List Int) (v : Int) : List Int := (shS (upS (sgn (w32 (v - gl S))) S 8) 7).set 8 v
theorem upS_length (e : Int) (S : List Int) : ∀ j, (upS e S j).length = S.length
  | 0 => rfl
  | j + 1 => by simp [upS, upS_length e S j]
theorem shS_length (S : List Int) : ∀ j, (shS S j).length = S.length
  | 0 => rfl
  | j + 1 => by simp [shS, shS_length S j]
theorem learnS_length (S : List Int) (v : Int) : (learnS S v).length = S.length := by simp [learnS, shS_length, upS_length]
theorem upS_far (e : Int) (S : List Int) : ∀ j i, j ≤ i → (upS e S j).getD i 0 = S.getD i 0
  | 0, _, _ => rfl
  | j + 1, i, h => by
    unfold upS
    rw [← upS_far e S j i (by omega)]
    simp [List.getD, List.getElem?_set_ne (show j ≠ i by omega)]
theorem I32.set {S : List Int} (h : I32 S) (i : Nat) {x : Int} (hx : -2147483648 ≤ x ∧ x < 2147483648) : I32 (S.set i x) := fun v hv => by
  rcases List.mem_or_eq_of_mem_set hv with h' | h'
  · exact h v h'
  · rw [h']; exact hx
theorem upS_32 (e : Int) {S : List Int} (h : I32 S) : ∀ j, I32 (upS e S j)
  | 0 => h
  | j + 1 => (upS_32 e h j).set _ (w32_in _)
theorem shS_32 {S : List Int} (h : I32 S) : ∀ j, I32 (shS S j)
  | 0 => h
  | j + 1 => (shS_32 h j).set _ ((shS_32 h j).at_ _)
theorem learnS_32 {S : List Int} (h : I32 S) {v : Int} (hv : -2147483648 ≤ v ∧ v < 2147483648) : I32 (learnS S v) := (shS_32 (upS_32 _ h 8) 7).set _ hv

/-- The filter behind the first n numbers. -/
def stN (l : List Int) : Nat → List Int
  | 0 => List.replicate 16 0
  | n + 1 => learnS (stN l n) (l.getD n 0)
theorem stN_length (l : List Int) : ∀ n, (stN l n).length = 16
  | 0 => rfl
  | n + 1 => by rw [stN, learnS_length, stN_length l n]
theorem stN_32 {l : List Int} (h : I32 l) : ∀ n, I32 (stN l n)
  | 0 => fun v hv => by rw [List.eq_of_mem_replicate hv]; omega
  | n + 1 => learnS_32 (stN_32 h n) (h.at_ n)
theorem stN_eq {l m : List Int} : ∀ n, (∀ i, i < n → l.getD i 0 = m.getD i 0) → stN l n = stN m n
  | 0, _ => rfl
  | n + 1, h => by rw [stN, stN, stN_eq n fun i hi => h i (by omega), h n (by omega)]
theorem stN_take (l : List Int) {n k : Nat} (h : n ≤ k) : stN (l.take k) n = stN l n := stN_eq n fun i hi => by simp [List.getD, show i < k by omega]
theorem stN_append (l m : List Int) {n : Nat} (h : n ≤ l.length) : stN (l ++ m) n = stN l n := stN_eq n fun i hi => by simp [List.getD, List.getElem?_append_left (show i < l.length by omega)]

/-- Weights that take a step more within 32 bits. -/
def WB (S : List Int) : Prop := ∀ j, j < 8 → -2147483648 < S.getD j 0 ∧ S.getD j 0 < 2147483647
theorem upS_at (e : Int) (S : List Int) (hS : 8 ≤ S.length) : ∀ j i, j ≤ 8 → i < j → (upS e S j).getD i 0 = w32 (S.getD i 0 + w32 (e * sgn (S.getD (8 + i) 0)))
  | 0, _, _, h => absurd h (Nat.not_lt_zero _)
  | j + 1, i, hj, h => by
    unfold upS
    rcases Nat.lt_or_ge i j with hi | hi
    · rw [← upS_at e S hS j i (by omega) hi]
      simp [List.getD, List.getElem?_set_ne (show j ≠ i by omega)]
    · obtain rfl : i = j := by omega
      have hl : i < (upS e S i).length := by rw [upS_length]; omega
      simp [List.getD, hl]
theorem shS_low (S : List Int) : ∀ t i, t ≤ 7 → i < 9 → (shS S t).getD i 0 = S.getD i 0
  | 0, _, _, _ => rfl
  | t + 1, i, ht, h => by
    unfold shS
    rw [← shS_low S t i (by omega) h]
    simp [List.getD, List.getElem?_set_ne (show 15 - t ≠ i by omega)]
theorem learnS_low {S : List Int} (hS : 8 ≤ S.length) (v : Int) {i : Nat} (h : i < 8) : (learnS S v).getD i 0 = w32 (S.getD i 0 + w32 (sgn (w32 (v - gl S)) * sgn (S.getD (8 + i) 0))) := by
  have e : ∀ (X : List Int) (y : Int), (X.set 8 y).getD i 0 = X.getD i 0 := fun X y => by simp only [List.getD, List.getElem?_set_ne (show 8 ≠ i by omega)]
  unfold learnS
  rw [e, shS_low _ 7 i (by omega) (by omega), upS_at _ S hS 8 i (Nat.le_refl _) h]
theorem sgn_mul (x y : Int) : -1 ≤ sgn x * sgn y ∧ sgn x * sgn y ≤ 1 := by
  unfold sgn
  split <;> (try split) <;> (try split) <;> (try split) <;> omega
theorem stN_wb (l : List Int) : ∀ n : Nat, n < 2147483647 → ∀ j, j < 8 → -(n : Int) ≤ (stN l n).getD j 0 ∧ (stN l n).getD j 0 ≤ n
  | 0, _, j, hj => by
    have : (List.replicate 16 (0 : Int)).getD j 0 = 0 := by
      rw [List.getD, List.getElem?_replicate_of_lt (show j < 16 by omega), Option.getD_some]
    have : (stN l 0).getD j 0 = 0 := this
    omega
  | n + 1, hn, j, hj => by
    have ih := stN_wb l n (by omega) j hj
    show _ ≤ (learnS (stN l n) (l.getD n 0)).getD j 0 ∧ (learnS (stN l n) (l.getD n 0)).getD j 0 ≤ _
    rw [learnS_low (by rw [stN_length]; omega) _ hj]
    have := sgn_mul (w32 (l.getD n 0 - gl (stN l n))) ((stN l n).getD (8 + j) 0)
    generalize sgn (w32 (l.getD n 0 - gl (stN l n))) * sgn ((stN l n).getD (8 + j) 0) = p at *
    generalize (stN l n).getD j 0 = x at *
    unfold w32
    omega
theorem stN_WB (l : List Int) {n : Nat} (h : n < 2147483647) : WB (stN l n) := fun j hj => by
  have := stN_wb l n h j hj
  omega

/-- Residuals; and what they are of. -/
def lrN (l : List Int) : Nat → List Int
  | 0 => []
  | n + 1 => lrN l n ++ [w32 (l.getD n 0 - gl (stN l n))]
def lres (l : List Int) : List Int := lrN l l.length
def lsN (l : List Int) : Nat → List Int
  | 0 => []
  | n + 1 => lsN l n ++ [w32 (l.getD n 0 + gl (stN (lsN l n) n))]
def lrst (l : List Int) : List Int := lsN l l.length
theorem lrN_length (l : List Int) : ∀ n, (lrN l n).length = n
  | 0 => rfl
  | n + 1 => by simp [lrN, lrN_length l n]
theorem lsN_length (l : List Int) : ∀ n, (lsN l n).length = n
  | 0 => rfl
  | n + 1 => by simp [lsN, lsN_length l n]
theorem lres_length (l : List Int) : (lres l).length = l.length := lrN_length l _
theorem lrst_length (l : List Int) : (lrst l).length = l.length := lsN_length l _
theorem lrN_getD (l : List Int) : ∀ n i, i < n → (lrN l n).getD i 0 = w32 (l.getD i 0 - gl (stN l i))
  | n + 1, i, h => by
    unfold lrN
    rcases Nat.lt_or_ge i n with hi | hi
    · rw [← lrN_getD l n i hi]
      simp [List.getD, List.getElem?_append_left (show i < (lrN l n).length by rw [lrN_length]; exact hi)]
    · obtain rfl : i = n := by omega
      simp [List.getD, lrN_length]
theorem lsN_take (l : List Int) : ∀ n m, n ≤ m → (lsN l m).take n = lsN l n
  | n, 0, h => by obtain rfl : n = 0 := by omega
                  rfl
  | n, m + 1, h => by
    rcases Nat.lt_or_ge m n with hm | hm
    · obtain rfl : n = m + 1 := by omega
      rw [List.take_of_length_le (by rw [lsN_length]; omega)]
    · show (lsN l m ++ [_]).take n = _
      rw [List.take_append_of_le_length (by rw [lsN_length]; exact hm), lsN_take l n m hm]
theorem lsN_getD (l : List Int) {n i : Nat} (h : i < n) : (lsN l n).getD i 0 = w32 (l.getD i 0 + gl (stN (lsN l n) i)) := by
  have h1 := lsN_take l (i + 1) n h
  have h2 := lsN_take l i n (by omega)
  have e : (lsN l n).getD i 0 = ((lsN l n).take (i + 1)).getD i 0 := by simp [List.getD]
  rw [e, h1, ← stN_take (lsN l n) (Nat.le_refl i), h2]
  show (lsN l i ++ [_]).getD i 0 = _
  simp [List.getD, lsN_length]
theorem lres_32 (l : List Int) : I32 (lres l) := I32.of fun i hi => by
  unfold lres at hi ⊢
  rw [lrN_length] at hi
  rw [lrN_getD l _ i hi]
  exact w32_in _
theorem lsN_32 (l : List Int) (n : Nat) : I32 (lsN l n) := I32.of fun i hi => by
  rw [lsN_length] at hi
  rw [lsN_getD l hi]
  exact w32_in _
theorem lrst_32 (l : List Int) : I32 (lrst l) := lsN_32 l _
theorem lrst_lres {l : List Int} (h : I32 l) : lrst (lres l) = l := by
  have : ∀ n, n ≤ l.length → lsN (lres l) n = l.take n := by
    intro n
    induction n with
    | zero => intro _; simp [lsN]
    | succ n ih =>
      intro hn
      unfold lsN
      have e1 : (lres l).getD n 0 = w32 (l.getD n 0 - gl (stN l n)) := lrN_getD l _ n (by omega)
      rw [ih (by omega), e1, stN_take l (Nat.le_refl n), List.take_succ_eq_append_getElem (by omega)]
      have := h.at_ n
      have e : l.getD n 0 = l[n] := by simp [List.getD, show n < l.length by omega]
      rw [e] at this ⊢
      congr 2
      generalize gl (stN l n) = g
      unfold w32
      omega
  unfold lrst
  rw [lres_length, this _ (Nat.le_refl _), List.take_length]
theorem lres_lrst {l : List Int} (h : I32 l) : lres (lrst l) = l := by
  refine eq_of_getD (by rw [lres_length, lrst_length]) fun i hi => ?_
  rw [lres_length, lrst_length] at hi
  have e1 : (lres (lrst l)).getD i 0 = w32 ((lrst l).getD i 0 - gl (stN (lrst l) i)) := lrN_getD _ _ i (by rw [lrst_length]; exact hi)
  have e2 : (lrst l).getD i 0 = w32 (l.getD i 0 + gl (stN (lrst l) i)) := lsN_getD l hi
  rw [e1, e2]
  have := h.at_ i
  generalize gl (stN (lrst l) i) = g
  unfold w32
  omega
theorem lres_take (l : List Int) {k : Nat} (hk : k ≤ l.length) : lres (l.take k) = (lres l).take k := by
  refine eq_of_getD (by rw [lres_length, List.length_take, List.length_take, lres_length]) fun i hi => ?_
  rw [lres_length, List.length_take, Nat.min_eq_left hk] at hi
  have e1 : (lres (l.take k)).getD i 0 = w32 ((l.take k).getD i 0 - gl (stN (l.take k) i)) := lrN_getD _ _ i (by rw [List.length_take]; omega)
  have e2 : (lres l).getD i 0 = w32 (l.getD i 0 - gl (stN l i)) := lrN_getD _ _ i (by omega)
  have e3 : ((lres l).take k).getD i 0 = (lres l).getD i 0 := by simp [List.getD, hi]
  have e4 : (l.take k).getD i 0 = l.getD i 0 := by simp [List.getD, hi]
  rw [e1, e3, e2, e4, stN_take l (by omega)]

end Go.Proofs.Ytodmchjdflpbpaa

/- Filters in memory (sixteen cells: the weights, then the numbers); the document's Guess and Learn. -/
namespace Go.Proofs.Ytodmchjdflpbpaa
open Go.RowKit
set_option maxRecDepth 100000

attribute [local go_sem ↓] Go.wp_at_zero Go.wp_at_succ

/-- A filter at block g. -/
structure Fil (w : World) (g : Nat) (t : TypeId) (S : List Int) : Prop where
  blk : Blk w g t (ivs .i32 S).toArray
  len : S.length = 16
  rng : I32 S
section
variable {w w' : World} {g : Nat} {t : TypeId} {S : List Int}
theorem Fil.cell (h : Fil w g t S) {i : Nat} (hi : i < 16) : w.cell? ⟨g, i, none⟩ = some (.int .i32 (S.getD i 0)) := by
  rw [h.blk.cell, List.getElem?_toArray, ivs_get (by rw [h.len]; exact hi)]
theorem Fil.drewN (h : Fil w g t S) (n : Nat) : Fil (w.drewN n) g t S := ⟨h.blk.drewN n, h.len, h.rng⟩
theorem Fil.drew (h : Fil w g t S) : Fil w.drew g t S := ⟨h.blk.drew, h.len, h.rng⟩
theorem Fil.kept {P : Nat → Prop} (h : Fil w g t S) (hk : Kept P w w') (hn : ¬ P g) : Fil w' g t S := ⟨h.blk.kept hk hn, h.len, h.rng⟩
theorem Fil.set_ (h : Fil w g t S) (i : Nat) {x : Int} (hx : -2147483648 ≤ x ∧ x < 2147483648) : Fil (w.setCell ⟨g, i, none⟩ (.int .i32 x)) g t (S.set i x) := by
  refine ⟨?_, by rw [List.length_set]; exact h.len, h.rng.set i hx⟩
  have := h.blk.set_ i (.int .i32 x)
  have e : (ivs .i32 S).toArray.setIfInBounds i (.int .i32 x) = (ivs .i32 (S.set i x)).toArray := by rw [← ivs_set]; simp
  rwa [e] at this
end
/-- What a call of a filter leaves. -/
def FlP (w w' : World) (g : Nat) (t : TypeId) (S : List Int) : Prop := Fil w' g t S ∧ Kept (fun k => k = g) w w'

theorem drewN_two (w : World) (n m : Nat) : (w.drewN n).drewN m = w.drewN (n + m) := by simp [World.drewN, Nat.add_assoc]
theorem w32_wr' (x : Int) : wrap32 x = w32 x := by unfold w32 wrap32; rfl
theorem w64_step (s p : Int) : wrap64 (wrap64 s + wrap64 p) = wrap64 (s + p) := by unfold wrap64; omega
theorem w64_step' (s p : Int) : wrap64 (wrap64 s + p) = wrap64 (s + p) := by unfold wrap64; omega
theorem mul_32 {a b : Int} (ha : -2147483648 ≤ a ∧ a < 2147483648) (hb : -2147483648 ≤ b ∧ b < 2147483648) : -9223372036854775808 ≤ a * b ∧ a * b ≤ 9223372036854775807 := by
  have h1 : a.natAbs ≤ 2147483648 := by omega
  have h2 : b.natAbs ≤ 2147483648 := by omega
  have h3 : (a * b).natAbs ≤ 2147483648 * 2147483648 := by rw [Int.natAbs_mul]; exact Nat.mul_le_mul h1 h2
  omega




end Go.Proofs.Ytodmchjdflpbpaa

/- The document's Residual and Restore of the adaptive predictor. -/
namespace Go.Proofs.Ytodmchjdflpbpaa
open Go.RowKit
set_option maxRecDepth 100000

attribute [local go_sem ↓] Go.wp_at_zero Go.wp_at_succ

theorem Try.infoI32L : (Try.prog.info? 21).map (fun i => (i.zero, i.size, i.bytes)) = some (some (.int .i32 0), 1, 4) := by kernel_rfl
theorem Own.sizedL {w : World} {e : TypeId} {k : IntKind} {v : Value} {xs : List Int} {n : Nat} (h : Own w e k v xs) (hn : xs.length = n) : w.ownsRow 0 e 1 v n (ivs k xs) := by
  subst hn
  exact h

/-- A list of one's own and a filter behind its block, all new since w. -/
structure LmS (w wr : World) (g : Nat) (t : TypeId) (u : Value) (xs S : List Int) : Prop where
  own : Own wr 21 .i32 u xs
  new : ∀ k, u.ownBlock = some k → w.heap.size ≤ k
  fil : Fil wr g t S
  ge : w.heap.size ≤ g
  ne_ : u.ownBlock ≠ some g
  fr : Fresh w wr
theorem LmS.learn {w wr w' : World} {g : Nat} {t : TypeId} {u : Value} {xs S S' : List Int} (h : LmS w wr g t u xs S) (hl : FlP wr w' g t S') : LmS w w' g t u xs S' :=
  ⟨h.own.kept hl.2 fun k e e2 => h.ne_ (by rw [e, e2]), h.new, hl.1, h.ge, h.ne_, h.fr.trans hl.2 fun i hi e => by have := h.ge; omega⟩
theorem LmS.drewN {w wr : World} {g : Nat} {t : TypeId} {u : Value} {xs S : List Int} (h : LmS w wr g t u xs S) (n : Nat) : LmS w (wr.drewN n) g t u xs S :=
  ⟨h.own, h.new, h.fil.drewN n, h.ge, h.ne_, h.fr.drewN n⟩
theorem LmS.app {w wr w' : World} {g : Nat} {t : TypeId} {u u' : Value} {xs ys S : List Int} {o : Obj} (h : LmS w wr g t u xs S) (ho : Own w' 21 .i32 u' ys) (hg : (wr.alloc o).grownBy w' u.ownBlock) (hat : u'.ownBlock = u.ownBlock ∨ u'.ownBlock = some (wr.heap.size + 1)) : LmS w w' g t u' ys S := by
  have hk : Kept (fun k => u.ownBlock = some k) wr w' := ((Kept.refl (fun k => u.ownBlock = some k) wr).alloc o).grown hg (fun k e _ => e)
  have hs := h.fr.size
  refine ⟨ho, fun k e => ?_, h.fil.kept hk h.ne_, h.ge, fun e => ?_, h.fr.trans hk fun i hi e => by have := h.new i e; omega⟩
  · rcases hat with e3 | e3
    · exact h.new k (e3 ▸ e)
    · rw [e3] at e; injection e with e; omega
  · rcases hat with e3 | e3
    · exact h.ne_ (e3 ▸ e)
    · rw [e3] at e; injection e with e; have := h.fil.blk.lt; omega



end Go.Proofs.Ytodmchjdflpbpaa

/- What the laws of the adaptive predictor ask of the code; awake. -/
namespace Go.Proofs.Ytodmchjdflpbpaa
open Go.RowKit
set_option maxRecDepth 100000

attribute [local go_sem ↓] Go.wp_at_zero Go.wp_at_succ


theorem two_ones : lres [1, 1] = [1, 1] := by decide +kernel
theorem gl_zero : gl (List.replicate 16 0) = 0 := by decide +kernel



end Go.Proofs.Ytodmchjdflpbpaa

/- The code's adaptive filter: sixteen cells (the numbers, then the weights, of 64 bits); Guess, Learn, New, Residual, Restore; lmsOK. -/
namespace Go.Proofs.Ytodmchjdflpbpaa
open Go.RowKit
set_option maxRecDepth 100000

attribute [local go_sem ↓] Go.wp_at_zero Go.wp_at_succ

/-- The cells of the code's filter: S has the weights first. -/
def fcs (S : List Int) : Array Value := ((List.range 16).map fun i => if i < 8 then Value.int .i32 (S.getD (8 + i) 0) else Value.int .i64 (S.getD (i - 8) 0)).toArray
theorem fcs_size (S : List Int) : (fcs S).size = 16 := by simp [fcs]
theorem fcs_num (S : List Int) {i : Nat} (h : i < 8) : (fcs S)[i]? = some (.int .i32 (S.getD (8 + i) 0)) := by
  simp only [fcs, List.getElem?_toArray, List.getElem?_map, List.getElem?_range (show i < 16 by omega), Option.map_some, if_pos h]
theorem fcs_weight (S : List Int) {i : Nat} (h : i < 8) : (fcs S)[8 + i]? = some (.int .i64 (S.getD i 0)) := by
  simp only [fcs, List.getElem?_toArray, List.getElem?_map, List.getElem?_range (show 8 + i < 16 by omega), Option.map_some, if_neg (show ¬ 8 + i < 8 by omega), Nat.add_sub_cancel_left]
theorem fcs_all (S : List Int) (i : Nat) (h : i < 16) : (fcs S)[i]? = some (if i < 8 then Value.int .i32 (S.getD (8 + i) 0) else Value.int .i64 (S.getD (i - 8) 0)) := by
  simp only [fcs, List.getElem?_toArray, List.getElem?_map, List.getElem?_range h, Option.map_some]
theorem getD_put {S : List Int} {i : Nat} (hi : i < S.length) (x : Int) (k : Nat) : (S.set i x).getD k 0 = if k = i then x else S.getD k 0 := by
  by_cases h : k = i
  · subst h; rw [if_pos rfl]; simp [List.getD, hi]
  · rw [if_neg h]; simp only [List.getD, List.getElem?_set_ne (show i ≠ k by omega)]
theorem fcs_setNum {S : List Int} (hS : S.length = 16) {i : Nat} (h : i < 8) (x : Int) : (fcs S).setIfInBounds i (.int .i32 x) = fcs (S.set (8 + i) x) := by
  apply Array.ext_getElem?
  intro k
  rw [Array.getElem?_setIfInBounds, fcs_size]
  rcases Nat.lt_or_ge k 16 with hk | hk
  · rw [fcs_all _ k hk, fcs_all _ k hk, getD_put (by omega), getD_put (by omega)]
    by_cases e : i = k
    · subst e
      rw [if_pos rfl, if_pos hk, if_pos h, if_pos rfl]
    · rw [if_neg e, if_neg (show ¬ 8 + k = 8 + i by omega)]
      by_cases e8 : k < 8
      · rw [if_pos e8, if_pos e8]
      · rw [if_neg e8, if_neg e8, if_neg (show ¬ k - 8 = 8 + i by omega)]
  · rw [if_neg (by omega), Array.getElem?_eq_none (by rw [fcs_size]; exact hk), Array.getElem?_eq_none (by rw [fcs_size]; exact hk)]
theorem fcs_setWeight {S : List Int} (hS : S.length = 16) {i : Nat} (h : i < 8) (x : Int) : (fcs S).setIfInBounds (8 + i) (.int .i64 x) = fcs (S.set i x) := by
  apply Array.ext_getElem?
  intro k
  rw [Array.getElem?_setIfInBounds, fcs_size]
  rcases Nat.lt_or_ge k 16 with hk | hk
  · rw [fcs_all _ k hk, fcs_all _ k hk, getD_put (by omega), getD_put (by omega)]
    by_cases e : 8 + i = k
    · subst e
      rw [if_pos rfl, if_pos hk, if_neg (show ¬ 8 + i < 8 by omega), if_pos (by omega)]
    · rw [if_neg e]
      by_cases e8 : k < 8
      · rw [if_pos e8, if_pos e8, if_neg (show ¬ 8 + k = i by omega)]
      · rw [if_neg e8, if_neg e8, if_neg (show ¬ k - 8 = i by omega)]
  · rw [if_neg (by omega), Array.getElem?_eq_none (by rw [fcs_size]; exact hk), Array.getElem?_eq_none (by rw [fcs_size]; exact hk)]
/-- The numbers moved on by one place. -/
theorem fcs_moved {U : List Int} (h : U.length = 16) : ((fcs U).toList.take 1 ++ ((fcs U).toList.take 7 ++ (fcs U).toList.drop (1 + 7))).toArray = fcs (shS U 7) := by
  match U, h with
  | [_, _, _, _, _, _, _, _, _, _, _, _, _, _, _, _], _ => rfl

/-- The code's filter at block g. -/
structure CFil (w : World) (g : Nat) (S : List Int) : Prop where
  blk : Blk w g 146 (fcs S)
  len : S.length = 16
  rng : I32 S
section
variable {w w' : World} {g : Nat} {S : List Int}
theorem CFil.num (h : CFil w g S) {i : Nat} (hi : i < 8) : w.cell? ⟨g, i, none⟩ = some (.int .i32 (S.getD (8 + i) 0)) := by rw [h.blk.cell, fcs_num S hi]
theorem CFil.weight (h : CFil w g S) {i : Nat} (hi : i < 8) : w.cell? ⟨g, 8 + i, none⟩ = some (.int .i64 (S.getD i 0)) := by rw [h.blk.cell, fcs_weight S hi]
theorem CFil.drewN (h : CFil w g S) (n : Nat) : CFil (w.drewN n) g S := ⟨h.blk.drewN n, h.len, h.rng⟩
theorem CFil.drew (h : CFil w g S) : CFil w.drew g S := ⟨h.blk.drew, h.len, h.rng⟩
theorem CFil.kept {P : Nat → Prop} (h : CFil w g S) (hk : Kept P w w') (hn : ¬ P g) : CFil w' g S := ⟨h.blk.kept hk hn, h.len, h.rng⟩
theorem CFil.setNum (h : CFil w g S) {i : Nat} (hi : i < 8) {x : Int} (hx : -2147483648 ≤ x ∧ x < 2147483648) : CFil (w.setCell ⟨g, i, none⟩ (.int .i32 x)) g (S.set (8 + i) x) := by
  refine ⟨?_, by rw [List.length_set]; exact h.len, h.rng.set _ hx⟩
  rw [← fcs_setNum h.len hi]
  exact h.blk.set_ i _
theorem CFil.setWeight (h : CFil w g S) {i : Nat} (hi : i < 8) {x : Int} (hx : -2147483648 ≤ x ∧ x < 2147483648) : CFil (w.setCell ⟨g, 8 + i, none⟩ (.int .i64 x)) g (S.set i x) := by
  refine ⟨?_, by rw [List.length_set]; exact h.len, h.rng.set _ hx⟩
  rw [← fcs_setWeight h.len hi]
  exact h.blk.set_ (8 + i) _
theorem CFil.range (h : CFil w g S) : w.rangeAt g 0 (ivs .i32 (S.drop 8)) := fun j v hv => by
  have hj : j < (S.drop 8).length := by
    have := (List.getElem?_eq_some_iff.1 hv).1
    simpa [ivs] using this
  have hj8 : j < 8 := by rw [List.length_drop, h.len] at hj; omega
  rw [ivs_get hj] at hv
  rw [Nat.zero_add, h.num hj8, ← hv]
  simp [List.getD]
end

set_option maxHeartbeats 800000 in
theorem cNaN_any (x : Int) (w : World) : Calls Try.prog 84 #[.int .i32 x] w fun e w' => e = .returned (.bool false) ∧ w' = w := by
  have hx : (x != x) = false := by simp
  go_enter Try.func84, Try.ntmps84
  go_wp2_with fail
  go_ret
  exact ⟨rfl, rfl⟩

set_option maxHeartbeats 800000 in
theorem cCompare_any (x : Int) (w : World) : Calls Try.prog 83 #[.int .i32 x, .int .i32 0] w fun e w' => e = .returned (.int .i64 (sgn x)) ∧ w' = w := by
  have HE : Hid (∀ s : Int, sgn x = s → Ending.returned (.int .i64 s) = .returned (.int .i64 (sgn x))) := Lib.hid fun s h => by rw [h]
  have HN := Lib.hid (cNaN_any x w)
  have HZ := Lib.hid (cNaN_any 0 w)
  have hs : (x < 0 ∧ sgn x = -1) ∨ (x = 0 ∧ sgn x = 0) ∨ (0 < x ∧ sgn x = 1) := by unfold sgn; split <;> (try split) <;> omega
  rcases hs with ⟨h, e⟩ | ⟨h, e⟩ | ⟨h, e⟩
  · have E := Lib.hid (HE.out _ e)
    clear HE e
    go_enter Try.func83, Try.ntmps83
    go_wp2_with fail
    refine HN.out.mono ?_
    rintro e w1 ⟨rfl, rfl⟩
    go_wp2_with fail
    refine HZ.out.mono ?_
    rintro e w2 ⟨rfl, rfl⟩
    go_wp2_with fail
    go_ret
    exact ⟨E.out, rfl⟩
  · subst h
    have E := Lib.hid (HE.out _ e)
    clear HE e
    go_enter Try.func83, Try.ntmps83
    go_wp2_with fail
    refine HN.out.mono ?_
    rintro e w1 ⟨rfl, rfl⟩
    go_wp2_with fail
    refine HZ.out.mono ?_
    rintro e w2 ⟨rfl, rfl⟩
    go_wp2_with fail
    go_ret
    exact ⟨E.out, rfl⟩
  · have E := Lib.hid (HE.out _ e)
    have h1 : ¬ x < 0 := by omega
    clear HE e
    go_enter Try.func83, Try.ntmps83
    go_wp2_with fail
    refine HN.out.mono ?_
    rintro e w1 ⟨rfl, rfl⟩
    go_wp2_with fail
    refine HZ.out.mono ?_
    rintro e w2 ⟨rfl, rfl⟩
    go_wp2_with fail
    go_ret
    exact ⟨E.out, rfl⟩

set_option maxHeartbeats 800000 in
theorem cSign_any (x : Int) (w : World) : Calls Try.prog 82 #[.int .i32 x] w fun e w' => e = .returned (.int .i64 (sgn x)) ∧ w' = w := by
  have HC := Lib.hid (cCompare_any x w)
  go_enter Try.func82, Try.ntmps82
  go_wp2_with fail
  refine HC.out.mono ?_
  rintro e w1 ⟨rfl, rfl⟩
  go_wp2_with fail
  go_ret
  exact ⟨rfl, rfl⟩

/-- The number of a place, out of the loaded array. -/
theorem run_index_num (V : World) {S : List Int} (hS : S.length = 16) {j : Nat} (h : j < 8) : (Instr.index 141 (.agg (ivs .i32 (S.drop 8)).toArray) (.int .i64 j)).run Try.prog V = .ok (.int .i32 (S.getD (8 + j) 0)) V := by
  have hg : (ivs .i32 (S.drop 8)).toArray[j]? = some (.int .i32 (S.getD (8 + j) 0)) := by
    rw [List.getElem?_toArray, ivs_get (by rw [List.length_drop, hS]; exact h)]
    simp [List.getD]
  generalize (ivs .i32 (S.drop 8)).toArray = X at *
  have h0 : (0 : Int) ≤ (j : Int) := by omega
  simp [Instr.index, run_underlying Try.underlying141, asIntOf, go_sem, hg, h, h0]

set_option maxHeartbeats 1600000 in
/-- guess: P12.1. -/
theorem clGuess_any (g : Nat) (S : List Int) (w : World) (h : CFil w g S) :
    Calls Try.prog 80 #[.pointer (some ⟨g, 0, none⟩)] w fun e w' => e = .returned (.int .i32 (gl S)) ∧ w' = w := by
  have hl8 : (ivs .i32 (S.drop 8)).length = 8 := by rw [ivs_length, List.length_drop, h.len]
  have HL : Hid ((Instr.loadAt 141 (.pointer (some ⟨g, 0, none⟩))).run Try.prog w = .ok (.agg (ivs .i32 (S.drop 8)).toArray) w) := Lib.hid (run_loadAt_mid w g 0 141 _ _ h.range Try.underlying141 rfl (by rw [hl8]; kernel_rfl))
  have HX : Hid (∀ (j : Nat) (_ : j < 8) (V : World), (Instr.index 141 (.agg (ivs .i32 (S.drop 8)).toArray) (.int .i64 j)).run Try.prog V = .ok (.int .i32 (S.getD (8 + j) 0)) V) := Lib.hid fun j hj V => run_index_num V h.len hj
  have H := Lib.hid h
  clear h hl8
  generalize (ivs .i32 (S.drop 8)).toArray = X at *
  go_enter Try.func80, Try.ntmps80
  go_wp2_with (refine wpList_load_eq rfl (.tmp 8) 141 rfl _ _ rfl HL.out ?_)
  go_loop [3, 10] (fun x i => ∃ j : Nat, j ≤ 8 ∧ i = .int .i64 j ∧ x = .int .i64 (wrap64 (dotS S j))) (fun _ i => (8 - intOf i).toNat)
  case atStart => exact ⟨0, by omega, rfl, by simp [dotS, wrap64]⟩
  case round =>
    obtain ⟨j, hj, rfl, rfl⟩ := hrel
    by_cases hlt : j < 8
    · have j0 : (j : Int) < 8 := by omega
      have j1 : (0 : Int) ≤ (j : Int) := by omega
      have hx := HX.out j hlt
      have c1 := H.out.weight hlt
      have hs : Hid (dotS S (j + 1) = dotS S j + S.getD j 0 * S.getD (8 + j) 0) := Lib.hid rfl
      have hm := mul_32 (H.out.rng.at_ (8 + j)) (H.out.rng.at_ j)
      have hc := Int.mul_comm (S.getD (8 + j) 0) (S.getD j 0)
      have Hc := Lib.hid hc
      clear hc
      have ha := H.out.rng.at_ j
      have hb := H.out.rng.at_ (8 + j)
      generalize S.getD j 0 = a at *
      generalize S.getD (8 + j) 0 = b at *
      generalize dotS S j = d at *
      go_wp2_with fail
      go_round
      case rel => exact ⟨j + 1, by omega, by go_num, by rw [hs.out, ← Hc.out, ← w64_step' d (b * a)]⟩
      case measure => simp [intOf]; omega
    · obtain rfl : j = 8 := by omega
      have hg : Hid (gl S = w32 (wrap64 (dotS S 8) / 256)) := Lib.hid rfl
      have hd : -9223372036854775808 ≤ wrap64 (dotS S 8) ∧ wrap64 (dotS S 8) ≤ 9223372036854775807 := by unfold wrap64; omega
      generalize wrap64 (dotS S 8) = d at *
      go_wp2_with fail
      go_ret
      exact ⟨ret_int (by rw [hg.out]; unfold w32 wrap32; rfl), rfl⟩

theorem fcs_first (U : List Int) {i : Nat} {v : Value} (h : ((fcs U).toList.take 7)[i]? = some v) : (fcs U)[i]? = some v := by
  rw [List.getElem?_take] at h
  split at h
  · simpa using h
  · cases h
theorem fcs_one (U : List Int) : ∀ v ∈ (fcs U).toList, v.oneCell' = true := fun v hv => by
  simp only [fcs, List.mem_map] at hv
  obtain ⟨i, _, rfl⟩ := hv
  split <;> rfl

theorem upS_step {S : List Int} (hb : WB S) (e x : Int) {j : Nat} (hj : j < 8) : w32 (S.getD j 0 + w32 (sgn e * sgn x)) = S.getD j 0 + sgn e * sgn x ∧ -2147483648 ≤ S.getD j 0 + sgn e * sgn x ∧ S.getD j 0 + sgn e * sgn x < 2147483648 := by
  have := hb j hj
  have := sgn_mul e x
  generalize sgn e * sgn x = p at *
  unfold w32
  omega

set_option maxHeartbeats 1600000 in
/-- learn: P12.1. -/
theorem clLearn_any (g : Nat) (S : List Int) (v e : Int) (w : World) (h : CFil w g S) (hb : WB S) (hv : -2147483648 ≤ v ∧ v < 2147483648) :
    Calls Try.prog 81 #[.pointer (some ⟨g, 0, none⟩), .int .i32 v, .int .i32 e] w fun r w' => r = .returned (.tuple #[]) ∧ CFil w' g ((shS (upS (sgn e) S 8) 7).set 8 v) ∧ Kept (fun k => k = g) w w' := by
  have hl8 : (ivs .i32 (S.drop 8)).length = 8 := by rw [ivs_length, List.length_drop, h.len]
  have HL : Hid ((Instr.loadAt 141 (.pointer (some ⟨g, 0, none⟩))).run Try.prog w = .ok (.agg (ivs .i32 (S.drop 8)).toArray) w) := Lib.hid (run_loadAt_mid w g 0 141 _ _ h.range Try.underlying141 rfl (by rw [hl8]; kernel_rfl))
  have HX : Hid (∀ (j : Nat) (_ : j < 8) (V : World), (Instr.index 141 (.agg (ivs .i32 (S.drop 8)).toArray) (.int .i64 j)).run Try.prog V = .ok (.int .i32 (S.getD (8 + j) 0)) V) := Lib.hid fun j hj V => run_index_num V h.len hj
  have HB := Lib.hid hb
  have H := Lib.hid h
  have HS := Lib.hid (cSign_any e w)
  have HP : Hid (∀ x, -1 ≤ sgn e * sgn x ∧ sgn e * sgn x ≤ 1) := Lib.hid fun x => sgn_mul e x
  have HU : Hid (∀ j, upS (sgn e) S (j + 1) = (upS (sgn e) S j).set j (w32 (S.getD j 0 + w32 (sgn e * sgn (S.getD (8 + j) 0))))) := Lib.hid fun _ => rfl
  have HW : Hid (∀ j, j < 8 → w32 (S.getD j 0 + w32 (sgn e * sgn (S.getD (8 + j) 0))) = S.getD j 0 + sgn e * sgn (S.getD (8 + j) 0) ∧ -2147483648 ≤ S.getD j 0 + sgn e * sgn (S.getD (8 + j) 0) ∧ S.getD j 0 + sgn e * sgn (S.getD (8 + j) 0) < 2147483648) := Lib.hid fun j hj => upS_step hb e _ hj
  have he := sgn_in e
  obtain ⟨R, hR⟩ : ∃ R, R = (shS (upS (sgn e) S 8) 7).set 8 v := ⟨_, rfl⟩
  rw [← hR]
  have HR := Lib.hid hR
  clear h hl8 hb hR
  generalize (ivs .i32 (S.drop 8)).toArray = X at *
  generalize sgn e = s at *
  go_enter Try.func81, Try.ntmps81
  go_wp2_with fail
  refine HS.out.mono ?_
  rintro e w1 ⟨rfl, hw1⟩
  subst hw1
  clear HS
  go_wp2_with (refine wpList_load_eq rfl (.tmp 13) 141 rfl _ _ rfl HL.out ?_)
  go_loopw [15] (fun i wr => ∃ j : Nat, j ≤ 8 ∧ i = .int .i64 j ∧ CFil wr g (upS s S j) ∧ Kept (fun k => k = g) w1 wr) (fun i _ => (8 - intOf i).toNat)
  case atStart => exact ⟨0, by omega, rfl, H.out, Kept.refl _ _⟩
  case round =>
    obtain ⟨j, hj, rfl, hf, hk⟩ := hrel
    clear H HL
    have HF := Lib.hid (And.intro hf hk)
    clear hf hk
    by_cases hlt : j < 8
    · have j0 : (j : Int) < 8 := by omega
      have j1 : (0 : Int) ≤ (j : Int) := by omega
      have hx := HX.out j hlt
      have c1 := HF.out.1.weight hlt
      have fz := HF.out.1.blk.frozen (8 + j)
      rw [upS_far s S j j (Nat.le_refl _)] at c1
      have hs := Lib.hid (HU.out j)
      have hw := Lib.hid (HW.out j hlt)
      have hp := HP.out (S.getD (8 + j) 0)
      have hr := HB.out j hlt
      clear HX HU HW HP HB
      generalize S.getD j 0 = a at *
      generalize S.getD (8 + j) 0 = b at *
      have HSg := Lib.hid (cSign_any b wr.drew)
      have hb := sgn_in b
      generalize sgn b = sb at *
      go_wp2_with fail
      go_still_tail 14, (by kernel_rfl)
      still_call HSg.out
      still_step
      still_step
      still_step
      still_step
      still_step
      refine wpStill_nil ?_
      change wpList _ _ _ _ _ wr.drew
      have hfd : Hid (CFil wr.drew g (upS s S j) ∧ Kept (fun k => k = g) w1 wr.drew) := Lib.hid ⟨HF.out.1.drew, HF.out.2.drew⟩
      clear c1 HSg HF
      have fz' : wr.drew.frozen? ⟨g, 8 + j, none⟩ = false := fz
      clear fz
      generalize wr.drew = wd at *
      have c1' := hfd.out.1.weight hlt
      go_wp2_with fail
      go_roundw
      case rel => exact ⟨j + 1, by omega, by go_num, by rw [hs.out, hw.out.1]; exact hfd.out.1.setWeight hlt hw.out.2, hfd.out.2.setCell (fun _ => rfl) _⟩
      case measure => simp [intOf]; omega
    · obtain rfl : j = 8 := by omega
      generalize upS s S 8 = U at *
      go_wp2_with fail
      go_still_tail 8, (by kernel_rfl)
      change wpList _ _ _ _ _ wr.drew
      have HD : Hid (CFil wr.drew g U ∧ Kept (fun k => k = g) w1 wr.drew) := Lib.hid ⟨HF.out.1.drew, HF.out.2.drew⟩
      clear HF
      generalize wr.drew = wd at *
      have hsz : (fcs U).toList.length = 16 := by rw [Array.length_toList, fcs_size]
      have h7 : ((fcs U).toList.take 7).length = 7 := by rw [List.length_take, hsz]; rfl
      refine wpList_copy_own rfl (.tmp 37) (.tmp 41) 51 51 rfl 21 Try.underlying51 (by kernel_rfl) g 1 7 7 ⟨g, 0, none⟩ 8 8 rfl rfl (fcs U) 146 HD.out.1.blk ((fcs U).toList.take 7) (by rw [h7]; rfl) ?_ (by rw [h7, fcs_size]; omega) (fun v hv => fcs_one U v (List.mem_of_mem_take hv)) ?_
      · intro i v hv
        have := HD.out.1.blk.cell i
        rw [fcs_first U hv] at this
        rw [Addr.add_mid, Nat.zero_add]
        exact this
      rw [h7, fcs_moved HD.out.1.len]
      have HE : Hid (CFil (wd.setRow g (fcs (shS U 7))) g (shS U 7) ∧ Kept (fun k => k = g) w1 (wd.setRow g (fcs (shS U 7)))) := Lib.hid ⟨⟨HD.out.1.blk.rowed, by rw [shS_length]; exact HD.out.1.len, shS_32 HD.out.1.rng 7⟩, HD.out.2.rowed _ (fun _ => rfl)⟩
      clear HD hsz h7
      generalize wd.setRow g (fcs (shS U 7)) = we at *
      have c0 := HE.out.1.num (i := 0) (by omega)
      have f0 := HE.out.1.blk.frozen 0
      go_wp2_with fail
      go_end0
      rw [HR.out]
      exact ⟨rfl, HE.out.1.setNum (i := 0) (by omega) hv, HE.out.2.setCell (fun _ => rfl) _⟩






set_option maxHeartbeats 1600000 in
/-- Residual: P12.2. -/
theorem clResidual_any (A : Option Addr) (n c : Nat) (l : List Int) (w : World) (hr : Row w .i32 A n l) (h32 : I32 l) (hn : n ≤ 1048576) :
    Calls Try.prog 79 #[.slice A n c] w fun e w' => ∃ u, e = .returned u ∧ NewRow w w' 21 .i32 u (lres l) := by
  obtain ⟨i4, hi4, h40, h41, h42⟩ := info_parts Try.infoI32L
  obtain rfl := hr.len
  have HR : Hid (∀ V, Fresh w V → Row V .i32 A l.length l) := Lib.hid fun V hV => hr.kept hV (fun _ _ _ _ => id)
  have H32 := Lib.hid h32
  have hm : l.length ≤ 1048576 := hn
  clear hr h32 hn
  have HA : Hid (CFil (w.alloc (.cells (fcs (List.replicate 16 0)) 146)) w.heap.size (stN l 0)) := Lib.hid ⟨Blk.new _ _ _, rfl, stN_32 (l := []) (fun _ h => by cases h) 0⟩
  rw [show fcs (List.replicate 16 0) = #[.int .i32 0, .int .i32 0, .int .i32 0, .int .i32 0, .int .i32 0, .int .i32 0, .int .i32 0, .int .i32 0, .int .i64 0, .int .i64 0, .int .i64 0, .int .i64 0, .int .i64 0, .int .i64 0, .int .i64 0, .int .i64 0] from rfl] at HA
  go_enter Try.func79, Try.ntmps79
  go_wp2_with (at_make; refine wpList_make_zeros _ rfl _ _ 51 rfl 21 i4 .i32 4 Try.underlying51 hi4 h40 h41 h42 _ _ _ _ l.length rfl rfl rfl rfl (by omega) (by unfold maxLen; omega) ?_)
  intro w1 ho1 hf1
  have H1 := Lib.hid (And.intro (HA.out.kept hf1 id) (And.intro ho1 (((Kept.refl (fun _ => False) w).alloc _).trans hf1 (fun _ _ h => h))))
  clear ho1 hf1 HA
  go_wp2_with fail
  generalize hg : w.heap.size = g at *
  have HG := Lib.hid hg
  clear hg
  go_loopw [12] (fun i wr => ∃ j : Nat, j ≤ l.length ∧ i = .int .i64 j ∧ CFil wr g (stN l j) ∧ Own wr 21 .i32 (.slice (some ⟨g + 1, 0, none⟩) l.length l.length) (lrN l j ++ List.replicate (l.length - j) 0) ∧ Fresh w wr) (fun i _ => (l.length - intOf i).toNat)
  case atStart => exact ⟨0, by omega, rfl, H1.out.1, H1.out.2.1, H1.out.2.2⟩
  case round =>
    obtain ⟨j, hj, rfl, hp, ho, hf⟩ := hrel
    clear H1
    have hol : (lrN l j ++ List.replicate (l.length - j) 0).length = l.length := by rw [List.length_append, lrN_length, List.length_replicate]; omega
    have hgl := ho.lt (g := g + 1) rfl
    have hws := HG.out
    have HX := Lib.hid (And.intro hp (And.intro ho hf))
    by_cases hlt : j < l.length
    · obtain ⟨b, o, rfl, hbw, _⟩ := (HR.out w (Kept.refl _ _)).at_ j hlt
      obtain ⟨b', o', e', hb, hc⟩ := (HR.out wr hf).at_ j hlt
      injection e' with e'
      injection e' with e1 e2
      subst e1 e2
      have j0 : (j : Int) < (l.length : Int) := by omega
      have hv := H32.out.at_ j
      have HC := Lib.hid (clGuess_any g (stN l j) wr hp)
      have HB := Lib.hid (stN_WB l (n := j) (by omega))
      have Hr : Hid (lrN l (j + 1) = lrN l j ++ [w32 (l.getD j 0 - gl (stN l j))]) := Lib.hid rfl
      have HSt : Hid (stN l (j + 1) = (shS (upS (sgn (w32 (l.getD j 0 - gl (stN l j)))) (stN l j) 8) 7).set 8 (l.getD j 0)) := Lib.hid rfl
      generalize gl (stN l j) = gu at *
      generalize l.getD j 0 = v at *
      clear hp ho hf
      go_wp2_with fail
      refine HC.out.mono ?_
      rintro e w2 ⟨rfl, rfl⟩
      clear HC
      have cg : w2.cell? ⟨g + 1, j, none⟩ = _ := HX.out.2.1.cellN hol hlt
      have fg := HX.out.2.1.frozenN hol j
      have ho3 := HX.out.2.1.storeN hol j (w32 (v - gu))
      have hp3 : CFil (w2.setCell ⟨g + 1, j, none⟩ (.int .i32 (w32 (v - gu)))) g (stN l j) := ⟨HX.out.1.blk.far (by simp) _, HX.out.1.len, HX.out.1.rng⟩
      have hf3 := HX.out.2.2.setCell (p := ⟨g + 1, j, none⟩) (fun h => absurd h (by simp only; omega)) (.int .i32 (w32 (v - gu)))
      have cx : (w2.setCell ⟨g + 1, j, none⟩ (.int .i32 (w32 (v - gu)))).cell? ⟨g + 1, j, none⟩ = some (.int .i32 (w32 (v - gu))) := by
        have := ho3.cellN (by rw [List.length_set]; exact hol) hlt
        rw [this]
        simp [List.getD, hol, hlt]
      rw [set_next _ _ _ _ (lrN_length _ _) hlt, ← Hr.out] at ho3
      have H3 := Lib.hid (And.intro hp3 (And.intro ho3 hf3))
      clear hp3 ho3 hf3
      go_wp2_with fail
      rw [w32_wr']
      generalize w2.setCell ⟨g + 1, j, none⟩ (.int .i32 (w32 (v - gu))) = w3 at *
      refine (clLearn_any g (stN l j) v _ w3 H3.out.1 HB.out hv).mono ?_
      rintro e w4 ⟨rfl, hp4, hk4⟩
      rw [← HSt.out] at hp4
      have ho4 := H3.out.2.1.kept hk4 (fun g' e e2 => by
        have e1 : g + 1 = g' := by simpa [Value.ownBlock] using e
        have e2' : g' = g := e2
        omega)
      have hf4 := H3.out.2.2.trans hk4 (fun i hi e => by have e' : i = g := e; omega)
      have H4 := Lib.hid (And.intro hp4 (And.intro ho4 hf4))
      clear hp4 ho4 hf4 hk4 H3
      go_wp2_with fail
      go_roundw
      case rel => exact ⟨j + 1, by omega, by go_num, H4.out.1, H4.out.2.1, H4.out.2.2⟩
      case measure => simp [intOf]; omega
    · obtain rfl : j = l.length := by omega
      rw [Nat.sub_self, List.replicate_zero, List.append_nil] at ho
      have HE : Hid (NewRow w wr 21 .i32 (.slice (some ⟨g + 1, 0, none⟩) l.length l.length) (lres l)) := Lib.hid ⟨ho, fun m e => by
        have e' : g + 1 = m := by simpa [Value.ownBlock] using e
        omega, hf⟩
      clear HX hp ho hf
      go_wp2_with fail
      go_ret
      exact ⟨_, rfl, HE.out⟩



end Go.Proofs.Ytodmchjdflpbpaa
