/- The code's middle, sides, pairs, Mid, Unmid. -/
import Derived.Test.YtcpmjaoglbgmbaaTraIn
import Derived.Deep.OwnRows
import Derived.Deep.RegionHeld3
import Derived.Deep.QuietTactic
import Derived.BigQuiet
import Derived.BigRegion
import Derived.Deep.DrawnRows
import Derived.Deep.CutRange
namespace Go.Proofs.Ytcpmjaoglbgmbaa
open Go.RowKit
set_option maxRecDepth 100000

attribute [local go_sem ↓] Go.wp_at_zero Go.wp_at_succ

/-- Two new lists are told, in two blocks. -/
def Two (w w' : World) (e : Ending) (xs ys : List Int) : Prop := ∃ u v, e = .returned (.tuple #[u, v, .int .i64 0]) ∧ NewRow w w' 21 .i32 u xs ∧ NewRow w w' 21 .i32 v ys ∧ ∀ g, u.ownBlock = some g → v.ownBlock ≠ some g
/-- .. or none. -/
def TwoNo (w w' : World) (e : Ending) : Prop := e = .returned (.tuple #[.slice none 0 0, .slice none 0 0, .int .i64 1]) ∧ Fresh w w'

theorem Own.of_blk {w : World} {e : TypeId} {k : IntKind} {g n : Nat} {xs : List Int} (h : Blk w g e (ivs k xs).toArray) (hn : xs.length = n) (hm : n ≤ maxLen) : Own w e k (.slice (some ⟨g, 0, none⟩) n n) xs :=
  ⟨by rw [ivs_length, Nat.mul_one], .inr ⟨g, n, (ivs k xs).toArray, by rw [hn], Nat.zero_le _, h, by omega, hm, by simp [ivs_length, hn], by rw [Nat.mul_one, List.take_of_length_le (by simp [ivs_length, hn])]⟩⟩
theorem zeros_cells (k : IntKind) (n : Nat) : madeCells #[Value.int k 0] n = (ivs k (List.replicate n 0)).toArray := by
  apply Array.ext'
  rw [made_zeros]

theorem ret_two {a b c d : Int} (h1 : a = c) (h2 : b = d) : Ending.returned (.tuple #[.int .i32 a, .int .i32 b]) = .returned (.tuple #[.int .i32 c, .int .i32 d]) := by rw [h1, h2]
theorem w32_wrapC (x : Int) : wrap32 x = w32 x := by unfold w32 wrap32; rfl

set_option maxHeartbeats 800000 in
theorem cMiddle_any (l r : Int) (w : World) :
    Calls Try.prog 28 #[.int .i32 l, .int .i32 r] w fun e w' => e = .returned (.tuple #[.int .i32 (mdP l r), .int .i32 (sdP l r)]) ∧ w' = w := by
  go_enter Try.func28, Try.ntmps28
  go_wp2_with fail
  go_ret2
  exact ⟨ret_two (by unfold mdP sdP; rw [← w32_wrapC, ← w32_wrapC]) (by unfold sdP; rw [← w32_wrapC]), rfl⟩

set_option maxHeartbeats 800000 in
theorem cSides_any (l r : Int) (w : World) :
    Calls Try.prog 29 #[.int .i32 l, .int .i32 r] w fun e w' => e = .returned (.tuple #[.int .i32 (ltP l r), .int .i32 (rtP l r)]) ∧ w' = w := by
  go_enter Try.func29, Try.ntmps29
  go_wp2_with fail
  go_ret2
  exact ⟨ret_two (by unfold ltP rtP; rw [← w32_wrapC, ← w32_wrapC]) (by unfold rtP; rw [← w32_wrapC]), rfl⟩

set_option maxHeartbeats 3200000 in
theorem cPairsMid_any (A B : Option Addr) (n c d : Nat) (l r : List Int) (w : World) (ha : Row w .i32 A n l) (hb : Row w .i32 B n r) (h1 : I32 l) (h2 : I32 r) (hn : n ≤ 1048576) :
    Calls Try.prog 27 #[.slice A n c, .slice B n d, .func (.func 28) #[] #[]] w fun e w' => Two w w' e (tn n fun i => mdP (l.getD i 0) (r.getD i 0)) (tn n fun i => sdP (l.getD i 0) (r.getD i 0)) := by
  have hmk := run_make_row' (P := Try.prog) 32 21 (.int .i32 0) 4 Try.underlying32 Try.infoTr4 rfl .i64 .i64 n (by omega) (by omega)
  have hself : ((n : Int) != (n : Int)) = false := by simp
  have HR : Hid (∀ V, Fresh w V → Row V .i32 A n l ∧ Row V .i32 B n r) := Lib.hid fun V hV => ⟨ha.kept hV (fun _ _ _ _ => id), hb.kept hV (fun _ _ _ _ => id)⟩
  have H32 := Lib.hid (And.intro h1 h2)
  have hm : (n : Int) ≤ 1048576 := by omega
  clear ha hb h1 h2
  go_enter Try.func27, Try.ntmps27
  go_wp2_with fail
  go_cut [9, 10] from 12 (fun a b wx => ∃ p q, a = .slice (some ⟨p, 0, none⟩) n n ∧ b = .slice (some ⟨q, 0, none⟩) n n ∧ p ≠ q ∧ w.heap.size ≤ p ∧ w.heap.size ≤ q ∧ Own wx 21 .i32 (.slice (some ⟨p, 0, none⟩) n n) (List.replicate n 0) ∧ Own wx 21 .i32 (.slice (some ⟨q, 0, none⟩) n n) (List.replicate n 0) ∧ Fresh w wx)
  case first =>
    have hb1 : Blk ((w.alloc (.cells (madeCells #[.int .i32 0] n) 21)).alloc (.cells (madeCells #[.int .i32 0] n) 21)) w.heap.size 21 (ivs .i32 (List.replicate n 0)).toArray := by
      rw [zeros_cells]
      exact (Blk.new _ _ _).alloc _
    have hb2 : Blk ((w.alloc (.cells (madeCells #[.int .i32 0] n) 21)).alloc (.cells (madeCells #[.int .i32 0] n) 21)) (w.heap.size + 1) 21 (ivs .i32 (List.replicate n 0)).toArray := by
      rw [zeros_cells]
      have := Blk.new (w.alloc (.cells (ivs .i32 (List.replicate n 0)).toArray 21)) 21 (ivs .i32 (List.replicate n 0)).toArray
      rw [World.size_alloc] at this
      exact this
    have hf : Fresh w ((w.alloc (.cells (madeCells #[.int .i32 0] n) 21)).alloc (.cells (madeCells #[.int .i32 0] n) 21)) := ((Kept.refl _ _).alloc _).alloc _
    have HB := Lib.hid (And.intro (Own.of_blk hb1 (List.length_replicate ..) (by unfold maxLen; omega)) (And.intro (Own.of_blk hb2 (List.length_replicate ..) (by unfold maxLen; omega)) hf))
    clear hb1 hb2 hf
    go_region
    · go_wp2_with fail
      go_meet
      exact ⟨_, _, rfl, rfl, by omega, by omega, by omega, HB.out.1, HB.out.2.1, HB.out.2.2.drew⟩
    · go_wp2_with fail
      go_meet
      exact ⟨_, _, rfl, rfl, by omega, by omega, by omega, HB.out.2.1, HB.out.1, HB.out.2.2.drew⟩
  case rest =>
    obtain ⟨p, q, rfl, rfl, hpq, hp, hq, ho, hs, hf⟩ := hcut
    have H0 := Lib.hid (And.intro ho (And.intro hs hf))
    clear ho hs hf hmk
    go_wp2_with fail
    go_loopw [25] (fun i wr => ∃ j : Nat, j ≤ n ∧ i = .int .i64 j ∧ Own wr 21 .i32 (.slice (some ⟨p, 0, none⟩) n n) (tn j (fun i => mdP (l.getD i 0) (r.getD i 0)) ++ List.replicate (n - j) 0) ∧ Own wr 21 .i32 (.slice (some ⟨q, 0, none⟩) n n) (tn j (fun i => sdP (l.getD i 0) (r.getD i 0)) ++ List.replicate (n - j) 0) ∧ Fresh w wr) (fun i _ => (n - intOf i).toNat)
    case atStart => exact ⟨0, by omega, rfl, H0.out.1, H0.out.2.1, H0.out.2.2⟩
    case round =>
      obtain ⟨j, hj, rfl, ho, hs, hf⟩ := hrel
      clear H0
      by_cases hlt : j < n
      · obtain ⟨b1, o1, rfl, hw1, _⟩ := (HR.out w (Kept.refl _ _)).1.at_ j hlt
        obtain ⟨b2, o2, rfl, hw2, _⟩ := (HR.out w (Kept.refl _ _)).2.at_ j hlt
        obtain ⟨b1', o1', e', hb1, hc1⟩ := (HR.out wr hf).1.at_ j hlt
        injection e' with e'
        injection e' with e1 e2
        subst e1 e2
        obtain ⟨b2', o2', e', hb2, hc2⟩ := (HR.out wr hf).2.at_ j hlt
        injection e' with e'
        injection e' with e1 e2
        subst e1 e2
        have lp : (tn j (fun i => mdP (l.getD i 0) (r.getD i 0)) ++ List.replicate (n - j) 0).length = n := by rw [List.length_append, tn_length, List.length_replicate]; omega
        have lq : (tn j (fun i => sdP (l.getD i 0) (r.getD i 0)) ++ List.replicate (n - j) 0).length = n := by rw [List.length_append, tn_length, List.length_replicate]; omega
        have cp := ho.cellN lp hlt
        have fp := ho.frozenN lp j
        have cq := hs.cellN lq hlt
        have fq := hs.frozenN lq j
        have sp := (ho.storeN lp j (mdP (l.getD j 0) (r.getD j 0))).setFar (p := ⟨q, j, none⟩) (fun e => hpq (by simpa [Value.ownBlock] using e)) (.int .i32 (sdP (l.getD j 0) (r.getD j 0)))
        have sq := (hs.setFar (p := ⟨p, j, none⟩) (fun e => hpq (by simpa [Value.ownBlock] using e.symm)) (.int .i32 (mdP (l.getD j 0) (r.getD j 0)))).storeN lq j (sdP (l.getD j 0) (r.getD j 0))
        have sf : Fresh w ((wr.setCell ⟨p, j, none⟩ (.int .i32 (mdP (l.getD j 0) (r.getD j 0)))).setCell ⟨q, j, none⟩ (.int .i32 (sdP (l.getD j 0) (r.getD j 0)))) := (hf.setCell (p := ⟨p, j, none⟩) (fun h => absurd h (by simp only; omega)) _).setCell (p := ⟨q, j, none⟩) (fun h => absurd h (by simp only; omega)) _
        rw [set_next _ _ _ _ (tn_length _ _) hlt, ← tn_succ j (fun i => mdP (l.getD i 0) (r.getD i 0))] at sp
        rw [set_next _ _ _ _ (tn_length _ _) hlt, ← tn_succ j (fun i => sdP (l.getD i 0) (r.getD i 0))] at sq
        have HC : Hid (∀ V, Calls Try.prog 28 #[.int .i32 (l.getD j 0), .int .i32 (r.getD j 0)] V fun e w' => e = .returned (.tuple #[.int .i32 (mdP (l.getD j 0) (r.getD j 0)), .int .i32 (sdP (l.getD j 0) (r.getD j 0))]) ∧ w' = V) := Lib.hid fun V => cMiddle_any _ _ V
        have HS := Lib.hid (And.intro sp (And.intro sq sf.drew))
        have j0 : (j : Int) < (n : Int) := by omega
        have far : ∀ (V : World) (g b o : Nat) (u : Value), g ≠ b → (V.setCell ⟨g, j, none⟩ u).cell? ⟨b, o, none⟩ = V.cell? ⟨b, o, none⟩ := fun V g b o u h => World.cell?_of_block (Below.heap_setCell V ⟨g, j, none⟩ u b h.symm)
        have HF := Lib.hid far
        clear ho hs sp sq lp lq hf far sf
        generalize mdP (l.getD j 0) (r.getD j 0) = u1 at *
        generalize sdP (l.getD j 0) (r.getD j 0) = u2 at *
        generalize l.getD j 0 = x1 at *
        generalize r.getD j 0 = x2 at *
        have d1 : (wr.setCell ⟨p, j, none⟩ (.int .i32 u1)).cell? ⟨b1, o1 + j, none⟩ = some (.int .i32 x1) := (HF.out _ _ _ _ _ (by omega)).trans hc1
        have d2 : (wr.setCell ⟨p, j, none⟩ (.int .i32 u1)).cell? ⟨b2, o2 + j, none⟩ = some (.int .i32 x2) := (HF.out _ _ _ _ _ (by omega)).trans hc2
        have e1 : (wr.setCell ⟨q, j, none⟩ (.int .i32 u2)).cell? ⟨b1, o1 + j, none⟩ = some (.int .i32 x1) := (HF.out _ _ _ _ _ (by omega)).trans hc1
        have e2 : (wr.setCell ⟨q, j, none⟩ (.int .i32 u2)).cell? ⟨b2, o2 + j, none⟩ = some (.int .i32 x2) := (HF.out _ _ _ _ _ (by omega)).trans hc2
        have g1 : ((wr.setCell ⟨p, j, none⟩ (.int .i32 u1)).setCell ⟨q, j, none⟩ (.int .i32 u2)).cell? ⟨b1, o1 + j, none⟩ = some (.int .i32 x1) := (HF.out _ _ _ _ _ (by omega)).trans d1
        have g2 : ((wr.setCell ⟨p, j, none⟩ (.int .i32 u1)).setCell ⟨q, j, none⟩ (.int .i32 u2)).cell? ⟨b2, o2 + j, none⟩ = some (.int .i32 x2) := (HF.out _ _ _ _ _ (by omega)).trans d2
        go_wp2_with fail
        go_region_held3 (fun V => V.cell? ⟨b1, o1 + j, none⟩ = some (.int .i32 x1) ∧ V.cell? ⟨b2, o2 + j, none⟩ = some (.int .i32 x2)) (first | go_keep | exact ⟨d1, d2⟩ | exact ⟨g1, g2⟩ | exact ⟨e1, e2⟩)
          (first
            | (go_at_call 28; refine (HC.out _).mono ?_; rintro e2 w2 ⟨rfl, rfl⟩))
        clear d1 d2 e1 e2 g1 g2 cp fp cq fq hc1 hc2
        go_wp2_with fail
        go_roundw
        case rel => exact ⟨j + 1, by omega, by go_num, HS.out.1, HS.out.2.1, HS.out.2.2⟩
        case measure => simp [intOf]; omega
      · obtain rfl : j = n := by omega
        rw [Nat.sub_self, List.replicate_zero, List.append_nil] at ho hs
        have HE := Lib.hid (And.intro ho (And.intro hs hf))
        clear ho hs hf
        go_wp2_with fail
        go_ret3
        exact ⟨_, _, rfl, ⟨HE.out.1, fun m e => by
          have e' : p = m := by simpa [Value.ownBlock] using e
          omega, HE.out.2.2⟩, ⟨HE.out.2.1, fun m e => by
          have e' : q = m := by simpa [Value.ownBlock] using e
          omega, HE.out.2.2⟩, fun m e e2 => hpq (by
          have e' : p = m := by simpa [Value.ownBlock] using e
          have e3 : q = m := by simpa [Value.ownBlock] using e2
          omega)⟩

set_option maxHeartbeats 3200000 in
theorem cPairsUnmid_any (A B : Option Addr) (n c d : Nat) (l r : List Int) (w : World) (ha : Row w .i32 A n l) (hb : Row w .i32 B n r) (h1 : I32 l) (h2 : I32 r) (hn : n ≤ 1048576) :
    Calls Try.prog 27 #[.slice A n c, .slice B n d, .func (.func 29) #[] #[]] w fun e w' => Two w w' e (tn n fun i => ltP (l.getD i 0) (r.getD i 0)) (tn n fun i => rtP (l.getD i 0) (r.getD i 0)) := by
  have hmk := run_make_row' (P := Try.prog) 32 21 (.int .i32 0) 4 Try.underlying32 Try.infoTr4 rfl .i64 .i64 n (by omega) (by omega)
  have hself : ((n : Int) != (n : Int)) = false := by simp
  have HR : Hid (∀ V, Fresh w V → Row V .i32 A n l ∧ Row V .i32 B n r) := Lib.hid fun V hV => ⟨ha.kept hV (fun _ _ _ _ => id), hb.kept hV (fun _ _ _ _ => id)⟩
  have H32 := Lib.hid (And.intro h1 h2)
  have hm : (n : Int) ≤ 1048576 := by omega
  clear ha hb h1 h2
  go_enter Try.func27, Try.ntmps27
  go_wp2_with fail
  go_cut [9, 10] from 12 (fun a b wx => ∃ p q, a = .slice (some ⟨p, 0, none⟩) n n ∧ b = .slice (some ⟨q, 0, none⟩) n n ∧ p ≠ q ∧ w.heap.size ≤ p ∧ w.heap.size ≤ q ∧ Own wx 21 .i32 (.slice (some ⟨p, 0, none⟩) n n) (List.replicate n 0) ∧ Own wx 21 .i32 (.slice (some ⟨q, 0, none⟩) n n) (List.replicate n 0) ∧ Fresh w wx)
  case first =>
    have hb1 : Blk ((w.alloc (.cells (madeCells #[.int .i32 0] n) 21)).alloc (.cells (madeCells #[.int .i32 0] n) 21)) w.heap.size 21 (ivs .i32 (List.replicate n 0)).toArray := by
      rw [zeros_cells]
      exact (Blk.new _ _ _).alloc _
    have hb2 : Blk ((w.alloc (.cells (madeCells #[.int .i32 0] n) 21)).alloc (.cells (madeCells #[.int .i32 0] n) 21)) (w.heap.size + 1) 21 (ivs .i32 (List.replicate n 0)).toArray := by
      rw [zeros_cells]
      have := Blk.new (w.alloc (.cells (ivs .i32 (List.replicate n 0)).toArray 21)) 21 (ivs .i32 (List.replicate n 0)).toArray
      rw [World.size_alloc] at this
      exact this
    have hf : Fresh w ((w.alloc (.cells (madeCells #[.int .i32 0] n) 21)).alloc (.cells (madeCells #[.int .i32 0] n) 21)) := ((Kept.refl _ _).alloc _).alloc _
    have HB := Lib.hid (And.intro (Own.of_blk hb1 (List.length_replicate ..) (by unfold maxLen; omega)) (And.intro (Own.of_blk hb2 (List.length_replicate ..) (by unfold maxLen; omega)) hf))
    clear hb1 hb2 hf
    go_region
    · go_wp2_with fail
      go_meet
      exact ⟨_, _, rfl, rfl, by omega, by omega, by omega, HB.out.1, HB.out.2.1, HB.out.2.2.drew⟩
    · go_wp2_with fail
      go_meet
      exact ⟨_, _, rfl, rfl, by omega, by omega, by omega, HB.out.2.1, HB.out.1, HB.out.2.2.drew⟩
  case rest =>
    obtain ⟨p, q, rfl, rfl, hpq, hp, hq, ho, hs, hf⟩ := hcut
    have H0 := Lib.hid (And.intro ho (And.intro hs hf))
    clear ho hs hf hmk
    go_wp2_with fail
    go_loopw [25] (fun i wr => ∃ j : Nat, j ≤ n ∧ i = .int .i64 j ∧ Own wr 21 .i32 (.slice (some ⟨p, 0, none⟩) n n) (tn j (fun i => ltP (l.getD i 0) (r.getD i 0)) ++ List.replicate (n - j) 0) ∧ Own wr 21 .i32 (.slice (some ⟨q, 0, none⟩) n n) (tn j (fun i => rtP (l.getD i 0) (r.getD i 0)) ++ List.replicate (n - j) 0) ∧ Fresh w wr) (fun i _ => (n - intOf i).toNat)
    case atStart => exact ⟨0, by omega, rfl, H0.out.1, H0.out.2.1, H0.out.2.2⟩
    case round =>
      obtain ⟨j, hj, rfl, ho, hs, hf⟩ := hrel
      clear H0
      by_cases hlt : j < n
      · obtain ⟨b1, o1, rfl, hw1, _⟩ := (HR.out w (Kept.refl _ _)).1.at_ j hlt
        obtain ⟨b2, o2, rfl, hw2, _⟩ := (HR.out w (Kept.refl _ _)).2.at_ j hlt
        obtain ⟨b1', o1', e', hb1, hc1⟩ := (HR.out wr hf).1.at_ j hlt
        injection e' with e'
        injection e' with e1 e2
        subst e1 e2
        obtain ⟨b2', o2', e', hb2, hc2⟩ := (HR.out wr hf).2.at_ j hlt
        injection e' with e'
        injection e' with e1 e2
        subst e1 e2
        have lp : (tn j (fun i => ltP (l.getD i 0) (r.getD i 0)) ++ List.replicate (n - j) 0).length = n := by rw [List.length_append, tn_length, List.length_replicate]; omega
        have lq : (tn j (fun i => rtP (l.getD i 0) (r.getD i 0)) ++ List.replicate (n - j) 0).length = n := by rw [List.length_append, tn_length, List.length_replicate]; omega
        have cp := ho.cellN lp hlt
        have fp := ho.frozenN lp j
        have cq := hs.cellN lq hlt
        have fq := hs.frozenN lq j
        have sp := (ho.storeN lp j (ltP (l.getD j 0) (r.getD j 0))).setFar (p := ⟨q, j, none⟩) (fun e => hpq (by simpa [Value.ownBlock] using e)) (.int .i32 (rtP (l.getD j 0) (r.getD j 0)))
        have sq := (hs.setFar (p := ⟨p, j, none⟩) (fun e => hpq (by simpa [Value.ownBlock] using e.symm)) (.int .i32 (ltP (l.getD j 0) (r.getD j 0)))).storeN lq j (rtP (l.getD j 0) (r.getD j 0))
        have sf : Fresh w ((wr.setCell ⟨p, j, none⟩ (.int .i32 (ltP (l.getD j 0) (r.getD j 0)))).setCell ⟨q, j, none⟩ (.int .i32 (rtP (l.getD j 0) (r.getD j 0)))) := (hf.setCell (p := ⟨p, j, none⟩) (fun h => absurd h (by simp only; omega)) _).setCell (p := ⟨q, j, none⟩) (fun h => absurd h (by simp only; omega)) _
        rw [set_next _ _ _ _ (tn_length _ _) hlt, ← tn_succ j (fun i => ltP (l.getD i 0) (r.getD i 0))] at sp
        rw [set_next _ _ _ _ (tn_length _ _) hlt, ← tn_succ j (fun i => rtP (l.getD i 0) (r.getD i 0))] at sq
        have HC : Hid (∀ V, Calls Try.prog 29 #[.int .i32 (l.getD j 0), .int .i32 (r.getD j 0)] V fun e w' => e = .returned (.tuple #[.int .i32 (ltP (l.getD j 0) (r.getD j 0)), .int .i32 (rtP (l.getD j 0) (r.getD j 0))]) ∧ w' = V) := Lib.hid fun V => cSides_any _ _ V
        have HS := Lib.hid (And.intro sp (And.intro sq sf.drew))
        have j0 : (j : Int) < (n : Int) := by omega
        have far : ∀ (V : World) (g b o : Nat) (u : Value), g ≠ b → (V.setCell ⟨g, j, none⟩ u).cell? ⟨b, o, none⟩ = V.cell? ⟨b, o, none⟩ := fun V g b o u h => World.cell?_of_block (Below.heap_setCell V ⟨g, j, none⟩ u b h.symm)
        have HF := Lib.hid far
        clear ho hs sp sq lp lq hf far sf
        generalize ltP (l.getD j 0) (r.getD j 0) = u1 at *
        generalize rtP (l.getD j 0) (r.getD j 0) = u2 at *
        generalize l.getD j 0 = x1 at *
        generalize r.getD j 0 = x2 at *
        have d1 : (wr.setCell ⟨p, j, none⟩ (.int .i32 u1)).cell? ⟨b1, o1 + j, none⟩ = some (.int .i32 x1) := (HF.out _ _ _ _ _ (by omega)).trans hc1
        have d2 : (wr.setCell ⟨p, j, none⟩ (.int .i32 u1)).cell? ⟨b2, o2 + j, none⟩ = some (.int .i32 x2) := (HF.out _ _ _ _ _ (by omega)).trans hc2
        have e1 : (wr.setCell ⟨q, j, none⟩ (.int .i32 u2)).cell? ⟨b1, o1 + j, none⟩ = some (.int .i32 x1) := (HF.out _ _ _ _ _ (by omega)).trans hc1
        have e2 : (wr.setCell ⟨q, j, none⟩ (.int .i32 u2)).cell? ⟨b2, o2 + j, none⟩ = some (.int .i32 x2) := (HF.out _ _ _ _ _ (by omega)).trans hc2
        have g1 : ((wr.setCell ⟨p, j, none⟩ (.int .i32 u1)).setCell ⟨q, j, none⟩ (.int .i32 u2)).cell? ⟨b1, o1 + j, none⟩ = some (.int .i32 x1) := (HF.out _ _ _ _ _ (by omega)).trans d1
        have g2 : ((wr.setCell ⟨p, j, none⟩ (.int .i32 u1)).setCell ⟨q, j, none⟩ (.int .i32 u2)).cell? ⟨b2, o2 + j, none⟩ = some (.int .i32 x2) := (HF.out _ _ _ _ _ (by omega)).trans d2
        go_wp2_with fail
        go_region_held3 (fun V => V.cell? ⟨b1, o1 + j, none⟩ = some (.int .i32 x1) ∧ V.cell? ⟨b2, o2 + j, none⟩ = some (.int .i32 x2)) (first | go_keep | exact ⟨d1, d2⟩ | exact ⟨g1, g2⟩ | exact ⟨e1, e2⟩)
          (first
            | (go_at_call 29; refine (HC.out _).mono ?_; rintro e2 w2 ⟨rfl, rfl⟩))
        clear d1 d2 e1 e2 g1 g2 cp fp cq fq hc1 hc2
        go_wp2_with fail
        go_roundw
        case rel => exact ⟨j + 1, by omega, by go_num, HS.out.1, HS.out.2.1, HS.out.2.2⟩
        case measure => simp [intOf]; omega
      · obtain rfl : j = n := by omega
        rw [Nat.sub_self, List.replicate_zero, List.append_nil] at ho hs
        have HE := Lib.hid (And.intro ho (And.intro hs hf))
        clear ho hs hf
        go_wp2_with fail
        go_ret3
        exact ⟨_, _, rfl, ⟨HE.out.1, fun m e => by
          have e' : p = m := by simpa [Value.ownBlock] using e
          omega, HE.out.2.2⟩, ⟨HE.out.2.1, fun m e => by
          have e' : q = m := by simpa [Value.ownBlock] using e
          omega, HE.out.2.2⟩, fun m e e2 => hpq (by
          have e' : p = m := by simpa [Value.ownBlock] using e
          have e3 : q = m := by simpa [Value.ownBlock] using e2
          omega)⟩

set_option maxHeartbeats 800000 in
theorem cPairsNo_any (f : Nat) (A B : Option Addr) (n m c d : Nat) (w : World) (hn : n ≠ m) :
    Calls Try.prog 27 #[.slice A n c, .slice B m d, .func (.func f) #[] #[]] w fun e w' => TwoNo w w' e := by
  have hb : ((n : Int) != (m : Int)) = true := by simp; omega
  go_enter Try.func27, Try.ntmps27
  go_wp2_with fail
  go_ret3
  exact ⟨rfl, Kept.refl _ _⟩

set_option maxHeartbeats 800000 in
theorem cMid_any (A B : Option Addr) (n c d : Nat) (l r : List Int) (w : World) (ha : Row w .i32 A n l) (hb : Row w .i32 B n r) (h1 : I32 l) (h2 : I32 r) (hn : n ≤ 1048576) :
    Calls Try.prog 16 #[.slice A n c, .slice B n d] w fun e w' => Two w w' e (tn n fun i => mdP (l.getD i 0) (r.getD i 0)) (tn n fun i => sdP (l.getD i 0) (r.getD i 0)) := by
  have HC := Lib.hid (cPairsMid_any A B n c d l r w ha hb h1 h2 hn)
  clear ha hb h1 h2
  go_enter Try.func16, Try.ntmps16
  go_wp2_with fail
  refine HC.out.mono ?_
  rintro e w' ⟨u, v, rfl, h⟩
  have H := Lib.hid h
  clear h HC
  go_wp2_with fail
  go_ret3
  exact ⟨u, v, rfl, H.out⟩

set_option maxHeartbeats 800000 in
theorem cMidNo_any (A B : Option Addr) (n m c d : Nat) (w : World) (hn : n ≠ m) :
    Calls Try.prog 16 #[.slice A n c, .slice B m d] w fun e w' => TwoNo w w' e := by
  have HC := Lib.hid (cPairsNo_any 28 A B n m c d w hn)
  go_enter Try.func16, Try.ntmps16
  go_wp2_with fail
  refine HC.out.mono ?_
  rintro e w' ⟨rfl, h⟩
  have H := Lib.hid h
  clear h HC
  go_wp2_with fail
  go_ret3
  exact ⟨rfl, H.out⟩

set_option maxHeartbeats 800000 in
theorem cUnmid_any (A B : Option Addr) (n c d : Nat) (l r : List Int) (w : World) (ha : Row w .i32 A n l) (hb : Row w .i32 B n r) (h1 : I32 l) (h2 : I32 r) (hn : n ≤ 1048576) :
    Calls Try.prog 18 #[.slice A n c, .slice B n d] w fun e w' => Two w w' e (tn n fun i => ltP (l.getD i 0) (r.getD i 0)) (tn n fun i => rtP (l.getD i 0) (r.getD i 0)) := by
  have HC := Lib.hid (cPairsUnmid_any A B n c d l r w ha hb h1 h2 hn)
  clear ha hb h1 h2
  go_enter Try.func18, Try.ntmps18
  go_wp2_with fail
  refine HC.out.mono ?_
  rintro e w' ⟨u, v, rfl, h⟩
  have H := Lib.hid h
  clear h HC
  go_wp2_with fail
  go_ret3
  exact ⟨u, v, rfl, H.out⟩

set_option maxHeartbeats 800000 in
theorem cUnmidNo_any (A B : Option Addr) (n m c d : Nat) (w : World) (hn : n ≠ m) :
    Calls Try.prog 18 #[.slice A n c, .slice B m d] w fun e w' => TwoNo w w' e := by
  have HC := Lib.hid (cPairsNo_any 29 A B n m c d w hn)
  go_enter Try.func18, Try.ntmps18
  go_wp2_with fail
  refine HC.out.mono ?_
  rintro e w' ⟨rfl, h⟩
  have H := Lib.hid h
  clear h HC
  go_wp2_with fail
  go_ret3
  exact ⟨rfl, H.out⟩

end Go.Proofs.Ytcpmjaoglbgmbaa
