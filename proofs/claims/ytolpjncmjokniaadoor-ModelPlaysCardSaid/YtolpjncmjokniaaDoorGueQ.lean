/- The contracts of the document's own table: Round, New, At, Learn. -/
import Derived.Test.YtolpjncmjokniaaDoorRound
import Derived.Test.YtolpjncmjokniaaDoorGueT
import Derived.BigQuiet
import Derived.Deep.QuietTactic
import Derived.BigRegion
import Derived.Deep.RegionHeld3
import Derived.Deep.DrawnRows
import Derived.Deep.RegionLaw
import Derived.StillTailTactics
namespace Go.Proofs.YtolpjncmjokniaaDoor
set_option maxRecDepth 100000
open Go.RowKit

attribute [local go_sem ↓] Go.wp_at_zero Go.wp_at_succ

/-- The document's table. -/
abbrev TabR (w : World) (g : Nat) (v : Value) (ps : List Nat) : Prop := Tab w g 73 v ps

set_option maxHeartbeats 800000 in
/-- At: P5.2. -/
theorem qgAt_any (g : Nat) (v : Value) (ps : List Nat) (i : Int) (w : World) (h : TabR w g v ps) :
    Calls Tryd.prog 20 #[.pointer (some ⟨g, 0, none⟩), .int .i64 i] w fun e w' => e = .returned (.int .i64 (ch (ps.getD (pl i ps.length) 0) : Nat)) ∧ ∃ n, w' = w.drewN n := by
  obtain ⟨q, cap, rfl, _⟩ := h.form
  have c0 : w.cell? ⟨g, 0, none⟩ = some (.slice (some ⟨q, 0, none⟩) ps.length cap) := by simpa using h.blk.cell 0
  have c1 := h.cell (pl_lt i h.pos)
  have hlt := h.getD_lt (pl i ps.length)
  have hp := pl_lt i h.pos
  have H := Lib.hid h
  have HR := Lib.hid (qRound_any ps.length i · h.pos h.le)
  clear h
  generalize ps.getD (pl i ps.length) 0 = x at *
  generalize pl i ps.length = k at *
  generalize hm : ps.length = m at *
  have h1 : (k : Int) < (m : Int) := by omega
  have h2 : (0 : Int) ≤ (k : Int) := by omega
  go_enter Tryd.func20, Tryd.ntmps20
  go_wp2_with fail
  go_quiet (first
    | (go_at_call 41; exact Calls.quiet_of_same (HR.out _))
    | (go_at_call 40; exact Calls.quiet_of_same (qChance_any _ _ hlt)))
  go_wp2_with fail
  go_ret
  exact ⟨rfl, _, rfl⟩

set_option maxHeartbeats 800000 in
/-- Learn: P5.2. -/
theorem qgLearn_any (g : Nat) (v : Value) (ps : List Nat) (i b r : Int) (w : World) (h : TabR w g v ps) :
    Calls Tryd.prog 28 #[.pointer (some ⟨g, 0, none⟩), .int .i64 i, .int .i64 b, .int .i64 r] w fun e w' => e = .returned (.tuple #[]) ∧
      TabR w' g v (ps.set (pl i ps.length) (nx (ps.getD (pl i ps.length) 0) (b != 0) (rt r))) ∧ Kept (fun k => v.ownBlock = some k) w w' := by
  obtain ⟨q, cap, rfl, _⟩ := h.form
  have c0 : w.cell? ⟨g, 0, none⟩ = some (.slice (some ⟨q, 0, none⟩) ps.length cap) := by simpa using h.blk.cell 0
  have c1 := h.cell (pl_lt i h.pos)
  have f1 := h.frozen (pl i ps.length)
  have hlt := h.getD_lt (pl i ps.length)
  have hp := pl_lt i h.pos
  have H := Lib.hid h
  have HR := Lib.hid (qRound_any ps.length i · h.pos h.le)
  clear h
  generalize ps.getD (pl i ps.length) 0 = x at *
  generalize pl i ps.length = k at *
  generalize hm : ps.length = m at *
  have h1 : (k : Int) < (m : Int) := by omega
  have h2 : (0 : Int) ≤ (k : Int) := by omega
  go_enter Tryd.func28, Tryd.ntmps28
  go_wp2_with fail
  refine (HR.out _).mono ?_
  rintro e w' ⟨rfl, rfl⟩
  go_wp2_with fail
  go_still_tail 16, (by kernel_rfl)
  still_call (qNext_any x b r _ hlt)
  still_step
  refine wpStill_nil ?_
  change wpList _ _ _ _ _ w'.drew
  go_wp2_with fail
  go_end0
  subst hm
  exact ⟨rfl, Tab.drew (Tab.stored H.out (by decide) k (nx x (b != 0) (rt r)) (nx_lt hlt _ _)), (Kept.setCell (Kept.refl (fun k => (Value.slice (some ⟨q, 0, none⟩) ps.length cap).ownBlock = some k) _) (p := ⟨q, k, none⟩) (fun _ => rfl) _).drew⟩

theorem rep_app (j : Nat) : nums (List.replicate (j + 1) 32768) = nums (List.replicate j 32768) ++ [32768] := by
  rw [List.replicate_succ']; simp [nums]

set_option maxHeartbeats 1600000 in
/-- New: P5.2. -/
theorem qgNew_any (n : Int) (w : World) : Calls Tryd.prog 15 #[.int .i64 n] w fun e w' => ∃ g v, e = .returned (.pointer (some ⟨g, 0, none⟩)) ∧ TabR w' g v (List.replicate (many_of n) 32768) ∧ w.heap.size ≤ g ∧ (∀ k, v.ownBlock = some k → w.heap.size ≤ k) ∧ Fresh w w' := by
  obtain ⟨i0, hi, hz0, hz1, hz2⟩ := info_parts Tryd.infoU16
  have hk := of_int2 n
  have hb := of_bd n
  generalize many_of n = m at *
  go_enter Tryd.func15, Tryd.ntmps15
  go_wp2_with fail
  go_loopw [4] (fun i wr => ∃ (j : Nat) (u : Value), j ≤ m ∧ i = .int .i64 j ∧ Blk wr w.heap.size 73 #[u] ∧ Own wr 74 .u16 u (nums (List.replicate j 32768)) ∧ (∀ k, u.ownBlock = some k → w.heap.size ≤ k) ∧ Fresh w wr) (fun i _ => (m - intOf i).toNat)
  case atStart => exact ⟨0, .slice none 0 0, by omega, rfl, Blk.new _ _ _, Own.nil _ _ _, (fun k h => by cases h), (Kept.refl _ _).alloc _⟩
  case round =>
    obtain ⟨j, u, hj, rfl, hbk, ho, hu, hf⟩ := hrel
    by_cases hlt : j < m
    · have hl : (nums (List.replicate j 32768)).length = j := by simp [nums]
      have hne := ho.ne_blk hbk (by decide)
      have c0 : wr.cell? ⟨w.heap.size, 0, none⟩ = some u := by simpa using hbk.cell 0
      have hti := rep_app j
      generalize nums (List.replicate j 32768) = xs at *
      have HH := Lib.hid (And.intro hbk (And.intro ho (And.intro hu (And.intro hf (And.intro hne (And.intro hti hl))))))
      clear hbk ho hu hf hne hti
      go_wp2_with (at_builtin; refine wpList_append_lies _ rfl (.tmp 18) (.tmp 19) 71 rfl 0 74 i0 (.int .u16 0) 1 2 Tryd.underlying71 hi hz0 hz1 hz2 rfl (by decide) _ xs.length (ivs .u16 xs) rfl (World.ownsRow.alloc HH.out.2.1 _) ⟨wr.heap.size, 0, none⟩ 1 1 (ivs .u16 [32768]) rfl rfl (cell_one_new _ _ _) (ivs_one _ _) (by decide) (by unfold maxLen; omega) (by omega) (by omega) (wr.heap.size + 1) (by simp) ?_)
      intro q cap w4 hown4 hgrow hat hlt4
      have ho4 : Own w4 74 .u16 (.slice (some ⟨q, 0, none⟩) (j + 1) cap) (nums (List.replicate (j + 1) 32768)) := by
        have := Own.of_append hown4 (by rw [HH.out.2.2.2.2.2.2]; rfl)
        rw [HH.out.2.2.2.2.2.1]
        exact this
      have hb4 := (HH.out.1.alloc (.cells #[.int .u16 32768] 74)).grown hgrow (fun e => HH.out.2.2.2.2.1 e.symm)
      have c4 : w4.cell? ⟨w.heap.size, 0, none⟩ = some u := by simpa using hb4.cell 0
      have f4 := hb4.frozen 0
      have hq : w.heap.size ≤ q ∧ q ≠ w.heap.size := by
        rcases hat with e | e
        · exact ⟨HH.out.2.2.1 q e, fun e' => HH.out.2.2.2.2.1 (by rw [e, e'])⟩
        · have := HH.out.2.2.2.1.size; have := HH.out.1.lt; omega
      have hf4 : Fresh w w4 := Kept.grown (HH.out.2.2.2.1.alloc _) hgrow fun k e hlt' => by have := HH.out.2.2.1 k e; omega
      have H4 := Lib.hid (And.intro hb4 (And.intro ho4 (And.intro hq hf4)))
      clear hb4 ho4 hq hf4 hown4 hgrow hat
      go_wp2_with fail
      go_roundw
      case rel =>
        refine ⟨j + 1, _, by omega, by go_num, ?_, H4.out.2.1.setFar (p := ⟨w.heap.size, 0, none⟩) ?_ _, fun k hk' => ?_, H4.out.2.2.2.setCell (p := ⟨w.heap.size, 0, none⟩) (fun h => by have h' : w.heap.size < w.heap.size := h; omega) _⟩
        · simpa using H4.out.1.set_ 0 (.slice (some ⟨q, 0, none⟩) (j + 1) cap)
        · simpa [Value.ownBlock] using H4.out.2.2.1.2
        · have : q = k := by simpa [Value.ownBlock] using hk'
          have := H4.out.2.2.1.1; omega
      case measure => simp [intOf]; omega
    · obtain rfl : j = m := by omega
      have HO := Lib.hid (And.intro hbk (And.intro ho (And.intro hu hf)))
      clear hbk ho hu hf
      go_wp2_with fail
      go_ret
      refine ⟨w.heap.size, u, rfl, ⟨HO.out.1, HO.out.2.1, fun p hp => ?_, by simp; omega, by simp; omega⟩, Nat.le_refl _, HO.out.2.2.1, HO.out.2.2.2⟩
      rw [List.eq_of_mem_replicate hp]; decide

end Go.Proofs.YtolpjncmjokniaaDoor
