/- The document's model: New. -/
import Derived.Test.YtolpjncmjokniaaDoorModRL
import Derived.Test.YtolpjncmjokniaaDoorModN
namespace Go.Proofs.YtolpjncmjokniaaDoor
set_option maxRecDepth 100000
open Go.RowKit

attribute [local go_sem ↓] Go.wp_at_zero Go.wp_at_succ

/-- Three of a kind. -/
def tri {α : Type} (a b c : α) (i : Nat) : α := if i = 0 then a else if i = 1 then b else c

set_option maxHeartbeats 1600000 in
/-- New: P8.1. -/
theorem mrNew_any (n : Int) (w : World) : Calls Tryd.prog 8 #[.int .i64 n] w fun e w' => ∃ g, e = .returned (.pointer (some ⟨g, 0, none⟩)) ∧ MdR w.heap.size w' g (lvl n) mo0 ∧ Fresh w w' := by
  have hl := lvl_int2 n
  have hb := lvl_bd n
  generalize lvl n = lv at *
  go_enter Tryd.func8, Tryd.ntmps8
  go_wp2_with fail
  refine (qgNew_any 256 _).mono ?_
  rintro e w1 ⟨g0, v0, rfl, t0, a0, b0, f0⟩
  rw [show many_of 256 = tn 0 from rfl, ← ft_const] at t0
  have T0 := Lib.hid (And.intro t0 (And.intro a0 (And.intro b0 f0)))
  clear t0 a0 b0 f0
  go_wp2_with fail
  refine (qgNew_any 65536 _).mono ?_
  rintro e w2 ⟨g1, v1, rfl, t1, a1, b1, f1⟩
  rw [show many_of 65536 = tn 1 from rfl, ← ft_const] at t1
  have T1 := Lib.hid (And.intro t1 (And.intro a1 (And.intro b1 f1)))
  clear t1 a1 b1 f1
  go_wp2_with fail
  refine (qgNew_any 65536 _).mono ?_
  rintro e w3 ⟨g2, v2, rfl, t2, a2, b2, f2⟩
  rw [show many_of 65536 = tn 2 from rfl, ← ft_const] at t2
  have T2 := Lib.hid (And.intro t2 (And.intro a2 (And.intro b2 f2)))
  clear t2 a2 b2 f2
  go_wp2_with fail
  refine (qmNew_any 256 _).mono ?_
  rintro e w4 ⟨gm, vW, Q, C, rfl, hm, hrw, hgm, f4⟩
  rw [show ns 256 = 256 from rfl] at hrw
  have T3 := Lib.hid (And.intro hm (And.intro hrw (And.intro hgm f4)))
  clear hm hrw hgm f4
  go_wp2_with fail
  refine (qsNew_any 256 _).mono ?_
  rintro e w5 ⟨gs, vS, Q2, C2, rfl, hst, f5⟩
  rw [show nc 256 = 256 from rfl] at hst
  have T4 := Lib.hid (And.intro hst f5)
  clear hst f5
  have HF : Hid (PrR w.heap.size w5 ⟨tri g0 g1 g2, tri v0 v1 v2, w3.heap.size, gm, vW, Q, C, w4.heap.size, gs, vS, Q2, C2⟩ mo0.tab mo0.W mo0.T (.slice none 0 0) 0 (fun _ => 0) 0 false 0 0 false ∧ Fresh w w5) := by
    obtain ⟨t0, a0, b0, f0⟩ := T0.out
    obtain ⟨t1, a1, b1, f1⟩ := T1.out
    obtain ⟨t2, a2, b2, f2⟩ := T2.out
    obtain ⟨hm, hrw, hgm, f4⟩ := T3.out
    obtain ⟨hst, f5⟩ := T4.out
    have s0 := f0.size
    have s1 := f1.size
    have s2 := f2.size
    have s4 := f4.size
    have s5 := f5.size
    have k25 : Fresh w3 w5 := f4.trans f5 (fun _ _ h => h)
    have k15 : Fresh w2 w5 := f2.trans k25 (fun _ _ h => h)
    have k05 : Fresh w1 w5 := f1.trans k15 (fun _ _ h => h)
    have l0 : ∀ k, v0.ownBlock = some k → k < w1.heap.size := fun k e => t0.own.lt e
    have l1 : ∀ k, v1.ownBlock = some k → k < w2.heap.size := fun k e => t1.own.lt e
    have l2 : ∀ k, v2.ownBlock = some k → k < w3.heap.size := fun k e => t2.own.lt e
    refine Lib.hid ⟨⟨fun i hi => ?_, ?_, hst, fun i j k hi hj e1 e2 => ?_, fun i j hi hj e => ?_, fun j hj e => (by cases e), Nat.le_trans s0 (Nat.le_trans s1 s2), by show w.heap.size ≤ w4.heap.size; omega, fun i hi => ?_⟩, f0.trans k05 (fun _ _ h => h)⟩
    · rw [mo0_tab]
      rcases (by omega : i = 0 ∨ i = 1 ∨ i = 2) with rfl | rfl | rfl
      · exact t0.kept k05 id (fun _ _ => id)
      · exact t1.kept k15 id (fun _ _ => id)
      · exact t2.kept k25 id (fun _ _ => id)
    · refine MxR.kept (S := fun _ => False) ⟨hm, hrw, Own.nil _ _ _, fun i _ e => (by cases e), fun k e => (by cases e), hgm, by omega, by omega, by omega, fun _ _ => (by show (-16777216 : Int) ≤ 16384 ∧ (16384 : Int) ≤ 16777216; omega), fun _ => (by omega), by omega⟩ f5 id (fun _ _ => id) (fun _ _ => id) (fun _ _ => id)
    · rcases (by omega : i = 0 ∨ i = 1 ∨ i = 2) with rfl | rfl | rfl <;> rcases (by omega : j = 0 ∨ j = 1 ∨ j = 2) with rfl | rfl | rfl <;> first
        | rfl
        | (have q1 := l0 k e1; have q2 := b1 k e2; omega)
        | (have q1 := l0 k e1; have q2 := b2 k e2; omega)
        | (have q1 := b1 k e1; have q2 := l0 k e2; omega)
        | (have q1 := l1 k e1; have q2 := b2 k e2; omega)
        | (have q1 := b2 k e1; have q2 := l0 k e2; omega)
        | (have q1 := b2 k e1; have q2 := l1 k e2; omega)
    · have q1 := hrw.lt hi
      have q2 := hst.lst.lo j hj
      have e' : Q i = Q2 j := e
      omega
    · rcases (by omega : i = 0 ∨ i = 1 ∨ i = 2) with rfl | rfl | rfl
      · exact ⟨a0, b0⟩
      · exact ⟨by show w.heap.size ≤ g1; omega, fun k e => by have := b1 k e; omega⟩
      · exact ⟨by show w.heap.size ≤ g2; omega, fun k e => by have := b2 k e; omega⟩
  clear T0 T1 T2 T3 T4
  have HG : Hid (MdR w.heap.size (w5.alloc (.cells (rmc ⟨tri g0 g1 g2, tri v0 v1 v2, w3.heap.size, gm, vW, Q, C, w4.heap.size, gs, vS, Q2, C2⟩ lv 1 0 0) 56)) w5.heap.size lv mo0 ∧ Fresh w (w5.alloc (.cells (rmc ⟨tri g0 g1 g2, tri v0 v1 v2, w3.heap.size, gm, vW, Q, C, w4.heap.size, gs, vS, Q2, C2⟩ lv 1 0 0) 56))) := by
    have hfa : Fresh w5 (w5.alloc (.cells (rmc ⟨tri g0 g1 g2, tri v0 v1 v2, w3.heap.size, gm, vW, Q, C, w4.heap.size, gs, vS, Q2, C2⟩ lv 1 0 0) 56)) := (Kept.refl _ _).alloc _
    exact Lib.hid ⟨⟨_, _, _, _, _, _, _, _, _, Blk.new _ _ _, HF.out.1.fresh hfa, mo0_fine, hb, HF.out.2.size⟩, HF.out.2.trans hfa (fun _ _ h => h)⟩
  clear HF
  go_wp2_with fail
  go_ret
  exact ⟨_, rfl, HG.out⟩

end Go.Proofs.YtolpjncmjokniaaDoor
