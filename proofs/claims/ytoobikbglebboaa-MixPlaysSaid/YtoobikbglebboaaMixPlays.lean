/- MixPlays: whatever is mixed and learnt, in whatever sets: what is told, and all weights, are what the document says; for every number of sets and every list of operations. No conditions. -/
import Derived.Test.YtoobikbglebboaaMixQM
import Derived.Test.YtoobikbglebboaaHelpInt
import Derived.Test.YtoobikbglebboaaLaw
namespace Go.Proofs.Ytoobikbglebboaa.mixPlays
open Go.ChangeShapes Go.WideShapes Go.ChangeAt Go.RowKit

attribute [local go_sem ↓] Go.wp_at_zero Go.wp_at_succ

/-- The slice at S reads as operations. -/
def OpL (w : World) (S : Option Addr) (m : Nat) : Prop :=
  ∀ i, i < m → ∃ (b o : Nat) (x y : Int) (A : Option Addr) (n c : Nat) (xs : List Int), S = some ⟨b, o, none⟩ ∧ b < w.heap.size ∧
    w.cell? ⟨b, o + i * 3, none⟩ = some (.int .i64 x) ∧ w.cell? ⟨b, o + i * 3 + 1, none⟩ = some (.int .i64 y) ∧ w.cell? ⟨b, o + i * 3 + 2, none⟩ = some (.slice A n c) ∧
    Row w .i64 A n xs ∧ (A = none → c = 0) ∧ n ≤ maxLen

theorem open_ops {H : Type} {enc : TypeId × Value → H} {W : World} {base : Nat} {v : Value} {d : DataW H} {p : List MemPlace}
    (hv : Value.okWide Try.prog W .any base 27 v) (h : DataW.Trod enc Try.prog W 0 (fun _ => true) true 27 v d p) :
    ∃ A n c, v = .slice A n c ∧ (A = none → c = 0) ∧ n ≤ maxLen ∧ OpL W A n := by
  obtain ⟨S, m, c, rfl, hnil, hm, hs⟩ := open_recs Try.underlying27 Try.underlying34 (by kernel_rfl) (by kernel_rfl) hv h
  refine ⟨S, m, c, rfl, hnil, hm, fun i hi => ?_⟩
  obtain ⟨b, o, u0, y0, m0, rfl, hb, hc0, ht0⟩ := hs i hi 0 _ rfl
  obtain ⟨b1, o1, u1, y1, m1, e1, _, hc1, ht1⟩ := hs i hi 1 _ rfl
  injection e1 with e1; injection e1 with e1 e1'; subst e1; subst e1'
  obtain ⟨b2, o2, u2, y2, m2, e2, _, hc2, ht2⟩ := hs i hi 2 _ rfl
  injection e2 with e2; injection e2 with e2 e2'; subst e2; subst e2'
  obtain ⟨X, hX, _, _⟩ := DataW.trod_int Try.underlying3 ht0
  obtain ⟨Y, hY, _, _⟩ := DataW.trod_int Try.underlying3 ht1
  obtain ⟨A, n, c', xs, rfl, hn, hr, _, _, hl⟩ := open_cell Try.underlying32 Try.underlying3 (by kernel_rfl) ht2
  simp only [List.cons.injEq, and_true] at hX hY
  subst hX; subst hY
  exact ⟨b, o, X, Y, A, n, c', xs, rfl, hb, hc0, hc1, hc2, hr, hn, hl⟩

/-- The code's mixer and the document's, alike, made behind w. -/
structure Both (w wr : World) (g h g2 : Nat) (vW vI : Value) (n : Nat) (Q C : Nat → Nat) (W : Nat → Nat → Int) (s : Nat) (I : Nat → Int) (t : Int) (has : Bool) : Prop where
  c : Mxr wr g h n W s I t
  r : MxR wr w.heap.size g2 vW vI n Q C W s I t has
  fr : Fresh w wr
  hg : w.heap.size ≤ g
  hh : w.heap.size ≤ h

section
variable {w wr w1 : World} {g h g2 : Nat} {vW vI : Value} {n : Nat} {Q C : Nat → Nat} {W : Nat → Nat → Int} {s : Nat} {I : Nat → Int} {t : Int} {has : Bool}
theorem Both.fresh (b : Both w wr g h g2 vW vI n Q C W s I t has) (hf : Fresh wr w1) : Both w w1 g h g2 vW vI n Q C W s I t has :=
  ⟨b.c.kept hf id id, b.r.kept hf id (fun _ _ => id) (fun _ _ => id) (fun _ _ => id), b.fr.trans hf (fun _ _ h => h), b.hg, b.hh⟩
theorem Both.drewN (b : Both w wr g h g2 vW vI n Q C W s I t has) (k : Nat) : Both w (wr.drewN k) g h g2 vW vI n Q C W s I t has := b.fresh ((Kept.refl _ _).drewN k)
end

/-- A round's scene: the operation at block ob, a copy of its inputs at block q, the code's mixer and the document's. -/
structure Sc (w : World) (g h g2 : Nat) (vW : Value) (n : Nat) (Q C : Nat → Nat) (ob q : Nat) (X Y : Int) (A1 : Option Addr) (n1 k1 : Nat) (xs : List Int)
    (V : World) (cs : Array Value) (W : Nat → Nat → Int) (s : Nat) (I : Nat → Int) (t : Int) (vI : Value) (W' : Nat → Nat → Int) (s' : Nat) (I' : Nat → Int) (t' : Int) (has : Bool) : Prop where
  mc : Mxr V g h n W s I t
  mr : MxR V w.heap.size g2 vW vI n Q C W' s' I' t' has
  fr : Fresh w V
  hg : w.heap.size ≤ g
  hh : w.heap.size ≤ h
  op : Blk V ob 34 #[.int .i64 X, .int .i64 Y, .slice A1 n1 k1]
  cp : Blk V q 3 cs
  olo : w.heap.size ≤ ob
  qlo : w.heap.size ≤ q
  row : Row w .i64 A1 n1 xs
  qv : vI.ownBlock ≠ some q
  qq : ∀ i, i < n → Q i ≠ q

section
variable {w : World} {g h g2 : Nat} {vW : Value} {n : Nat} {Q C : Nat → Nat} {ob q : Nat} {X Y : Int} {A1 : Option Addr} {n1 k1 : Nat} {xs : List Int}
    {V V' : World} {cs : Array Value} {W : Nat → Nat → Int} {s : Nat} {I : Nat → Int} {t : Int} {vI : Value} {W' : Nat → Nat → Int} {s' : Nat} {I' : Nat → Int} {t' : Int} {has : Bool}
theorem Sc.fresh (a : Sc w g h g2 vW n Q C ob q X Y A1 n1 k1 xs V cs W s I t vI W' s' I' t' has) (hk : Fresh V V') : Sc w g h g2 vW n Q C ob q X Y A1 n1 k1 xs V' cs W s I t vI W' s' I' t' has :=
  ⟨a.mc.kept hk id id, a.mr.kept hk id (fun _ _ => id) (fun _ _ => id) (fun _ _ => id), a.fr.trans hk (fun _ _ h => h), a.hg, a.hh, a.op.kept hk id, a.cp.kept hk id, a.olo, a.qlo, a.row, a.qv, a.qq⟩
theorem Sc.rowV (a : Sc w g h g2 vW n Q C ob q X Y A1 n1 k1 xs V cs W s I t vI W' s' I' t' has) : Row V .i64 A1 n1 xs := a.row.kept a.fr (fun _ _ _ _ => id)
theorem Sc.low (a : Sc w g h g2 vW n Q C ob q X Y A1 n1 k1 xs V cs W s I t vI W' s' I' t' has) : ∀ b o, A1 = some ⟨b, o, none⟩ → 0 < n1 → b < w.heap.size := fun b o e h => by
  obtain ⟨b', o', e', hb, _⟩ := a.row.at_ 0 h
  rw [e] at e'; injection e' with e'; injection e' with e'; subst e'; exact hb
theorem Sc.c0 (a : Sc w g h g2 vW n Q C ob q X Y A1 n1 k1 xs V cs W s I t vI W' s' I' t' has) : V.cell? ⟨ob, 0, none⟩ = some (.int .i64 X) := a.op.cell 0
theorem Sc.c1 (a : Sc w g h g2 vW n Q C ob q X Y A1 n1 k1 xs V cs W s I t vI W' s' I' t' has) : V.cell? ⟨ob, 1, none⟩ = some (.int .i64 Y) := a.op.cell 1
theorem Sc.c2 (a : Sc w g h g2 vW n Q C ob q X Y A1 n1 k1 xs V cs W s I t vI W' s' I' t' has) : V.cell? ⟨ob, 2, none⟩ = some (.slice A1 n1 k1) := a.op.cell 2
/-- The code's mixer alone has turned, at its own block. -/
theorem Sc.turned (a : Sc w g h g2 vW n Q C ob q X Y A1 n1 k1 xs V cs W s I t vI W' s' I' t' has) {W2 : Nat → Nat → Int} {s2 : Nat} {I2 : Nat → Int} {t2 : Int} (hm : Mxr V' g h n W2 s2 I2 t2) (hk : Kept (fun k => k = g) V V') :
    Sc w g h g2 vW n Q C ob q X Y A1 n1 k1 xs V' cs W2 s2 I2 t2 vI W' s' I' t' has :=
  ⟨hm, a.mr.far hk a.mc.blk (by decide) (by decide) (by decide), a.fr.trans hk (fun i hi e => by have := a.hg; omega), a.hg, a.hh, a.op.kept hk (Blk.ne_ a.op a.mc.blk (by decide)), a.cp.kept hk (Blk.ne_ a.cp a.mc.blk (by decide)), a.olo, a.qlo, a.row, a.qv, a.qq⟩
/-- .. at its weights' block. -/
theorem Sc.weighed (a : Sc w g h g2 vW n Q C ob q X Y A1 n1 k1 xs V cs W s I t vI W' s' I' t' has) {W2 : Nat → Nat → Int} {s2 : Nat} {I2 : Nat → Int} {t2 : Int} (hm : Mxr V' g h n W2 s2 I2 t2) (hk : Kept (fun k => k = h) V V') :
    Sc w g h g2 vW n Q C ob q X Y A1 n1 k1 xs V' cs W2 s2 I2 t2 vI W' s' I' t' has :=
  ⟨hm, a.mr.far hk a.mc.sets (by decide) (by decide) (by decide), a.fr.trans hk (fun i hi e => by have := a.hh; omega), a.hg, a.hh, a.op.kept hk (Blk.ne_ a.op a.mc.sets (by decide)), a.cp.kept hk (Blk.ne_ a.cp a.mc.sets (by decide)), a.olo, a.qlo, a.row, a.qv, a.qq⟩
/-- The document's has turned, at its own block. -/
theorem Sc.turnedR (a : Sc w g h g2 vW n Q C ob q X Y A1 n1 k1 xs V cs W s I t vI W' s' I' t' has) {v2 : Value} {W2 : Nat → Nat → Int} {s2 : Nat} {I2 : Nat → Int} {t2 : Int} {has2 : Bool} (hm : MxR V' w.heap.size g2 vW v2 n Q C W2 s2 I2 t2 has2) (hk : Kept (fun k => k = g2) V V') (hv : ∀ k, v2.ownBlock = some k → V.heap.size ≤ k) :
    Sc w g h g2 vW n Q C ob q X Y A1 n1 k1 xs V' cs W s I t v2 W2 s2 I2 t2 has2 :=
  ⟨a.mc.kept hk (Blk.ne_ a.mc.blk a.mr.blk (by decide)) (Blk.ne_ a.mc.sets a.mr.blk (by decide)), hm, a.fr.trans hk (fun i hi e => by have := a.mr.glo; omega), a.hg, a.hh, a.op.kept hk (Blk.ne_ a.op a.mr.blk (by decide)), a.cp.kept hk (Blk.ne_ a.cp a.mr.blk (by decide)), a.olo, a.qlo, a.row,
    fun e => by have := hv q e; have := a.cp.lt; omega, a.qq⟩
/-- .. at a set's block. -/
theorem Sc.weighedR (a : Sc w g h g2 vW n Q C ob q X Y A1 n1 k1 xs V cs W s I t vI W' s' I' t' has) {W2 : Nat → Nat → Int} {s2 : Nat} {I2 : Nat → Int} {t2 : Int} {has2 : Bool} (hm : MxR V' w.heap.size g2 vW vI n Q C W2 s2 I2 t2 has2) (hk : Kept (fun k => k = Q s') V V') :
    Sc w g h g2 vW n Q C ob q X Y A1 n1 k1 xs V' cs W s I t vI W2 s2 I2 t2 has2 := by
  obtain ⟨cs', hb⟩ := a.mr.rws.blk a.mr.lt
  exact ⟨a.mc.kept hk (Blk.ne_ a.mc.blk hb (by decide)) (Blk.ne_ a.mc.sets hb (by decide)), hm, a.fr.trans hk (fun i hi e => by have := a.mr.rws.lo s' a.mr.lt; omega), a.hg, a.hh, a.op.kept hk (Blk.ne_ a.op hb (by decide)), a.cp.kept hk (fun e => a.qq s' a.mr.lt e.symm), a.olo, a.qlo, a.row, a.qv, a.qq⟩
/-- The copy is written into. -/
theorem Sc.spoilt (a : Sc w g h g2 vW n Q C ob q X Y A1 n1 k1 xs V cs W s I t vI W' s' I' t' has) (k : Nat) (u : Value) :
    Sc w g h g2 vW n Q C ob q X Y A1 n1 k1 xs (V.setCell ⟨q, k, none⟩ u) (cs.setIfInBounds k u) W s I t vI W' s' I' t' has := by
  have hk : Kept (fun i => i = q) V (V.setCell ⟨q, k, none⟩ u) := (Kept.refl (fun i => i = q) V).setCell (p := ⟨q, k, none⟩) (fun _ => rfl) u
  exact ⟨a.mc.kept hk (Blk.ne_ a.mc.blk a.cp (by decide)) (Blk.ne_ a.mc.sets a.cp (by decide)),
    a.mr.kept hk (Blk.ne_ a.mr.blk a.cp (by decide)) (fun k e e' => owns_ne a.mr.rws.own a.cp (by decide) (by rw [e, e'])) (fun i hi => a.qq i hi) (fun k e e' => a.qv (by rw [e, e'])),
    a.fr.trans hk (fun i hi e => by have := a.qlo; omega), a.hg, a.hh, a.op.kept hk (Blk.ne_ a.op a.cp (by decide)), a.cp.set_ k u, a.olo, a.qlo, a.row, a.qv, a.qq⟩
theorem Sc.farV (a : Sc w g h g2 vW n Q C ob q X Y A1 n1 k1 xs V cs W s I t vI W' s' I' t' has) : ∀ b o, A1 = some ⟨b, o, none⟩ → 0 < n1 → b ≠ g2 := fun b o e h => by
  have := a.low b o e h; have := a.mr.glo; omega
theorem Sc.copyV (a : Sc w g h g2 vW n Q C ob q X Y A1 n1 k1 xs V (ivs .i64 (xs ++ [71, 71, 71])).toArray W s I t vI W' s' I' t' has) : Row V .i64 (some ⟨q, 0, none⟩) n1 xs := by
  have := (Copy.mk a.cp).row
  rw [a.row.len] at this
  exact this
theorem Sc.copyFar (a : Sc w g h g2 vW n Q C ob q X Y A1 n1 k1 xs V cs W s I t vI W' s' I' t' has) : ∀ b o, some (⟨q, 0, none⟩ : Addr) = some ⟨b, o, none⟩ → 0 < n1 → b ≠ g := fun b o e _ => by
  injection e with e; injection e with e
  subst e
  exact Blk.ne_ a.cp a.mc.blk (by decide)
/-- Another block of weights is written into. -/
theorem Sc.other (a : Sc w g h g2 vW n Q C ob q X Y A1 n1 k1 xs V cs W s I t vI W' s' I' t' has) {b : Nat} {cs2 : Array Value} (hb : Blk V b 52 cs2) (hbh : b ≠ h) (hlo : w.heap.size ≤ b) (k : Nat) (u : Value) :
    Sc w g h g2 vW n Q C ob q X Y A1 n1 k1 xs (V.setCell ⟨b, k, none⟩ u) cs W s I t vI W' s' I' t' has := by
  have hk : Kept (fun i => i = b) V (V.setCell ⟨b, k, none⟩ u) := (Kept.refl (fun i => i = b) V).setCell (p := ⟨b, k, none⟩) (fun _ => rfl) u
  exact ⟨a.mc.kept hk (Blk.ne_ a.mc.blk hb (by decide)) (fun e => hbh e.symm), a.mr.far hk hb (by decide) (by decide) (by decide),
    a.fr.trans hk (fun i hi e => by omega), a.hg, a.hh, a.op.kept hk (Blk.ne_ a.op hb (by decide)), a.cp.kept hk (Blk.ne_ a.cp hb (by decide)), a.olo, a.qlo, a.row, a.qv, a.qq⟩
theorem Sc.d0 (a : Sc w g h g2 vW n Q C ob q X Y A1 n1 k1 xs V cs W s I t vI W' s' I' t' has) : V.cell? ⟨g2, 0, none⟩ = some vW := a.mr.blk.cell 0
theorem Sc.d2 (a : Sc w g h g2 vW n Q C ob q X Y A1 n1 k1 xs V cs W s I t vI W' s' I' t' has) : V.cell? ⟨g2, 2, none⟩ = some (.int .i64 s') := a.mr.blk.cell 2
theorem Sc.dw {b cap : Nat} (a : Sc w g h g2 (.slice (some ⟨b, 0, none⟩) n cap) n Q C ob q X Y A1 n1 k1 xs V cs W s I t vI W' s' I' t' has) : V.cell? ⟨b, s', none⟩ = some (.slice (some ⟨Q s', 0, none⟩) 4 (C s')) := by
  obtain ⟨b', cap', e, hcs⟩ := a.mr.rws.form a.mr.pos
  simp only [Value.slice.injEq, Option.some.injEq, Addr.mk.injEq, and_true, true_and] at e
  rw [e.1]; exact hcs s' a.mr.lt
theorem Sc.wrow (a : Sc w g h g2 vW n Q C ob q X Y A1 n1 k1 xs V cs W s I t vI W' s' I' t' has) : Row V .i64 (some ⟨Q s', 0, none⟩) 4 (l4 (W' s')) :=
  ⟨rfl, fun j hj => ⟨Q s', 0, rfl, a.mr.rws.lt a.mr.lt, by rw [Nat.zero_add, a.mr.rws.cell a.mr.lt hj, l4_get hj]⟩⟩
theorem a4_row {w : World} {b : Nat} {t : TypeId} {f : Nat → Int} (h : Blk w b t (a4 f)) : Row w .i64 (some ⟨b, 0, none⟩) 4 (l4 f) :=
  ⟨rfl, fun j hj => ⟨b, 0, rfl, h.lt, by rw [Nat.zero_add, h.cell j, a4_get hj, l4_get hj]⟩⟩
theorem alike_any (A B : Option Addr) (n c d : Nat) (xs : List Int) (w : World) (ha : Row w .i64 A n xs) (hb : Row w .i64 B n xs) (hn : n ≤ 35184372088000) :
    Calls Try.prog 22 #[.slice A n c, .slice B n d] w fun e w' => e = .returned (.bool true) ∧ ∃ k, w' = w.drewN k :=
  (hPlainInt_any A B n n c d xs xs w ha hb hn hn).mono fun e w' h => ⟨by rw [h.1]; simp, h.2⟩
theorem Sc.both (a : Sc w g h g2 vW n Q C ob q X Y A1 n1 k1 xs V cs W s I t vI W s I t has) : Both w V g h g2 vW vI n Q C W s I t has := ⟨a.mc, a.mr, a.fr, a.hg, a.hh⟩
end

set_option maxRecDepth 100000 in
set_option maxHeartbeats 3200000 in
theorem walk (n0 : Int) (A : Option Addr) (m c : Nat) (w : World) (hA : OpL w A m) (hm : m ≤ maxLen) :
    Calls Try.prog 5 #[.int .i64 n0, .slice A m c] w fun e w' => e = .returned (.bool true) ∧ Below w.heap.size w w' := by
  unfold maxLen at hm
  have HA := Lib.hid hA
  clear hA
  go_enter Try.func5, Try.ntmps5
  go_wp2_with fail
  all_goals
    refine (mNew_any _ _).mono ?_
    rintro e w1 ⟨g, h, rfl, hm1, hg, hh, hf1⟩
    go_wp2_with fail
    refine (qNew_any _ _).mono ?_
    rintro e w2 ⟨g2, vW, Q, C, rfl, hn2, hr2, hg2, hf2⟩
    have hb2 : Both w w2 g h g2 vW (.slice none 0 0) _ Q C (fun _ _ => 16384) 0 (fun _ => 0) 0 false :=
      ⟨hm1.kept hf2 id id, ⟨hn2, ⟨hr2.own, hr2.row, hr2.inj, fun i hi => Nat.le_trans hf1.size (hr2.lo i hi), fun k hk => Nat.le_trans hf1.size (hr2.vlo k hk)⟩, Own.nil _ _ _, (fun i _ h => by cases h), (fun k h => by cases h), Nat.le_trans hf1.size hg2, hm1.pos, hm1.le, hm1.lt, hm1.bd, hm1.ib, hm1.tb⟩, hf1.trans hf2 (fun _ _ h => h), hg, hh⟩
    obtain ⟨bw, cpw, rfl, _⟩ := hb2.r.rws.form hb2.c.pos
    clear hm1 hn2 hr2 hg2 hf1 hf2 hg hh
    generalize ns _ = n at *
    have HB := Lib.hid hb2
    clear hb2
    go_wp2_with fail
    refine (awake_any _).mono ?_
    rintro e w3 ⟨rfl, rfl⟩
    go_wp2_with fail
    go_loopw [7] (fun i wr => ∃ (j : Nat) (vI : Value) (W : Nat → Nat → Int) (s : Nat) (I : Nat → Int) (t : Int) (has : Bool), j ≤ m ∧ j ≤ 200 ∧ i = .int .i64 j ∧ Both w wr g h g2 (.slice (some ⟨bw, 0, none⟩) n cpw) vI n Q C W s I t has) (fun i _ => (200 - intOf i).toNat)
    case atStart => exact ⟨0, _, _, _, _, _, _, by omega, by omega, rfl, HB.out⟩
    case round =>
      obtain ⟨j, vI, W, s, I, t, has, hj1, hj2, rfl, hb⟩ := hrel
      clear HB
      by_cases hlt : j < m ∧ j < 200
      · obtain ⟨ha, hb0⟩ := hlt
        obtain ⟨sb, so, X, Y, A1, n1, k1, xs, rfl, hsb, c0', c1', c2', hr', hnil, hn1⟩ := HA.out j ha
        have c0 := (hb.fr.cell (p := ⟨sb, so + j * 3, none⟩) hsb id).trans c0'
        have c1 := (hb.fr.cell (p := ⟨sb, so + j * 3 + 1, none⟩) hsb id).trans c1'
        have c2 := (hb.fr.cell (p := ⟨sb, so + j * 3 + 2, none⟩) hsb id).trans c2'
        have hi0 : (0 : Int) ≤ (j : Int) := by omega
        have hi1 : (j : Int) < (m : Int) := by omega
        have hi2 : (j : Int) < 200 := by omega
        have hi3 : decide ((j : Int) < 200) = true := by simp; omega
        unfold maxLen at hn1
        have HR := Lib.hid (And.intro hr' hnil)
        have HT1 := Lib.hid hb
        clear c0' c1' c2' hb hr' hnil
        have hnew : Fresh wr (wr.alloc (.cells #[.int .i64 X, .int .i64 Y, .slice A1 n1 k1] 34)) := (Kept.refl _ _).alloc _
        have hob : Blk (wr.alloc (.cells #[.int .i64 X, .int .i64 Y, .slice A1 n1 k1] 34)) wr.heap.size 34 #[.int .i64 X, .int .i64 Y, .slice A1 n1 k1] := Blk.new _ _ _
        have hb1 := HT1.out.fresh hnew
        by_cases hlong : 20 < n1
        · have hd : (20 : Int) < (n1 : Int) := by omega
          go_wp2_with fail
          go_roundw
          case rel => exact ⟨j + 1, _, _, _, _, _, _, by omega, by omega, by go_num, hb1⟩
          case measure => simp [intOf]; omega
        · have hd : ¬ (20 : Int) < (n1 : Int) := by omega
          have H1 := Lib.hid (And.intro hb1 hob)
          clear hnew hob hb1
          go_wp2_with fail
          generalize hob : wr.heap.size = ob at *
          generalize wr.alloc (.cells #[.int .i64 X, .int .i64 Y, .slice A1 n1 k1] 34) = v1 at *
          clear c0 c1 c2
          refine (hOwnInt_any A1 n1 k1 xs 71 _ (HR.out.1.kept H1.out.1.fr (fun _ _ _ _ => id)) HR.out.2 (by omega)).mono ?_
          rintro e v2 ⟨q, rfl, hcp, hq, hf2⟩
          have hb2 := H1.out.1.fresh hf2
          have hs2 : Sc w g h g2 (.slice (some ⟨bw, 0, none⟩) n cpw) n Q C ob q X Y A1 n1 k1 xs v2 (ivs .i64 (xs ++ [71, 71, 71])).toArray W s I t vI W s I t has :=
            ⟨hb2.c, hb2.r, hb2.fr, hb2.hg, hb2.hh, H1.out.2.kept hf2 id, hcp.blk, by rw [← hob]; exact HT1.out.fr.size, Nat.le_trans H1.out.1.fr.size hq, HR.out.1,
              fun e => by have := H1.out.1.r.inp.lt e; omega, fun i hi e => by have := H1.out.1.r.rws.lt hi; omega⟩
          have c0 := hs2.c0
          have c2 := hs2.c2
          have H2 := Lib.hid (hs2.fresh ((Kept.refl (fun _ => False) v2).drew))
          clear hb2 hs2 hcp hq hf2 H1 hob
          have hT : (tl (inp xs) (W (pl X n)) != tl (inp xs) (W (pl X n))) = false := by simp
          go_wp2_with fail
          go_region_held3 (fun v => v.cell? ⟨ob, 0, none⟩ = some (.int .i64 X) ∧ v.cell? ⟨ob, 2, none⟩ = some (.slice A1 n1 k1))
            (first | exact ⟨hs7.c0, hs7.c2⟩ | exact ⟨hs6.c0, hs6.c2⟩ | exact ⟨hs5.c0, hs5.c2⟩ | go_keep)
            (first
              | (go_at_call 16; refine (mMix_any g h n W s I t X (some ⟨q, 0, none⟩) n1 (n1 + 3) xs _ H2.out.mc H2.out.copyV H2.out.copyFar).mono ?_; rintro e5 w5 ⟨rfl, hm5, hk5⟩; have hs5 := H2.out.turned hm5 hk5)
              | (go_at_call 17; refine (qMix_any _ g2 _ vI n Q C W s I t has X A1 n1 k1 xs _ hs5.mr hs5.rowV hs5.farV hn1).mono ?_; rintro e6 w6 ⟨rfl, hk6, vI', hvI', hm6⟩; have hs6 := hs5.turnedR hm6 hk6 hvI')
              | (go_at_call 18; refine (hKeptInt_any q n1 k1 A1 xs 71 _ ⟨hs6.cp⟩ hs6.rowV (by omega)).mono ?_; rintro e7 w7 ⟨rfl, k7, rfl⟩; have hs7 := hs6.fresh ((Kept.refl (fun _ => False) _).drewN k7)))
          have H7 := Lib.hid hs7
          clear hs7 hs6 hs5 hm5 hk5 hm6 hk6 hvI' c0 c2 H2 hT
          have h20 : (n1 : Int) ≤ 20 := by omega
          go_wp2_with fail
          go_loopw [67] (fun i wr => ∃ (k : Nat) (cs : Array Value), k ≤ n1 ∧ i = .int .i64 k ∧ cs.size = n1 + 3 ∧ Sc w g h g2 (.slice (some ⟨bw, 0, none⟩) n cpw) n Q C ob q X Y A1 n1 k1 xs wr cs W (pl X n) (inp xs) (tl (inp xs) (W (pl X n))) vI' W (pl X n) (inp xs) (tl (inp xs) (W (pl X n))) true) (fun i _ => (n1 - intOf i).toNat)
          case atStart => exact ⟨0, _, by omega, rfl, by have := H7.out.row.len; simp [ivs_length]; omega, H7.out⟩
          case round =>
            obtain ⟨k, cs, hk, rfl, hcs, hs⟩ := hrel
            clear H7
            by_cases hlt2 : k < n1
            · have hu : ∃ u, wr.cell? ⟨q, k, none⟩ = some u := by
                rw [hs.cp.cell k]
                exact ⟨_, Array.getElem?_eq_getElem (by omega)⟩
              obtain ⟨u, hu⟩ := hu
              have hf := hs.cp.frozen k
              have HS := Lib.hid (And.intro (hs.spoilt k (.int .i64 5)) hcs)
              clear hs hcs
              have k0 : (0 : Int) ≤ (k : Int) := by omega
              have k2 : (k : Int) < (n1 : Int) := by omega
              go_wp2_with fail
              go_roundw
              case rel => exact ⟨k + 1, _, by omega, by go_num, by simpa using HS.out.2, HS.out.1⟩
              case measure => simp [intOf]; omega
            · obtain rfl : k = n1 := by omega
              have c1 := hs.c1
              have HS := Lib.hid hs
              clear hs hcs
              have hY : Y = 0 ∨ Y = 1 ∨ (Y ≠ 0 ∧ Y ≠ 1) := by omega
              rcases hY with hY | hY | ⟨hY, hY1⟩
              · have y0 : (Y == 0) = true := by simpa using hY
                clear hY
                have ht1 := (tl_bd (inp xs) (W (pl X n))).1
                go_wp2_with fail
                refine (mLearn_any g h n W _ _ _ Y _ HS.out.mc ht1).mono ?_
                rintro e w8 ⟨rfl, hm8, hk8⟩
                have hs8 := HS.out.weighed hm8 hk8
                have c1 := hs8.c1
                have H8 := Lib.hid hs8
                clear hs8 hm8 hk8 HS ht1
                go_wp2_with fail
                refine (qLearn_any _ g2 _ vI' n Q C W _ _ _ Y _ H8.out.mr).mono ?_
                rintro e w9 ⟨rfl, hm9, hk9⟩
                have hs9 := H8.out.weighedR hm9 hk9
                clear H8 hm9 hk9 c1
                have hs9 : ∃ W2, Sc w g h g2 (.slice (some ⟨bw, 0, none⟩) n cpw) n Q C ob q X Y A1 k k1 xs w9 cs W2 (pl X n) (inp xs) (tl (inp xs) (W (pl X n))) vI' W2 (pl X n) (inp xs) (tl (inp xs) (W (pl X n))) true := ⟨_, hs9⟩
                obtain ⟨W2, hs9⟩ := hs9
                have c0 := hs9.c0
                have H9 := Lib.hid hs9
                clear hs9
                go_wp2_with fail
                refine (mWeights_any g h n W2 _ _ _ X _ H9.out.mc).mono ?_
                rintro e w10 ⟨q2, rfl, hbl, hq2, hf10⟩
                have hs10 := H9.out.fresh hf10
                have hqh : q2 ≠ h := by have := H9.out.mc.sets.lt; omega
                have hq2w : w.heap.size ≤ q2 := Nat.le_trans H9.out.fr.size hq2
                have d0 := hs10.d0
                have d2 := hs10.d2
                have dw := hs10.dw
                have p0 : (0 : Int) ≤ ((pl X n : Nat) : Int) := by omega
                have p1 : ((pl X n : Nat) : Int) < (n : Int) := by have := hs10.mc.lt; omega
                have H10 := Lib.hid (And.intro hs10 hbl)
                clear hs10 hbl hq2 hf10 H9 c0 c1
                go_wp2_with fail
                go_quiet ((go_at_call 22; exact Calls.quiet_of (alike_any _ _ 4 4 _ (l4 (W2 (pl X n))) _ ((a4_row H10.out.2).drewN _) (H10.out.1.wrow.drewN _) (by omega))))
                have H11 := Lib.hid (And.intro (H10.out.1.fresh ((Kept.refl (fun _ => False) _).drewN nq)) (H10.out.2.drewN nq))
                clear d0 d2 dw H10
                go_wp2_with fail
                go_loopw [109] (fun i wr => ∃ (k9 : Nat) (cs2 : Array Value), k9 ≤ 4 ∧ i = .int .i64 k9 ∧ cs2.size = 4 ∧ Blk wr q2 52 cs2 ∧ Sc w g h g2 (.slice (some ⟨bw, 0, none⟩) n cpw) n Q C ob q X Y A1 k k1 xs wr cs W2 (pl X n) (inp xs) (tl (inp xs) (W (pl X n))) vI' W2 (pl X n) (inp xs) (tl (inp xs) (W (pl X n))) true) (fun i _ => (4 - intOf i).toNat)
                case atStart => exact ⟨0, _, by omega, rfl, rfl, H11.out.2, H11.out.1⟩
                case round =>
                  obtain ⟨k9, cs2, hk9, rfl, hcs2, hbl, hs⟩ := hrel
                  clear H11
                  by_cases hlt3 : k9 < 4
                  · have hu : ∃ u, wr.cell? ⟨q2, k9, none⟩ = some u := by
                      rw [hbl.cell k9]
                      exact ⟨_, Array.getElem?_eq_getElem (by omega)⟩
                    obtain ⟨u, hu⟩ := hu
                    have hf := hbl.frozen k9
                    have HS := Lib.hid (And.intro (hs.other hbl hqh hq2w k9 (.int .i64 7)) (And.intro (hbl.set_ k9 (.int .i64 7)) hcs2))
                    clear hs hcs2 hbl
                    have k0 : (0 : Int) ≤ (k9 : Int) := by omega
                    have k2 : (k9 : Int) < 4 := by omega
                    go_wp2_with fail
                    go_roundw
                    case rel => exact ⟨k9 + 1, _, by omega, by go_num, by simpa using HS.out.2.2, HS.out.2.1, HS.out.1⟩
                    case measure => simp [intOf]; omega
                  · obtain rfl : k9 = 4 := by omega
                    have c0 := hs.c0
                    have d0 := hs.d0
                    have d2 := hs.d2
                    have dw := hs.dw
                    have H12 := Lib.hid (hs.fresh ((Kept.refl (fun _ => False) wr).drew))
                    clear hs hcs2 hbl
                    go_wp2_with fail
                    go_region_held3 (fun v => v.cell? ⟨ob, 0, none⟩ = some (.int .i64 X) ∧ v.cell? ⟨g2, 0, none⟩ = some (.slice (some ⟨bw, 0, none⟩) n cpw) ∧ v.cell? ⟨g2, 2, none⟩ = some (.int .i64 (pl X n : Nat)) ∧ v.cell? ⟨bw, pl X n, none⟩ = some (.slice (some ⟨Q (pl X n), 0, none⟩) 4 (C (pl X n))))
                      (first | exact ⟨hs14.c0, hs14.d0, hs14.d2, hs14.dw⟩ | exact ⟨hs13.c0, hs13.d0, hs13.d2, hs13.dw⟩ | go_keep)
                      (first
                        | (go_at_call 21; refine (mWeights_any g h n W2 _ _ _ X _ H12.out.mc).mono ?_; rintro e13 w13 ⟨q3, rfl, hb13, hq13, hf13⟩; have hs13 := H12.out.fresh hf13)
                        | (go_at_call 22; refine (alike_any _ _ 4 4 _ (l4 (W2 (pl X n))) _ (a4_row hb13) hs13.wrow (by omega)).mono ?_; rintro e14 w14 ⟨rfl, k14, rfl⟩; have hs14 := hs13.fresh ((Kept.refl (fun _ => False) _).drewN k14)))
                    have HF := Lib.hid hs14.both
                    clear hs14 hs13 hb13 hq13 hf13 c0 d0 d2 dw H12
                    go_wp2_with fail
                    go_roundw
                    case rel => exact ⟨j + 1, _, _, _, _, _, _, by omega, by omega, by go_num, HF.out⟩
                    case measure => simp [intOf]; omega
              · have y0 : (Y == 0) = false := by rw [hY]; rfl
                have y1 : (Y == 1) = true := by simpa using hY
                clear hY
                have ht1 := (tl_bd (inp xs) (W (pl X n))).1
                go_wp2_with fail
                refine (mLearn_any g h n W _ _ _ Y _ HS.out.mc ht1).mono ?_
                rintro e w8 ⟨rfl, hm8, hk8⟩
                have hs8 := HS.out.weighed hm8 hk8
                have c1 := hs8.c1
                have H8 := Lib.hid hs8
                clear hs8 hm8 hk8 HS ht1
                go_wp2_with fail
                refine (qLearn_any _ g2 _ vI' n Q C W _ _ _ Y _ H8.out.mr).mono ?_
                rintro e w9 ⟨rfl, hm9, hk9⟩
                have hs9 := H8.out.weighedR hm9 hk9
                clear H8 hm9 hk9 c1
                have hs9 : ∃ W2, Sc w g h g2 (.slice (some ⟨bw, 0, none⟩) n cpw) n Q C ob q X Y A1 k k1 xs w9 cs W2 (pl X n) (inp xs) (tl (inp xs) (W (pl X n))) vI' W2 (pl X n) (inp xs) (tl (inp xs) (W (pl X n))) true := ⟨_, hs9⟩
                obtain ⟨W2, hs9⟩ := hs9
                have c0 := hs9.c0
                have H9 := Lib.hid hs9
                clear hs9
                go_wp2_with fail
                refine (mWeights_any g h n W2 _ _ _ X _ H9.out.mc).mono ?_
                rintro e w10 ⟨q2, rfl, hbl, hq2, hf10⟩
                have hs10 := H9.out.fresh hf10
                have hqh : q2 ≠ h := by have := H9.out.mc.sets.lt; omega
                have hq2w : w.heap.size ≤ q2 := Nat.le_trans H9.out.fr.size hq2
                have d0 := hs10.d0
                have d2 := hs10.d2
                have dw := hs10.dw
                have p0 : (0 : Int) ≤ ((pl X n : Nat) : Int) := by omega
                have p1 : ((pl X n : Nat) : Int) < (n : Int) := by have := hs10.mc.lt; omega
                have H10 := Lib.hid (And.intro hs10 hbl)
                clear hs10 hbl hq2 hf10 H9 c0 c1
                go_wp2_with fail
                go_quiet ((go_at_call 22; exact Calls.quiet_of (alike_any _ _ 4 4 _ (l4 (W2 (pl X n))) _ ((a4_row H10.out.2).drewN _) (H10.out.1.wrow.drewN _) (by omega))))
                have H11 := Lib.hid (And.intro (H10.out.1.fresh ((Kept.refl (fun _ => False) _).drewN nq)) (H10.out.2.drewN nq))
                clear d0 d2 dw H10
                go_wp2_with fail
                go_loopw [109] (fun i wr => ∃ (k9 : Nat) (cs2 : Array Value), k9 ≤ 4 ∧ i = .int .i64 k9 ∧ cs2.size = 4 ∧ Blk wr q2 52 cs2 ∧ Sc w g h g2 (.slice (some ⟨bw, 0, none⟩) n cpw) n Q C ob q X Y A1 k k1 xs wr cs W2 (pl X n) (inp xs) (tl (inp xs) (W (pl X n))) vI' W2 (pl X n) (inp xs) (tl (inp xs) (W (pl X n))) true) (fun i _ => (4 - intOf i).toNat)
                case atStart => exact ⟨0, _, by omega, rfl, rfl, H11.out.2, H11.out.1⟩
                case round =>
                  obtain ⟨k9, cs2, hk9, rfl, hcs2, hbl, hs⟩ := hrel
                  clear H11
                  by_cases hlt3 : k9 < 4
                  · have hu : ∃ u, wr.cell? ⟨q2, k9, none⟩ = some u := by
                      rw [hbl.cell k9]
                      exact ⟨_, Array.getElem?_eq_getElem (by omega)⟩
                    obtain ⟨u, hu⟩ := hu
                    have hf := hbl.frozen k9
                    have HS := Lib.hid (And.intro (hs.other hbl hqh hq2w k9 (.int .i64 7)) (And.intro (hbl.set_ k9 (.int .i64 7)) hcs2))
                    clear hs hcs2 hbl
                    have k0 : (0 : Int) ≤ (k9 : Int) := by omega
                    have k2 : (k9 : Int) < 4 := by omega
                    go_wp2_with fail
                    go_roundw
                    case rel => exact ⟨k9 + 1, _, by omega, by go_num, by simpa using HS.out.2.2, HS.out.2.1, HS.out.1⟩
                    case measure => simp [intOf]; omega
                  · obtain rfl : k9 = 4 := by omega
                    have c0 := hs.c0
                    have d0 := hs.d0
                    have d2 := hs.d2
                    have dw := hs.dw
                    have H12 := Lib.hid (hs.fresh ((Kept.refl (fun _ => False) wr).drew))
                    clear hs hcs2 hbl
                    go_wp2_with fail
                    go_region_held3 (fun v => v.cell? ⟨ob, 0, none⟩ = some (.int .i64 X) ∧ v.cell? ⟨g2, 0, none⟩ = some (.slice (some ⟨bw, 0, none⟩) n cpw) ∧ v.cell? ⟨g2, 2, none⟩ = some (.int .i64 (pl X n : Nat)) ∧ v.cell? ⟨bw, pl X n, none⟩ = some (.slice (some ⟨Q (pl X n), 0, none⟩) 4 (C (pl X n))))
                      (first | exact ⟨hs14.c0, hs14.d0, hs14.d2, hs14.dw⟩ | exact ⟨hs13.c0, hs13.d0, hs13.d2, hs13.dw⟩ | go_keep)
                      (first
                        | (go_at_call 21; refine (mWeights_any g h n W2 _ _ _ X _ H12.out.mc).mono ?_; rintro e13 w13 ⟨q3, rfl, hb13, hq13, hf13⟩; have hs13 := H12.out.fresh hf13)
                        | (go_at_call 22; refine (alike_any _ _ 4 4 _ (l4 (W2 (pl X n))) _ (a4_row hb13) hs13.wrow (by omega)).mono ?_; rintro e14 w14 ⟨rfl, k14, rfl⟩; have hs14 := hs13.fresh ((Kept.refl (fun _ => False) _).drewN k14)))
                    have HF := Lib.hid hs14.both
                    clear hs14 hs13 hb13 hq13 hf13 c0 d0 d2 dw H12
                    go_wp2_with fail
                    go_roundw
                    case rel => exact ⟨j + 1, _, _, _, _, _, _, by omega, by omega, by go_num, HF.out⟩
                    case measure => simp [intOf]; omega
              · have y0 : (Y == 0) = false := by simpa using hY
                have y1 : (Y == 1) = false := by simpa using hY1
                clear hY hY1
                have hs9 : ∃ W2, Sc w g h g2 (.slice (some ⟨bw, 0, none⟩) n cpw) n Q C ob q X Y A1 k k1 xs wr cs W2 (pl X n) (inp xs) (tl (inp xs) (W (pl X n))) vI' W2 (pl X n) (inp xs) (tl (inp xs) (W (pl X n))) true := ⟨_, HS.out⟩
                clear HS
                obtain ⟨W2, hs9⟩ := hs9
                have c0 := hs9.c0
                have H9 := Lib.hid hs9
                clear hs9
                go_wp2_with fail
                refine (mWeights_any g h n W2 _ _ _ X _ H9.out.mc).mono ?_
                rintro e w10 ⟨q2, rfl, hbl, hq2, hf10⟩
                have hs10 := H9.out.fresh hf10
                have hqh : q2 ≠ h := by have := H9.out.mc.sets.lt; omega
                have hq2w : w.heap.size ≤ q2 := Nat.le_trans H9.out.fr.size hq2
                have d0 := hs10.d0
                have d2 := hs10.d2
                have dw := hs10.dw
                have p0 : (0 : Int) ≤ ((pl X n : Nat) : Int) := by omega
                have p1 : ((pl X n : Nat) : Int) < (n : Int) := by have := hs10.mc.lt; omega
                have H10 := Lib.hid (And.intro hs10 hbl)
                clear hs10 hbl hq2 hf10 H9 c0 c1
                go_wp2_with fail
                go_quiet ((go_at_call 22; exact Calls.quiet_of (alike_any _ _ 4 4 _ (l4 (W2 (pl X n))) _ ((a4_row H10.out.2).drewN _) (H10.out.1.wrow.drewN _) (by omega))))
                have H11 := Lib.hid (And.intro (H10.out.1.fresh ((Kept.refl (fun _ => False) _).drewN nq)) (H10.out.2.drewN nq))
                clear d0 d2 dw H10
                go_wp2_with fail
                go_loopw [109] (fun i wr => ∃ (k9 : Nat) (cs2 : Array Value), k9 ≤ 4 ∧ i = .int .i64 k9 ∧ cs2.size = 4 ∧ Blk wr q2 52 cs2 ∧ Sc w g h g2 (.slice (some ⟨bw, 0, none⟩) n cpw) n Q C ob q X Y A1 k k1 xs wr cs W2 (pl X n) (inp xs) (tl (inp xs) (W (pl X n))) vI' W2 (pl X n) (inp xs) (tl (inp xs) (W (pl X n))) true) (fun i _ => (4 - intOf i).toNat)
                case atStart => exact ⟨0, _, by omega, rfl, rfl, H11.out.2, H11.out.1⟩
                case round =>
                  obtain ⟨k9, cs2, hk9, rfl, hcs2, hbl, hs⟩ := hrel
                  clear H11
                  by_cases hlt3 : k9 < 4
                  · have hu : ∃ u, wr.cell? ⟨q2, k9, none⟩ = some u := by
                      rw [hbl.cell k9]
                      exact ⟨_, Array.getElem?_eq_getElem (by omega)⟩
                    obtain ⟨u, hu⟩ := hu
                    have hf := hbl.frozen k9
                    have HS := Lib.hid (And.intro (hs.other hbl hqh hq2w k9 (.int .i64 7)) (And.intro (hbl.set_ k9 (.int .i64 7)) hcs2))
                    clear hs hcs2 hbl
                    have k0 : (0 : Int) ≤ (k9 : Int) := by omega
                    have k2 : (k9 : Int) < 4 := by omega
                    go_wp2_with fail
                    go_roundw
                    case rel => exact ⟨k9 + 1, _, by omega, by go_num, by simpa using HS.out.2.2, HS.out.2.1, HS.out.1⟩
                    case measure => simp [intOf]; omega
                  · obtain rfl : k9 = 4 := by omega
                    have c0 := hs.c0
                    have d0 := hs.d0
                    have d2 := hs.d2
                    have dw := hs.dw
                    have H12 := Lib.hid (hs.fresh ((Kept.refl (fun _ => False) wr).drew))
                    clear hs hcs2 hbl
                    go_wp2_with fail
                    go_region_held3 (fun v => v.cell? ⟨ob, 0, none⟩ = some (.int .i64 X) ∧ v.cell? ⟨g2, 0, none⟩ = some (.slice (some ⟨bw, 0, none⟩) n cpw) ∧ v.cell? ⟨g2, 2, none⟩ = some (.int .i64 (pl X n : Nat)) ∧ v.cell? ⟨bw, pl X n, none⟩ = some (.slice (some ⟨Q (pl X n), 0, none⟩) 4 (C (pl X n))))
                      (first | exact ⟨hs14.c0, hs14.d0, hs14.d2, hs14.dw⟩ | exact ⟨hs13.c0, hs13.d0, hs13.d2, hs13.dw⟩ | go_keep)
                      (first
                        | (go_at_call 21; refine (mWeights_any g h n W2 _ _ _ X _ H12.out.mc).mono ?_; rintro e13 w13 ⟨q3, rfl, hb13, hq13, hf13⟩; have hs13 := H12.out.fresh hf13)
                        | (go_at_call 22; refine (alike_any _ _ 4 4 _ (l4 (W2 (pl X n))) _ (a4_row hb13) hs13.wrow (by omega)).mono ?_; rintro e14 w14 ⟨rfl, k14, rfl⟩; have hs14 := hs13.fresh ((Kept.refl (fun _ => False) _).drewN k14)))
                    have HF := Lib.hid hs14.both
                    clear hs14 hs13 hb13 hq13 hf13 c0 d0 d2 dw H12
                    go_wp2_with fail
                    go_roundw
                    case rel => exact ⟨j + 1, _, _, _, _, _, _, by omega, by omega, by go_num, HF.out⟩
                    case measure => simp [intOf]; omega
      · have hstop : ¬ ((j : Int) < (m : Int) ∧ (j : Int) < 200) := by omega
        have HT2 := Lib.hid hb
        clear hb
        go_wp2_with fail
        all_goals
          go_ret
          exact ⟨rfl, HT2.out.fr.toBelow⟩

set_option maxRecDepth 100000 in
theorem lifted (os : Os) (started : os.Started) (H : Type) (enc : TypeId × Value → H) :
    ReturnsInHanded {} Try.checked os 5 .any (Rows.mixPlaysSpec.pre6 enc Try.prog Try.f5 Rows.mixPlaysRow.domain false) (Rows.mixPlaysSpec.post enc Try.prog Try.f5 false true false false) := by
  refine returnsInHanded_of_change (C := Try.checked) Try.own started (by kernel_rfl) Try.func5
    (ChangeSpec.witness6 (enc := enc) (C := Try.checked) false ⟨#[], #[.int .i64 0, .slice none 0 0], []⟩ 8 (by kernel_rfl) (by kernel_rfl) (by kernel_rfl) (by kernel_rfl)) ?_
  intro W base args ds gs before hval0 hW hcnd _
  have hval : ∀ (j : Nat) t v, Try.f5.params[j]? = some t → args[j]? = some v → Value.okWide Try.prog W .any base t v := hval0
  have hpost : ∀ W', Below W.heap.size W W' → Rows.mixPlaysSpec.post enc Try.prog Try.f5 false true false false W args (.bool true) W' := fun W' hb =>
    law_post (by kernel_rfl) Try.underlying4 (by kernel_rfl) rfl (fun ds hl => match ds, hl with | [d1, d2], _ => ⟨rfl, rfl, rfl⟩) hW hb
  obtain ⟨p, q, hA0, hV, rfl, hfz, hnd⟩ := hW
  have hA : DataW.TrodAll enc Try.prog W 0 (fun _ => true) true Try.f5.params.toList args.toList ds p := hA0
  rw [Try.params5] at hA hval
  obtain ⟨v0, vs0, d0, ds0, p0, q0, hargs, rfl, rfl, h0, r0⟩ := trodAll_cons hA
  obtain ⟨v1, vs1, d1, ds1, p1, q1, rfl, rfl, rfl, h1, r1⟩ := trodAll_cons r0
  obtain ⟨rfl, rfl, rfl⟩ := trodAll_nil r1
  obtain rfl : args = #[v0, v1] := by cases args; simp_all
  obtain ⟨a0, rfl, rfl, rfl, w0⟩ := open_int Try.underlying3 (hval 0 3 v0 rfl rfl) h0
  obtain ⟨A1, n1, c1, rfl, _, hn1, hL⟩ := open_ops (hval 1 27 v1 rfl rfl) h1
  refine (walk a0 A1 n1 c1 W hL hn1).mono fun e W' ⟨he, hb⟩ => ⟨_, he, hpost W' hb⟩

/-- The statement. -/
theorem proved : Rows.MixPlaysSaid :=
  OpenClaim.holds_of_wide 5 Try.f5 rfl rfl rfl rfl rfl rfl rfl ⟨rfl, rfl, rfl, rfl, rfl⟩ rfl rfl rfl rfl rfl (by kernel_rfl) Try.func5 (by kernel_rfl)
    (of_decide_eq_true (by kernel_rfl)) (by unfold Func.isWrapper; first | (rw [if_pos (by decide +kernel)]; kernel_rfl) | (rw [if_neg (by decide +kernel)]; exact ⟨rfl, rfl⟩))
    (fun os started H enc _ => lifted os started H enc)
#print axioms proved

end Go.Proofs.Ytoobikbglebboaa.mixPlays
