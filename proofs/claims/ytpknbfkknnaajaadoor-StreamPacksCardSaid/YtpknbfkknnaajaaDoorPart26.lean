/- Texts of this proof, one behind the other: StgQ, StgQNew. -/
import Derived.Test.YtpknbfkknnaajaaDoorPart14
import Derived.Test.YtpknbfkknnaajaaDoorPart23
import Derived.Deep.RegionLaw

/- The document's stage: New, At, Refine, Learn. -/
namespace Go.Proofs.YtpknbfkknnaajaaDoor
set_option maxRecDepth 100000
open Go.RowKit

attribute [local go_sem ↓] Go.wp_at_zero Go.wp_at_succ

/-- The document's stage at block g. -/
structure StR (w : World) (B g : Nat) (v : Value) (n : Nat) (Q C : Nat → Nat) (T : Nat → Nat → Int) (s k : Nat) (has : Bool) : Prop where
  blk : Blk w g 114 #[v, .int .i64 s, .int .i64 k, .bool has]
  lst : Lst 33 w B v n Q C T
  glo : B ≤ g
  pos : 0 < n
  le : n ≤ 1024
  bd : ∀ i k, 0 ≤ T i k ∧ T i k ≤ 65535
  qb : has = true → s < n ∧ k < 33

section
variable {w w' : World} {B g : Nat} {v : Value} {n : Nat} {Q C : Nat → Nat} {T : Nat → Nat → Int} {s k : Nat} {has : Bool}
theorem StR.kept {S : Nat → Prop} (m : StR w B g v n Q C T s k has) (hk : Kept S w w') (h1 : ¬ S g) (h2 : ∀ k, v.ownBlock = some k → ¬ S k) (h3 : ∀ i, i < n → ¬ S (Q i)) : StR w' B g v n Q C T s k has :=
  ⟨m.blk.kept hk h1, m.lst.kept hk h2 h3, m.glo, m.pos, m.le, m.bd, m.qb⟩
theorem StR.fresh (m : StR w B g v n Q C T s k has) (hk : Fresh w w') : StR w' B g v n Q C T s k has := m.kept hk id (fun _ _ => id) (fun _ _ => id)
theorem StR.drewN (m : StR w B g v n Q C T s k has) (j : Nat) : StR (w.drewN j) B g v n Q C T s k has := m.fresh ((Kept.refl _ w).drewN j)
/-- It stands as it stood, where a block of another type turns. -/
theorem StR.far {S : Nat → Prop} (m : StR w B g v n Q C T s k has) {b : Nat} {ty : TypeId} {cs : Array Value} (hk : Kept S w w') (hS : ∀ i, S i → i = b) (hb : Blk w b ty cs) (h1 : 114 ≠ ty) (h2 : 110 ≠ ty) (h3 : 3 ≠ ty) : StR w' B g v n Q C T s k has :=
  ⟨m.blk.kept hk (fun e => Blk.ne_ m.blk hb h1 (hS _ e)), m.lst.far hk hS hb h2 h3, m.glo, m.pos, m.le, m.bd, m.qb⟩
theorem StR.c0 (m : StR w B g v n Q C T s k has) : w.cell? ⟨g, 0, none⟩ = some v := m.blk.cell 0
theorem StR.c1 (m : StR w B g v n Q C T s k has) : w.cell? ⟨g, 1, none⟩ = some (.int .i64 s) := m.blk.cell 1
theorem StR.c2 (m : StR w B g v n Q C T s k has) : w.cell? ⟨g, 2, none⟩ = some (.int .i64 k) := m.blk.cell 2
theorem StR.c3 (m : StR w B g v n Q C T s k has) : w.cell? ⟨g, 3, none⟩ = some (.bool has) := m.blk.cell 3
/-- Its own block turns. -/
theorem StR.set (m : StR w B g v n Q C T s k has) {s' k' : Nat} {has' : Bool} (hk : Kept (fun j => j = g) w w') (hb : Blk w' g 114 #[v, .int .i64 s', .int .i64 k', .bool has']) (hq : has' = true → s' < n ∧ k' < 33) : StR w' B g v n Q C T s' k' has' :=
  ⟨hb, m.lst.far hk (fun _ h => h) m.blk (by decide) (by decide), m.glo, m.pos, m.le, m.bd, hq⟩
end


set_option maxHeartbeats 1600000 in
/-- Refine: P7.2. -/
theorem qsRefine_any (B g : Nat) (v : Value) (n : Nat) (Q C : Nat → Nat) (T : Nat → Nat → Int) (s0 k0 : Nat) (has : Bool) (c i : Int) (w : World) (m : StR w B g v n Q C T s0 k0 has) :
    Calls Tryd.prog 50 #[.pointer (some ⟨g, 0, none⟩), .int .i64 c, .int .i64 i] w fun e w' => e = .returned (.int .i64 (rd (T (pl i n)) (sx c))) ∧
      StR w' B g v n Q C T (pl i n) (nr (sx c)) true ∧ Kept (fun j => j = g) w w' := by
  obtain ⟨b, cap, rfl, hsl⟩ := m.lst.form m.pos
  have HR := Lib.hid (qRound_any n i · m.pos (by have := m.le; omega))
  have hp := pl_lt i m.pos
  have HM := Lib.hid m
  have c0 := m.c0
  have c1 := m.c1
  have c2 := m.c2
  have c3 := m.c3
  have f1 := m.blk.frozen 1
  have f2 := m.blk.frozen 2
  have f3 := m.blk.frozen 3
  clear m hsl
  generalize pl i n = p at *
  have hx := sx_bd c
  have hs := sx_int c
  have hr : rd (T p) (sx c) = mid (T p (sx c / 128)) (T p (sx c / 128 + 1)) (sx c % 128) := rfl
  generalize sx c = x at *
  have hnl := nr_lt hx.2
  have hn1 := nr_hi (x := x)
  have hn2 := nr_lo (x := x)
  have hq1 : (x : Int) / 128 = ((x / 128 : Nat) : Int) := by omega
  have hk : x / 128 < 32 := by omega
  have hv : x % 128 < 128 := by omega
  have ha := HM.out.bd p (x / 128)
  have hb := HM.out.bd p (x / 128 + 1)
  have hsum := mid_sum ha hb hv
  rw [hr]
  have hmi := mid_int2 ha hb hv
  have hq3 : (x : Int).tmod 128 = ((x % 128 : Nat) : Int) := by rw [Int.tmod_eq_emod_of_nonneg (by omega)]; omega
  clear hr
  generalize nr x = z at *
  generalize x / 128 = k at *
  generalize x % 128 = u at *
  generalize mid (T p k) (T p (k + 1)) u = t at *
  obtain ⟨hx1, hx2⟩ := hx
  obtain ⟨u1, u2, u3, u4, u5⟩ := hsum
  have HN := Lib.hid (And.intro hn1 hn2)
  clear hn1 hn2
  have k0' : (0 : Int) ≤ (k : Int) := by omega
  have k1 : (k : Int) < 33 := by omega
  have k2 : (0 : Int) ≤ (k : Int) + 1 := by omega
  have k3 : (k : Int) + 1 < 33 := by omega
  have p0 : (0 : Int) ≤ (p : Int) := by omega
  have p1 : (p : Int) < (n : Int) := by omega
  have hb1 : Blk (((w.setCell ⟨g, 1, none⟩ (.int .i64 p)).setCell ⟨g, 2, none⟩ (.int .i64 k)).setCell ⟨g, 3, none⟩ (.bool true)) g 114 #[.slice (some ⟨b, 0, none⟩) n cap, .int .i64 p, .int .i64 k, .bool true] := by
    simpa using ((HM.out.blk.set_ 1 (.int .i64 p)).set_ 2 (.int .i64 k)).set_ 3 (.bool true)
  have hk1 : Kept (fun j => j = g) w (((w.setCell ⟨g, 1, none⟩ (.int .i64 p)).setCell ⟨g, 2, none⟩ (.int .i64 k)).setCell ⟨g, 3, none⟩ (.bool true)) := (((Kept.refl (fun j => j = g) w).setCell (p := ⟨g, 1, none⟩) (fun _ => rfl) _).setCell (p := ⟨g, 2, none⟩) (fun _ => rfl) _).setCell (p := ⟨g, 3, none⟩) (fun _ => rfl) _
  have H1 := Lib.hid (And.intro hb1 hk1)
  clear hb1 hk1
  have hge : u < 64 ∨ 64 ≤ u := by omega
  rcases hge with hge | hge
  · have hzz := HN.out.2 hge
    have hd : ¬ (64 : Int) ≤ (u : Int) := by omega
    have H2 := Lib.hid (And.intro (HM.out.set H1.out.2 H1.out.1 (fun _ => ⟨hp, by omega⟩)) H1.out.2)
    go_enter Tryd.func50, Tryd.ntmps50
    go_wp2_with fail
    refine (qStretch_any c _).mono ?_
    rintro e w2 ⟨rfl, rfl⟩
    go_wp2_with fail
    refine (HR.out _).mono ?_
    rintro e w3 ⟨rfl, rfl⟩
    go_wp2_with fail
    have d0 := H2.out.1.c0
    have d1 := H2.out.1.c1
    have d2 := H2.out.1.lst.slot hp
    have d3 := H2.out.1.lst.cell hp (show k < 33 by omega)
    have d4 := H2.out.1.lst.cell hp (show k + 1 < 33 by omega)
    generalize ((w3.setCell ⟨g, 1, none⟩ (.int .i64 p)).setCell ⟨g, 2, none⟩ (.int .i64 k)).setCell ⟨g, 3, none⟩ (.bool true) = w4 at *
    clear c0 c1 c2 c3 f1 f2 f3 H1
    go_quiet (fail)
    have D3 : (w4.drewN nq).cell? ⟨Q p, k, none⟩ = some (.int .i64 (T p k)) := d3
    have D4 : (w4.drewN nq).cell? ⟨Q p, k + 1, none⟩ = some (.int .i64 (T p (k + 1))) := d4
    have H4 : Hid (StR (w4.drewN nq).drew B g _ n Q C T p k true ∧ Kept (fun j => j = g) w3 (w4.drewN nq).drew) := Lib.hid ⟨(H2.out.1.drewN nq).drewN 1, (H2.out.2.drewN nq).drewN 1⟩
    clear d0 d1 d2 d3 d4 H2
    generalize w4.drewN nq = w5 at *
    generalize T p k = a at *
    generalize T p (k + 1) = b2 at *
    obtain ⟨a0, a1⟩ := ha
    obtain ⟨b0, b1⟩ := hb
    have kk : ((k : Int) + 1).toNat = k + 1 := by omega
    go_wp2_with fail
    have e1 : IntKind.i64.wrap (128 - (u : Int)) = 128 - (u : Int) := IntWalk.i64_in _ (by omega)
    have e2 : IntKind.i64.wrap (a * (128 - (u : Int))) = a * (128 - (u : Int)) := IntWalk.i64_in _ (by omega)
    have e3 : IntKind.i64.wrap ((k : Int) + 1) = (k : Int) + 1 := IntWalk.i64_in _ (by omega)
    have e4 : IntKind.i64.wrap (b2 * (u : Int)) = b2 * (u : Int) := IntWalk.i64_in _ (by omega)
    have e5 : IntKind.i64.wrap (a * (128 - (u : Int)) + b2 * (u : Int)) = a * (128 - (u : Int)) + b2 * (u : Int) := IntWalk.i64_in _ (by omega)
    go_still_tail 18, (by kernel_rfl)
    change wpList _ _ _ _ _ w5.drew
    clear e1 e2 e3 e4 e5
    go_wp2_with fail
    go_ret
    rw [hzz]
    exact ⟨rfl, H4.out.1, H4.out.2⟩
  · have hzz := HN.out.1 hge
    have hd : (64 : Int) ≤ (u : Int) := by omega
    have hb2 : Blk ((((w.setCell ⟨g, 1, none⟩ (.int .i64 p)).setCell ⟨g, 2, none⟩ (.int .i64 k)).setCell ⟨g, 3, none⟩ (.bool true)).setCell ⟨g, 2, none⟩ (.int .i64 ((k : Int) + 1))) g 114 #[.slice (some ⟨b, 0, none⟩) n cap, .int .i64 p, .int .i64 ((k + 1 : Nat) : Int), .bool true] := by
      simpa using H1.out.1.set_ 2 (.int .i64 ((k : Int) + 1))
    have hk2 : Kept (fun j => j = g) w ((((w.setCell ⟨g, 1, none⟩ (.int .i64 p)).setCell ⟨g, 2, none⟩ (.int .i64 k)).setCell ⟨g, 3, none⟩ (.bool true)).setCell ⟨g, 2, none⟩ (.int .i64 ((k : Int) + 1))) := H1.out.2.setCell (p := ⟨g, 2, none⟩) (fun _ => rfl) _
    have H2 := Lib.hid (And.intro (HM.out.set hk2 hb2 (fun _ => ⟨hp, by omega⟩)) hk2)
    clear hb2 hk2
    go_enter Tryd.func50, Tryd.ntmps50
    go_wp2_with fail
    refine (qStretch_any c _).mono ?_
    rintro e w2 ⟨rfl, rfl⟩
    go_wp2_with fail
    refine (HR.out _).mono ?_
    rintro e w3 ⟨rfl, rfl⟩
    go_wp2_with fail
    have d0 := H2.out.1.c0
    have d1 := H2.out.1.c1
    have d2 := H2.out.1.lst.slot hp
    have d3 := H2.out.1.lst.cell hp (show k < 33 by omega)
    have d4 := H2.out.1.lst.cell hp (show k + 1 < 33 by omega)
    generalize (((w3.setCell ⟨g, 1, none⟩ (.int .i64 p)).setCell ⟨g, 2, none⟩ (.int .i64 k)).setCell ⟨g, 3, none⟩ (.bool true)).setCell ⟨g, 2, none⟩ (.int .i64 ((k : Int) + 1)) = w4 at *
    clear c0 c1 c2 c3 f1 f2 f3 H1
    go_quiet (fail)
    have D3 : (w4.drewN nq).cell? ⟨Q p, k, none⟩ = some (.int .i64 (T p k)) := d3
    have D4 : (w4.drewN nq).cell? ⟨Q p, k + 1, none⟩ = some (.int .i64 (T p (k + 1))) := d4
    have H4 : Hid (StR (w4.drewN nq).drew B g _ n Q C T p (k + 1) true ∧ Kept (fun j => j = g) w3 (w4.drewN nq).drew) := Lib.hid ⟨(H2.out.1.drewN nq).drewN 1, (H2.out.2.drewN nq).drewN 1⟩
    clear d0 d1 d2 d3 d4 H2
    generalize w4.drewN nq = w5 at *
    generalize T p k = a at *
    generalize T p (k + 1) = b2 at *
    obtain ⟨a0, a1⟩ := ha
    obtain ⟨b0, b1⟩ := hb
    have kk : ((k : Int) + 1).toNat = k + 1 := by omega
    go_wp2_with fail
    have e1 : IntKind.i64.wrap (128 - (u : Int)) = 128 - (u : Int) := IntWalk.i64_in _ (by omega)
    have e2 : IntKind.i64.wrap (a * (128 - (u : Int))) = a * (128 - (u : Int)) := IntWalk.i64_in _ (by omega)
    have e3 : IntKind.i64.wrap ((k : Int) + 1) = (k : Int) + 1 := IntWalk.i64_in _ (by omega)
    have e4 : IntKind.i64.wrap (b2 * (u : Int)) = b2 * (u : Int) := IntWalk.i64_in _ (by omega)
    have e5 : IntKind.i64.wrap (a * (128 - (u : Int)) + b2 * (u : Int)) = a * (128 - (u : Int)) + b2 * (u : Int) := IntWalk.i64_in _ (by omega)
    go_still_tail 18, (by kernel_rfl)
    change wpList _ _ _ _ _ w5.drew
    clear e1 e2 e3 e4 e5
    go_wp2_with fail
    go_ret
    rw [hzz]
    exact ⟨rfl, H4.out.1, H4.out.2⟩

set_option maxHeartbeats 1600000 in
/-- Learn: P7.2. -/
theorem qsLearn_any (B g : Nat) (v : Value) (n : Nat) (Q C : Nat → Nat) (T : Nat → Nat → Int) (s k : Nat) (b r : Int) (w : World) (m : StR w B g v n Q C T s k true) :
    Calls Tryd.prog 53 #[.pointer (some ⟨g, 0, none⟩), .int .i64 b, .int .i64 r] w fun e w' => e = .returned (.tuple #[]) ∧
      StR w' B g v n Q C (gput T s k (lr (b != 0) (rt r) (T s k))) s k true ∧ Kept (fun j => j = Q s) w w' := by
  obtain ⟨bb, cap, rfl, hsl⟩ := m.lst.form m.pos
  obtain ⟨hs, hk⟩ := m.qb rfl
  have c0 := m.c0
  have c1 := m.c1
  have c2 := m.c2
  have c3 := m.c3
  have c4 := hsl s hs
  have c5 := m.lst.cell hs hk
  have f5 := m.lst.frozen hs k
  have hb := m.bd s k
  have hl := lr_bd (b != 0) (rt r) hb
  have hgq : Q s ≠ g := by
    obtain ⟨cs', hq⟩ := m.lst.blk hs
    exact Blk.ne_ hq m.blk (by decide)
  have HM : Hid (∀ x, 0 ≤ x ∧ x ≤ 65535 → ∀ N, StR ((w.drewN N).setCell ⟨Q s, k, none⟩ (.int .i64 x)) B g (.slice (some ⟨bb, 0, none⟩) n cap) n Q C (gput T s k x) s k true ∧ Kept (fun j => j = Q s) w ((w.drewN N).setCell ⟨Q s, k, none⟩ (.int .i64 x))) :=
    Lib.hid fun x hx N => ⟨⟨(m.drewN N).blk.far (by exact fun e => hgq e.symm) _, (m.drewN N).lst.stored hs x, m.glo, m.pos, m.le, gput_bd m.bd hx, m.qb⟩, ((Kept.refl (fun j => j = Q s) w).drewN N).setCell (p := ⟨Q s, k, none⟩) (fun _ => rfl) _⟩
  have hr := rt_int2 r
  have hrb := rt_bd r
  obtain ⟨j, hj⟩ : ∃ j, rt r = j := ⟨_, rfl⟩
  obtain ⟨one, hone⟩ : ∃ one, (b != 0) = one := ⟨_, rfl⟩
  rw [hj] at hr hrb hl ⊢
  rw [hone] at hl ⊢
  clear hj m hsl
  have H2 := Lib.hid (HM.out _ hl)
  clear HM
  generalize T s k = x at *
  obtain ⟨b0, b1⟩ := hb
  have s0 : (0 : Int) ≤ (s : Int) := by omega
  have s1 : (s : Int) < (n : Int) := by omega
  have k0 : (0 : Int) ≤ (k : Int) := by omega
  have k1 : (k : Int) < 33 := by omega
  cases one
  · rw [lr_zero, Int.zero_sub] at *
    have hd := (shr_bd (a := -x) j).2 (by omega)
    go_enter Tryd.func53, Tryd.ntmps53
    go_wp2_with fail
    go_quiet (fail)
    have C2 : (w.drewN nq).cell? ⟨g, 2, none⟩ = some (.int .i64 k) := c2
    have C5 : (w.drewN nq).cell? ⟨Q s, k, none⟩ = some (.int .i64 x) := c5
    have F5 : (w.drewN nq).frozen? ⟨Q s, k, none⟩ = false := f5
    have H3 := Lib.hid (H2.out (nq + 1))
    rw [← World.drewN_drewN] at H3
    clear c0 c1 c2 c3 c4 c5 f5 H2
    generalize w.drewN nq = w5 at *
    go_wp2_with fail
    have e1 : IntKind.i64.wrap (-x) = -x := IntWalk.i64_in _ (by omega)
    have e2 : IntKind.i64.wrap (x + -x / 2 ^ j) = x + -x / 2 ^ j := IntWalk.i64_in _ (by omega)
    go_still_tail 28, (by kernel_rfl)
    change wpList _ _ _ _ _ w5.drew
    clear e1 e2
    go_wp2_with fail
    go_end0
    have e4 : wrap64 (x + -x / 2 ^ min j 64) = x + -x / 2 ^ j := by rw [Nat.min_eq_left (by omega)]; exact IntWalk.wrap64_in _ ⟨by omega, by omega⟩
    rw [e4]
    exact ⟨rfl, H3.out.1, H3.out.2⟩
  · rw [lr_one] at *
    have hd := (shr_bd (a := 65535 - x) j).1 (by omega)
    go_enter Tryd.func53, Tryd.ntmps53
    go_wp2_with fail
    go_quiet (fail)
    have C2 : (w.drewN nq).cell? ⟨g, 2, none⟩ = some (.int .i64 k) := c2
    have C5 : (w.drewN nq).cell? ⟨Q s, k, none⟩ = some (.int .i64 x) := c5
    have F5 : (w.drewN nq).frozen? ⟨Q s, k, none⟩ = false := f5
    have H3 := Lib.hid (H2.out (nq + 1))
    rw [← World.drewN_drewN] at H3
    clear c0 c1 c2 c3 c4 c5 f5 H2
    generalize w.drewN nq = w5 at *
    go_wp2_with fail
    have e1 : IntKind.i64.wrap (65535 - x) = 65535 - x := IntWalk.i64_in _ (by omega)
    have e2 : IntKind.i64.wrap (x + (65535 - x) / 2 ^ j) = x + (65535 - x) / 2 ^ j := IntWalk.i64_in _ (by omega)
    go_still_tail 28, (by kernel_rfl)
    change wpList _ _ _ _ _ w5.drew
    clear e1 e2
    go_wp2_with fail
    go_end0
    have e4 : wrap64 (x + (65535 - x) / 2 ^ min j 64) = x + (65535 - x) / 2 ^ j := by rw [Nat.min_eq_left (by omega)]; exact IntWalk.wrap64_in _ ⟨by omega, by omega⟩
    rw [e4]
    exact ⟨rfl, H3.out.1, H3.out.2⟩

end Go.Proofs.YtpknbfkknnaajaaDoor

/- The document's stage: New. -/
namespace Go.Proofs.YtpknbfkknnaajaaDoor
set_option maxRecDepth 100000
open Go.RowKit

attribute [local go_sem ↓] Go.wp_at_zero Go.wp_at_succ

set_option maxHeartbeats 1600000 in
/-- New: P7.1. -/
theorem qsNew_any (n : Int) (w : World) : Calls Tryd.prog 41 #[.int .i64 n] w fun e w' => ∃ g v Q C, e = .returned (.pointer (some ⟨g, 0, none⟩)) ∧ StR w' w.heap.size g v (nc n) Q C (fun _ => fs) 0 0 false ∧ Fresh w w' := by
  obtain ⟨i0, hi, hz0, hz1, hz2⟩ := info_parts Tryd.infoInts
  obtain ⟨j0, ki, kz0, kz1, kz2⟩ := info_parts Tryd.infoInt3
  have hk := nc_int2 n
  have hb := nc_bd n
  generalize nc n = m at *
  go_enter Tryd.func41, Tryd.ntmps41
  go_wp2_with fail
  go_loopw [4] (fun i wr => ∃ (r : Nat) (v : Value) (Q C : Nat → Nat), r ≤ m ∧ i = .int .i64 r ∧ Blk wr w.heap.size 114 #[v, .int .i64 0, .int .i64 0, .bool false] ∧ Lst 33 wr w.heap.size v r Q C (fun _ => fs) ∧ Fresh w wr) (fun i _ => (m - intOf i).toNat)
  case atStart => exact ⟨0, .slice none 0 0, fun _ => 0, fun _ => 0, by omega, rfl, Blk.new _ _ _, Lst.nil _ _ _ _ _ _, (Kept.refl _ _).alloc _⟩
  case round =>
    obtain ⟨r, v, Q, C, hr, rfl, hbk, hrw, hf⟩ := hrel
    have HW := Lib.hid (And.intro hbk (And.intro hrw hf))
    by_cases hlt : r < m
    · clear hbk hrw hf
      obtain ⟨w0, rfl⟩ : ∃ w0, w0 = wr := ⟨_, rfl⟩
      go_wp2_with fail
      go_loopw [5, 6] (fun x i wq => ∃ (k : Nat) (u : Value), k ≤ 33 ∧ i = .int .i64 k ∧ u = x ∧ Own wq 3 .i64 u (lm k fs) ∧ (∀ b, u.ownBlock = some b → w0.heap.size ≤ b) ∧ Fresh w0 wq) (fun _ i _ => (33 - intOf i).toNat)
      case atStart => exact ⟨0, _, by omega, rfl, rfl, Own.nil _ _ _, (fun k h => by cases h), Kept.refl _ _⟩
      case round =>
        obtain ⟨k, u, hk4, rfl, rfl, ho, hu, hfq⟩ := hrel
        by_cases hlt2 : k < 33
        · have hl := lm_len k fs
          have hti := lm_succ k fs
          have hd : decide ((k : Int) < 33) = true := by simp; omega
          have hfs := fs_int k
          have hfb := fs_bd k
          have HQ := Lib.hid (qSquash_any (128 * ((k : Int) - 16)))
          generalize lm k fs = xs at *
          generalize fs k = y at *
          generalize sq (128 * ((k : Int) - 16)) = z at *
          have hz : 0 ≤ z ∧ z ≤ 4095 := by omega
          obtain ⟨z0, z1⟩ := hz
          have HH := Lib.hid (And.intro ho (And.intro hu (And.intro hfq (And.intro hti hl))))
          have k0 : (0 : Int) ≤ (k : Int) := by omega
          have k1 : (k : Int) ≤ 33 := by omega
          clear ho hu hfq hti hl
          go_wp2_with fail
          refine (HQ.out _).mono ?_
          rintro e w' ⟨rfl, rfl⟩
          go_wp2_with (at_builtin; refine wpList_append_lies _ rfl (.tmp 20) (.tmp 26) 110 rfl 0 3 j0 (.int .i64 0) 1 8 Tryd.underlying110 ki kz0 kz1 kz2 rfl (by decide) _ xs.length (ivs .i64 xs) rfl (World.ownsRow.alloc HH.out.1 _) ⟨w'.heap.size, 0, none⟩ 1 1 (ivs .i64 [y]) rfl rfl (cell_one_new _ _ _) (ivs_one _ _) (by decide) (by have := HH.out.2.2.2.2; unfold maxLen; omega) (by have := HH.out.2.2.2.2; omega) (by omega) (w'.heap.size + 1) (by simp) ?_)
          intro q cap w4 hown4 hgrow hat hlt4
          have ho4 : Own w4 3 .i64 (.slice (some ⟨q, 0, none⟩) (xs.length + 1) cap) (lm (k + 1) fs) := by
            have := Own.of_append hown4 rfl
            rw [HH.out.2.2.2.1]
            exact this
          have hq : w0.heap.size ≤ q := by
            rcases hat with e | e
            · exact HH.out.2.1 q e
            · have := HH.out.2.2.1.size; omega
          have hf4 : Fresh w0 w4 := Kept.grown (HH.out.2.2.1.alloc _) hgrow fun k e hlt' => by have := HH.out.2.1 k e; omega
          have H4 := Lib.hid (And.intro ho4 (And.intro hq hf4))
          clear ho4 hq hf4 hown4 hgrow hat
          go_wp2_with fail
          go_roundw
          case rel => exact ⟨k + 1, _, by omega, by go_num, rfl, H4.out.1, fun b hb' => by
            have : q = b := by simpa [Value.ownBlock] using hb'
            have := H4.out.2.1; omega, H4.out.2.2⟩
          case measure => simp [intOf]; omega
        · obtain rfl : k = 33 := by omega
          obtain ⟨q, cu, rfl, hqlt⟩ := ho.form (by decide)
          have hqlo := hu q rfl
          have HA := Lib.hid (And.intro (HW.out.1.kept hfq id) (And.intro (HW.out.2.1.fresh hfq) (HW.out.2.2.trans hfq (fun _ _ h => h))))
          have HO := Lib.hid (And.intro ho (And.intro hqlo (fun i (hi : i < r) (e : Q i = q) => (by have := HW.out.2.1.lt hi; omega : False))))
          have hqw : w.heap.size ≤ q := Nat.le_trans HW.out.2.2.size hqlo
          clear ho hu hfq
          have c0 : wr.cell? ⟨w.heap.size, 0, none⟩ = some v := HA.out.1.cell 0
          have hvn := Own.ne_blk2 HA.out.2.1.own HA.out.1 (by decide)
          have one1 : ∀ u ∈ [Value.slice (some ⟨q, 0, none⟩) 33 cu], u.oneCell' = true := fun u hu => by
            simp at hu; subst hu; rfl
          have HV := Lib.hid (And.intro hvn one1)
          clear hvn one1 HW hqlt hqlo
          rw [lm_len]
          go_wp2_with (at_builtin; refine wpList_append_lies _ rfl (.tmp 32) (.tmp 34) 109 rfl 0 110 i0 (.slice none 0 0) 1 24 Tryd.underlying109 hi hz0 hz1 hz2 rfl (by decide) v r (lvs 33 Q C r) rfl (World.ownsRow.alloc HA.out.2.1.own _) ⟨wr.heap.size, 0, none⟩ 1 1 [.slice (some ⟨q, 0, none⟩) 33 cu] rfl rfl (cell_one_new _ _ _) HV.out.2 (by decide) (by unfold maxLen; omega) (by omega) (by omega) (wr.heap.size + 1) (by simp) ?_)
          intro g cap w4 hown4 hgrow hat hlt4
          have hgb : w.heap.size ≤ g := by
            rcases hat with e | e
            · exact HA.out.2.1.vlo g e
            · have := HA.out.2.2.size; omega
          have hb4 := (HA.out.1.alloc (.cells #[.slice (some ⟨q, 0, none⟩) 33 cu] 110)).grown hgrow (fun e => HV.out.1 e.symm)
          have hrw1 := HA.out.2.1.fresh ((Kept.refl (fun _ => False) wr).alloc (.cells #[.slice (some ⟨q, 0, none⟩) 33 cu] 110))
          have hr4 := hrw1.snoc hgrow hown4 (by simpa [lm_len] using HO.out.1.alloc _) hqw HO.out.2.2 hgb (by
            intro e
            rcases HO.out.1.2 with ⟨h', _⟩ | ⟨q', cap', cur, h', _, hg', _⟩
            · cases h'
            · simp only [Value.slice.injEq, Option.some.injEq, Addr.mk.injEq, and_true] at h'
              rw [h'.1] at e
              exact Own.ne_blk2 HA.out.2.1.own hg' (by decide) e)
          have hf4 : Fresh w w4 := Kept.grown (HA.out.2.2.alloc _) hgrow fun k e hlt' => by have := HA.out.2.1.vlo k e; omega
          have c4 : w4.cell? ⟨w.heap.size, 0, none⟩ = some v := hb4.cell 0
          have f4 := hb4.frozen 0
          have hk4 : Kept (fun j => j = w.heap.size) w4 (w4.setCell ⟨w.heap.size, 0, none⟩ (.slice (some ⟨g, 0, none⟩) (r + 1) cap)) := (Kept.refl (fun j => j = w.heap.size) w4).setCell (p := ⟨w.heap.size, 0, none⟩) (fun _ => rfl) _
          have hr5 := hr4.far hk4 (fun _ h => h) hb4 (by decide) (by decide)
          have H4 := Lib.hid (And.intro hb4 (And.intro hr5 hf4))
          clear hb4 hr4 hf4 hown4 hgrow hat hrw1 c0 hk4 hr5
          go_wp2_with fail
          go_roundw
          case rel => exact ⟨r + 1, _, _, _, by omega, by go_num, by simpa using H4.out.1.set_ 0 (.slice (some ⟨g, 0, none⟩) (r + 1) cap), H4.out.2.1, H4.out.2.2.setCell (p := ⟨w.heap.size, 0, none⟩) (fun h => by have h' : w.heap.size < w.heap.size := h; omega) _⟩
          case measure => simp [intOf]; omega
    · obtain rfl : r = m := by omega
      clear hbk hrw hf
      go_wp2_with fail
      go_ret
      exact ⟨_, v, Q, C, rfl, ⟨HW.out.1, HW.out.2.1, Nat.le_refl _, by omega, by omega, fun _ k => by have := fs_bd k; omega, fun h => by cases h⟩, HW.out.2.2⟩

end Go.Proofs.YtpknbfkknnaajaaDoor
