/- StagePlays: whatever is refined and learnt, in whatever contexts: what is told, and all steps, are what the document says; for every number of contexts, every list of operations, every context and step. No conditions. -/
import Derived.Test.YtgjgfakdmpcggaaStgAw
import Derived.Test.YtgjgfakdmpcggaaStgQNew
import Derived.Test.YtgjgfakdmpcggaaLaw
namespace Go.Proofs.Ytgjgfakdmpcggaa.stagePlays
open Go.ChangeShapes Go.WideShapes Go.ChangeAt Go.RowKit

attribute [local go_sem ↓] Go.wp_at_zero Go.wp_at_succ

/-- The slice at S reads as operations. -/
def OpL (w : World) (S : Option Addr) (m : Nat) : Prop :=
  ∀ i, i < m → ∃ (b o : Nat) (x y z r : Int), S = some ⟨b, o, none⟩ ∧ b < w.heap.size ∧
    w.cell? ⟨b, o + i * 4, none⟩ = some (.int .i64 x) ∧ w.cell? ⟨b, o + i * 4 + 1, none⟩ = some (.int .i64 y) ∧ w.cell? ⟨b, o + i * 4 + 2, none⟩ = some (.int .i64 z) ∧ w.cell? ⟨b, o + i * 4 + 3, none⟩ = some (.int .i64 r)

theorem open_ops {H : Type} {enc : TypeId × Value → H} {W : World} {base : Nat} {v : Value} {d : DataW H} {p : List MemPlace}
    (hv : Value.okWide Try.prog W .any base 22 v) (h : DataW.Trod enc Try.prog W 0 (fun _ => true) true 22 v d p) :
    ∃ A n c, v = .slice A n c ∧ (A = none → c = 0) ∧ n ≤ maxLen ∧ OpL W A n := by
  obtain ⟨S, m, c, rfl, hnil, hm, hs⟩ := open_recs Try.underlying22 Try.underlying30 (by kernel_rfl) (by kernel_rfl) hv h
  refine ⟨S, m, c, rfl, hnil, hm, fun i hi => ?_⟩
  obtain ⟨b, o, u0, y0, m0, rfl, hb, hc0, ht0⟩ := hs i hi 0 _ rfl
  obtain ⟨b1, o1, u1, y1, m1, e1, _, hc1, ht1⟩ := hs i hi 1 _ rfl
  injection e1 with e1; injection e1 with e1 e1'; subst e1; subst e1'
  obtain ⟨b2, o2, u2, y2, m2, e2, _, hc2, ht2⟩ := hs i hi 2 _ rfl
  injection e2 with e2; injection e2 with e2 e2'; subst e2; subst e2'
  obtain ⟨b3, o3, u3, y3, m3, e3, _, hc3, ht3⟩ := hs i hi 3 _ rfl
  injection e3 with e3; injection e3 with e3 e3'; subst e3; subst e3'
  obtain ⟨X, hX, _, _⟩ := DataW.trod_int Try.underlying3 ht0
  obtain ⟨Y, hY, _, _⟩ := DataW.trod_int Try.underlying3 ht1
  obtain ⟨Z, hZ, _, _⟩ := DataW.trod_int Try.underlying3 ht2
  obtain ⟨R, hR, _, _⟩ := DataW.trod_int Try.underlying3 ht3
  simp only [List.cons.injEq, and_true] at hX hY hZ hR
  subst hX; subst hY; subst hZ; subst hR
  exact ⟨b, o, X, Y, Z, R, rfl, hb, hc0, hc1, hc2, hc3⟩

/-- The code's stage and the document's, made behind w; T, q: the code's; T', s, k, has: the document's. -/
structure Sc (w : World) (g h g2 : Nat) (v : Value) (n : Nat) (Q C : Nat → Nat) (V : World) (T : Nat → Nat → Int) (q : Option (Nat × Nat)) (T' : Nat → Nat → Int) (s k : Nat) (has : Bool) : Prop where
  mc : Stg V g h n T q
  mr : StR V w.heap.size g2 v n Q C T' s k has
  fr : Fresh w V
  hg : w.heap.size ≤ g
  hh : w.heap.size ≤ h

section
variable {w : World} {g h g2 : Nat} {v : Value} {n : Nat} {Q C : Nat → Nat} {V V' : World} {T : Nat → Nat → Int} {q : Option (Nat × Nat)} {T' : Nat → Nat → Int} {s k : Nat} {has : Bool}
theorem Sc.fresh (a : Sc w g h g2 v n Q C V T q T' s k has) (hk : Fresh V V') : Sc w g h g2 v n Q C V' T q T' s k has :=
  ⟨a.mc.kept hk id id, a.mr.fresh hk, a.fr.trans hk (fun _ _ h => h), a.hg, a.hh⟩
theorem Sc.drewN (a : Sc w g h g2 v n Q C V T q T' s k has) (j : Nat) : Sc w g h g2 v n Q C (V.drewN j) T q T' s k has := a.fresh ((Kept.refl _ _).drewN j)
/-- The code's stage alone has turned, at its own block. -/
theorem Sc.turned (a : Sc w g h g2 v n Q C V T q T' s k has) {T2 : Nat → Nat → Int} {q2 : Option (Nat × Nat)} (hm : Stg V' g h n T2 q2) (hk : Kept (fun j => j = g) V V') : Sc w g h g2 v n Q C V' T2 q2 T' s k has :=
  ⟨hm, a.mr.far hk (fun _ h => h) a.mc.blk (by decide) (by decide) (by decide), a.fr.trans hk (fun i hi e => by have := a.hg; omega), a.hg, a.hh⟩
/-- .. at its steps' block. -/
theorem Sc.stepped (a : Sc w g h g2 v n Q C V T q T' s k has) {T2 : Nat → Nat → Int} {q2 : Option (Nat × Nat)} (hm : Stg V' g h n T2 q2) (hk : Kept (fun j => j = h) V V') : Sc w g h g2 v n Q C V' T2 q2 T' s k has :=
  ⟨hm, a.mr.far hk (fun _ h => h) a.mc.steps (by decide) (by decide) (by decide), a.fr.trans hk (fun i hi e => by have := a.hh; omega), a.hg, a.hh⟩
/-- The document's has turned, at its own block. -/
theorem Sc.turnedR (a : Sc w g h g2 v n Q C V T q T' s k has) {T2 : Nat → Nat → Int} {s2 k2 : Nat} {has2 : Bool} (hm : StR V' w.heap.size g2 v n Q C T2 s2 k2 has2) (hk : Kept (fun j => j = g2) V V') : Sc w g h g2 v n Q C V' T q T2 s2 k2 has2 :=
  ⟨a.mc.kept hk (Blk.ne_ a.mc.blk a.mr.blk (by decide)) (Blk.ne_ a.mc.steps a.mr.blk (by decide)), hm, a.fr.trans hk (fun i hi e => by have := a.mr.glo; omega), a.hg, a.hh⟩
/-- .. at a list's block. -/
theorem Sc.steppedR (a : Sc w g h g2 v n Q C V T q T' s k has) (hs : s < n) {T2 : Nat → Nat → Int} {s2 k2 : Nat} {has2 : Bool} (hm : StR V' w.heap.size g2 v n Q C T2 s2 k2 has2) (hk : Kept (fun j => j = Q s) V V') : Sc w g h g2 v n Q C V' T q T2 s2 k2 has2 := by
  obtain ⟨cs', hb⟩ := a.mr.lst.blk hs
  exact ⟨a.mc.kept hk (Blk.ne_ a.mc.blk hb (by decide)) (Blk.ne_ a.mc.steps hb (by decide)), hm, a.fr.trans hk (fun i hi e => by have := a.mr.lst.lo s hs; omega), a.hg, a.hh⟩
/-- An operation's block stands. -/
theorem Sc.opT (a : Sc w g h g2 v n Q C V T q T' s k has) {ob : Nat} {cs : Array Value} (ho : Blk V ob 30 cs) (hk : Kept (fun j => j = g) V V') : Blk V' ob 30 cs := ho.kept hk (Blk.ne_ ho a.mc.blk (by decide))
theorem Sc.opS (a : Sc w g h g2 v n Q C V T q T' s k has) {ob : Nat} {cs : Array Value} (ho : Blk V ob 30 cs) (hk : Kept (fun j => j = h) V V') : Blk V' ob 30 cs := ho.kept hk (Blk.ne_ ho a.mc.steps (by decide))
theorem Sc.opTR (a : Sc w g h g2 v n Q C V T q T' s k has) {ob : Nat} {cs : Array Value} (ho : Blk V ob 30 cs) (hk : Kept (fun j => j = g2) V V') : Blk V' ob 30 cs := ho.kept hk (Blk.ne_ ho a.mr.blk (by decide))
theorem Sc.opSR (a : Sc w g h g2 v n Q C V T q T' s k has) (hs : s < n) {ob : Nat} {cs : Array Value} (ho : Blk V ob 30 cs) (hk : Kept (fun j => j = Q s) V V') : Blk V' ob 30 cs := by
  obtain ⟨cs', hb⟩ := a.mr.lst.blk hs
  exact ho.kept hk (Blk.ne_ ho hb (by decide))
end

/-- Between two rounds. -/
def Mids (w : World) (g h g2 : Nat) (v : Value) (n : Nat) (Q C : Nat → Nat) (V : World) : Prop := ∃ (T : Nat → Nat → Int) (q : Option (Nat × Nat)) (s k : Nat) (has : Bool), Sc w g h g2 v n Q C V T q T s k has

set_option maxRecDepth 100000 in
set_option maxHeartbeats 3200000 in
theorem walk (n0 : Int) (A : Option Addr) (m c : Nat) (cx sx0 : Int) (w : World) (hA : OpL w A m) (hm : m ≤ maxLen) :
    Calls Try.prog 3 #[.int .i64 n0, .slice A m c, .int .i64 cx, .int .i64 sx0] w fun e w' => e = .returned (.bool true) ∧ Below w.heap.size w w' := by
  unfold maxLen at hm
  have HA := Lib.hid hA
  clear hA
  go_enter Try.func3, Try.ntmps3
  go_wp2_with fail
  all_goals
    refine (sNew_any _ _).mono ?_
    rintro e w1 ⟨g, h, rfl, hm1, hg, hh, hf1⟩
    go_wp2_with fail
    refine (qsNew_any _ _).mono ?_
    rintro e w2 ⟨g2, v, Q, C, rfl, hm2, hf2⟩
    have hb2 : Sc w g h g2 v _ Q C w2 (fun _ => fs) none (fun _ => fs) 0 0 false :=
      ⟨hm1.kept hf2 id id, ⟨hm2.blk, ⟨hm2.lst.own, hm2.lst.row, hm2.lst.inj, fun i hi => Nat.le_trans hf1.size (hm2.lst.lo i hi), fun k hk => Nat.le_trans hf1.size (hm2.lst.vlo k hk)⟩, Nat.le_trans hf1.size hm2.glo, hm2.pos, hm2.le, hm2.bd, hm2.qb⟩, hf1.trans hf2 (fun _ _ h => h), hg, hh⟩
    clear hm1 hm2 hf1 hf2 hg hh
    generalize nc _ = n at *
    have HB := Lib.hid hb2
    clear hb2
    go_wp2_with fail
    refine (awake_any _).mono ?_
    rintro e w3 ⟨rfl, hf3⟩
    have HB3 := Lib.hid (HB.out.fresh hf3)
    clear HB hf3
    go_wp2_with fail
    refine (sAt_any g h n _ _ cx sx0 _ HB3.out.mc).mono ?_
    rintro e w4 ⟨rfl, N, hN⟩
    have HB4 : Hid (Sc w g h g2 v n Q C w4 (fun _ => fs) none (fun _ => fs) 0 0 false) := Lib.hid (by rw [hN]; exact HB3.out.drewN N)
    clear hN HB3
    go_wp2_with fail
    refine (qsAt_any _ g2 v n Q C _ 0 0 false cx sx0 _ HB4.out.mr).mono ?_
    rintro e w5 ⟨rfl, N, hN⟩
    have HB5 : Hid (Mids w g h g2 v n Q C w5) := Lib.hid (by rw [hN]; exact ⟨_, _, _, _, _, HB4.out.drewN N⟩)
    clear hN HB4
    have hT : (fs (pl sx0 33) != fs (pl sx0 33)) = false := by simp
    go_wp2_with fail
    clear hT
    go_loopw [11] (fun i wr => ∃ (j : Nat), j ≤ m ∧ j ≤ 200 ∧ i = .int .i64 j ∧ Mids w g h g2 v n Q C wr) (fun i _ => (200 - intOf i).toNat)
    case atStart => exact ⟨0, by omega, by omega, rfl, HB5.out⟩
    case round =>
      obtain ⟨j, hj1, hj2, rfl, hb⟩ := hrel
      clear HB5
      by_cases hlt : j < m ∧ j < 200
      · obtain ⟨ha, hb0⟩ := hlt
        obtain ⟨sb, so, X, Y, Z, R, rfl, hsb, c0', c1', c2', c3'⟩ := HA.out j ha
        obtain ⟨T, q, s, k, has, hb⟩ := hb
        have c0 := (hb.fr.cell (p := ⟨sb, so + j * 4, none⟩) hsb id).trans c0'
        have c1 := (hb.fr.cell (p := ⟨sb, so + j * 4 + 1, none⟩) hsb id).trans c1'
        have c2 := (hb.fr.cell (p := ⟨sb, so + j * 4 + 2, none⟩) hsb id).trans c2'
        have c3 := (hb.fr.cell (p := ⟨sb, so + j * 4 + 3, none⟩) hsb id).trans c3'
        have hi0 : (0 : Int) ≤ (j : Int) := by omega
        have hi1 : (j : Int) < (m : Int) := by omega
        have hi2 : (j : Int) < 200 := by omega
        have hi3 : decide ((j : Int) < 200) = true := by simp; omega
        clear c0' c1' c2' c3'
        have hnew : Fresh wr (wr.alloc (.cells #[.int .i64 X, .int .i64 Y, .int .i64 Z, .int .i64 R] 30)) := (Kept.refl _ _).alloc _
        have hob : Blk (wr.alloc (.cells #[.int .i64 X, .int .i64 Y, .int .i64 Z, .int .i64 R] 30)) wr.heap.size 30 #[.int .i64 X, .int .i64 Y, .int .i64 Z, .int .i64 R] := Blk.new _ _ _
        have H1 := Lib.hid (And.intro (hb.fresh hnew) hob)
        clear hnew hob hb
        go_wp2_with fail
        generalize hob : wr.heap.size = ob at *
        generalize wr.alloc (.cells #[.int .i64 X, .int .i64 Y, .int .i64 Z, .int .i64 R] 30) = v1 at *
        clear c0 c1 c2 c3
        have c0 := H1.out.2.cell 0
        have c1 := H1.out.2.cell 1
        have H2 := Lib.hid (And.intro (H1.out.1.drewN 1) (H1.out.2.drew))
        have hT : (rd (T (pl Y n)) (sx X) != rd (T (pl Y n)) (sx X)) = false := by simp
        clear hob H1
        go_region_held3 (fun V => V.cell? ⟨ob, 0, none⟩ = some (.int .i64 X) ∧ V.cell? ⟨ob, 1, none⟩ = some (.int .i64 Y))
          (first | exact ⟨hs6.2.cell 0, hs6.2.cell 1⟩ | exact ⟨hs5.2.cell 0, hs5.2.cell 1⟩ | go_keep)
          (first
            | (go_at_call 11; refine (sRefine_any g h n T q X Y _ H2.out.1.mc).mono ?_; rintro e5 w5 ⟨rfl, hm5, hk5⟩; have hs5 := And.intro (H2.out.1.turned hm5 hk5) (H2.out.1.opT H2.out.2 hk5))
            | (go_at_call 12; refine (qsRefine_any _ g2 v n Q C T s k has X Y _ hs5.1.mr).mono ?_; rintro e6 w6 ⟨rfl, hm6, hk6⟩; have hs6 := And.intro (hs5.1.turnedR hm6 hk6) (hs5.1.opTR hs5.2 hk6)))
        have c2 := hs6.2.cell 2
        have c3 := hs6.2.cell 3
        have H7 := Lib.hid hs6
        clear hs6 hs5 hm5 hk5 hm6 hk6 c0 c1 H2 hT
        have hZ : Z = 0 ∨ Z = 1 ∨ (Z ≠ 0 ∧ Z ≠ 1) := by omega
        rcases hZ with hZ | hZ | ⟨hZ, hZ1⟩
        · have y0 : (Z == 0) = true := by simpa using hZ
          clear hZ
          go_wp2_with fail
          refine (sLearn_any g h n T _ _ Z R _ H7.out.1.mc).mono ?_
          rintro e w8 ⟨rfl, hm8, hk8⟩
          have hs8 := And.intro (H7.out.1.stepped hm8 hk8) (H7.out.1.opS H7.out.2 hk8)
          have c2 := hs8.2.cell 2
          have c3 := hs8.2.cell 3
          have H8 := Lib.hid hs8
          clear hs8 hm8 hk8 H7
          go_wp2_with fail
          refine (qsLearn_any _ g2 v n Q C T _ _ Z R _ H8.out.1.mr).mono ?_
          rintro e w9 ⟨rfl, hm9, hk9⟩
          have hlt9 := (H8.out.1.mr.qb rfl).1
          have hs9 : ∃ T2, Sc w g h g2 v n Q C w9 T2 (some (pl Y n, nr (sx X))) T2 (pl Y n) (nr (sx X)) true := ⟨_, H8.out.1.steppedR hlt9 hm9 hk9⟩
          obtain ⟨T2, hs9⟩ := hs9
          have H9 : Hid (∃ T2, Sc w g h g2 v n Q C w9 T2 (some (pl Y n, nr (sx X))) T2 (pl Y n) (nr (sx X)) true ∧ Blk w9 ob 30 #[.int .i64 X, .int .i64 Y, .int .i64 Z, .int .i64 R]) := Lib.hid ⟨T2, hs9, H8.out.1.opSR hlt9 H8.out.2 hk9⟩
          clear hs9 hm9 hk9 H8 c2 c3 hlt9
          go_wp2_with fail
          go_loopw [13] (fun i wr => ∃ (z : Nat), z ≤ 35 ∧ i = .int .i64 ((z : Int) - 1) ∧ ∃ T2, Sc w g h g2 v n Q C wr T2 (some (pl Y n, nr (sx X))) T2 (pl Y n) (nr (sx X)) true ∧ Blk wr ob 30 #[.int .i64 X, .int .i64 Y, .int .i64 Z, .int .i64 R]) (fun i _ => (34 - intOf i).toNat)
          case atStart => exact ⟨0, by omega, by simp, H9.out⟩
          case round =>
            obtain ⟨z, hz, rfl, T2, hs, ho⟩ := hrel
            clear H9
            by_cases hlt : z < 35
            · have c1 := ho.cell 1
              have hd : (z : Int) - 1 < 34 := by omega
              have hT : (T2 (pl Y n) (pl ((z : Int) - 1) 33) != T2 (pl Y n) (pl ((z : Int) - 1) 33)) = false := by simp
              have HA2 := Lib.hid (And.intro hs ho)
              clear hs ho
              go_wp2_with fail
              go_quiet (first
                | (go_at_call 9; with_reducible exact Calls.quiet_of (sAt_any g h n T2 _ Y ((z : Int) - 1) _ (HA2.out.1.mc.drewN _)))
                | (go_at_call 10; with_reducible exact Calls.quiet_of (qsAt_any _ g2 v n Q C T2 _ _ _ Y ((z : Int) - 1) _ (HA2.out.1.mr.drewN _))))
              have HA3 := Lib.hid (And.intro (HA2.out.1.drewN nq) (HA2.out.2.drewN nq))
              clear HA2 c1
              go_wp2_with fail
              go_roundw
              case rel => exact ⟨z + 1, by omega, by first | go_num | (congr 1; omega), T2, HA3.out⟩
              case measure => simp [intOf]; omega
            · obtain rfl : z = 35 := by omega
              have HA2 := Lib.hid hs
              clear hs ho
              go_wp2_with fail
              refine (sAt_any g h n T2 _ cx sx0 _ HA2.out.mc).mono ?_
              rintro e w10 ⟨rfl, N, hN⟩
              have HA3 : Hid (Sc w g h g2 v n Q C w10 T2 (some (pl Y n, nr (sx X))) T2 (pl Y n) (nr (sx X)) true) := Lib.hid (by rw [hN]; exact HA2.out.drewN N)
              clear hN HA2
              have hT : (T2 (pl cx n) (pl sx0 33) != T2 (pl cx n) (pl sx0 33)) = false := by simp
              go_wp2_with fail
              refine (qsAt_any _ g2 v n Q C T2 _ _ _ cx sx0 _ HA3.out.mr).mono ?_
              rintro e w11 ⟨rfl, N, hN⟩
              have HA4 : Hid (Mids w g h g2 v n Q C w11) := Lib.hid (by rw [hN]; exact ⟨_, _, _, _, _, HA3.out.drewN N⟩)
              clear hN HA3
              go_wp2_with fail
              go_roundw
              case rel => exact ⟨j + 1, by omega, by omega, by go_num, HA4.out⟩
              case measure => simp [intOf]; omega
        · have y0 : (Z == 0) = false := by rw [hZ]; rfl
          have y1 : (Z == 1) = true := by simpa using hZ
          clear hZ
          go_wp2_with fail
          refine (sLearn_any g h n T _ _ Z R _ H7.out.1.mc).mono ?_
          rintro e w8 ⟨rfl, hm8, hk8⟩
          have hs8 := And.intro (H7.out.1.stepped hm8 hk8) (H7.out.1.opS H7.out.2 hk8)
          have c2 := hs8.2.cell 2
          have c3 := hs8.2.cell 3
          have H8 := Lib.hid hs8
          clear hs8 hm8 hk8 H7
          go_wp2_with fail
          refine (qsLearn_any _ g2 v n Q C T _ _ Z R _ H8.out.1.mr).mono ?_
          rintro e w9 ⟨rfl, hm9, hk9⟩
          have hlt9 := (H8.out.1.mr.qb rfl).1
          have hs9 : ∃ T2, Sc w g h g2 v n Q C w9 T2 (some (pl Y n, nr (sx X))) T2 (pl Y n) (nr (sx X)) true := ⟨_, H8.out.1.steppedR hlt9 hm9 hk9⟩
          obtain ⟨T2, hs9⟩ := hs9
          have H9 : Hid (∃ T2, Sc w g h g2 v n Q C w9 T2 (some (pl Y n, nr (sx X))) T2 (pl Y n) (nr (sx X)) true ∧ Blk w9 ob 30 #[.int .i64 X, .int .i64 Y, .int .i64 Z, .int .i64 R]) := Lib.hid ⟨T2, hs9, H8.out.1.opSR hlt9 H8.out.2 hk9⟩
          clear hs9 hm9 hk9 H8 c2 c3 hlt9
          go_wp2_with fail
          go_loopw [13] (fun i wr => ∃ (z : Nat), z ≤ 35 ∧ i = .int .i64 ((z : Int) - 1) ∧ ∃ T2, Sc w g h g2 v n Q C wr T2 (some (pl Y n, nr (sx X))) T2 (pl Y n) (nr (sx X)) true ∧ Blk wr ob 30 #[.int .i64 X, .int .i64 Y, .int .i64 Z, .int .i64 R]) (fun i _ => (34 - intOf i).toNat)
          case atStart => exact ⟨0, by omega, by simp, H9.out⟩
          case round =>
            obtain ⟨z, hz, rfl, T2, hs, ho⟩ := hrel
            clear H9
            by_cases hlt : z < 35
            · have c1 := ho.cell 1
              have hd : (z : Int) - 1 < 34 := by omega
              have hT : (T2 (pl Y n) (pl ((z : Int) - 1) 33) != T2 (pl Y n) (pl ((z : Int) - 1) 33)) = false := by simp
              have HA2 := Lib.hid (And.intro hs ho)
              clear hs ho
              go_wp2_with fail
              go_quiet (first
                | (go_at_call 9; with_reducible exact Calls.quiet_of (sAt_any g h n T2 _ Y ((z : Int) - 1) _ (HA2.out.1.mc.drewN _)))
                | (go_at_call 10; with_reducible exact Calls.quiet_of (qsAt_any _ g2 v n Q C T2 _ _ _ Y ((z : Int) - 1) _ (HA2.out.1.mr.drewN _))))
              have HA3 := Lib.hid (And.intro (HA2.out.1.drewN nq) (HA2.out.2.drewN nq))
              clear HA2 c1
              go_wp2_with fail
              go_roundw
              case rel => exact ⟨z + 1, by omega, by first | go_num | (congr 1; omega), T2, HA3.out⟩
              case measure => simp [intOf]; omega
            · obtain rfl : z = 35 := by omega
              have HA2 := Lib.hid hs
              clear hs ho
              go_wp2_with fail
              refine (sAt_any g h n T2 _ cx sx0 _ HA2.out.mc).mono ?_
              rintro e w10 ⟨rfl, N, hN⟩
              have HA3 : Hid (Sc w g h g2 v n Q C w10 T2 (some (pl Y n, nr (sx X))) T2 (pl Y n) (nr (sx X)) true) := Lib.hid (by rw [hN]; exact HA2.out.drewN N)
              clear hN HA2
              have hT : (T2 (pl cx n) (pl sx0 33) != T2 (pl cx n) (pl sx0 33)) = false := by simp
              go_wp2_with fail
              refine (qsAt_any _ g2 v n Q C T2 _ _ _ cx sx0 _ HA3.out.mr).mono ?_
              rintro e w11 ⟨rfl, N, hN⟩
              have HA4 : Hid (Mids w g h g2 v n Q C w11) := Lib.hid (by rw [hN]; exact ⟨_, _, _, _, _, HA3.out.drewN N⟩)
              clear hN HA3
              go_wp2_with fail
              go_roundw
              case rel => exact ⟨j + 1, by omega, by omega, by go_num, HA4.out⟩
              case measure => simp [intOf]; omega
        · have y0 : (Z == 0) = false := by rw [beq_eq_false_iff_ne]; exact hZ
          have y1 : (Z == 1) = false := by rw [beq_eq_false_iff_ne]; exact hZ1
          clear hZ hZ1
          have H9 : Hid (∃ T2, Sc w g h g2 v n Q C w6 T2 (some (pl Y n, nr (sx X))) T2 (pl Y n) (nr (sx X)) true ∧ Blk w6 ob 30 #[.int .i64 X, .int .i64 Y, .int .i64 Z, .int .i64 R]) := Lib.hid ⟨T, H7.out⟩
          clear H7
          go_wp2_with fail
          go_loopw [13] (fun i wr => ∃ (z : Nat), z ≤ 35 ∧ i = .int .i64 ((z : Int) - 1) ∧ ∃ T2, Sc w g h g2 v n Q C wr T2 (some (pl Y n, nr (sx X))) T2 (pl Y n) (nr (sx X)) true ∧ Blk wr ob 30 #[.int .i64 X, .int .i64 Y, .int .i64 Z, .int .i64 R]) (fun i _ => (34 - intOf i).toNat)
          case atStart => exact ⟨0, by omega, by simp, H9.out⟩
          case round =>
            obtain ⟨z, hz, rfl, T2, hs, ho⟩ := hrel
            clear H9
            by_cases hlt : z < 35
            · have c1 := ho.cell 1
              have hd : (z : Int) - 1 < 34 := by omega
              have hT : (T2 (pl Y n) (pl ((z : Int) - 1) 33) != T2 (pl Y n) (pl ((z : Int) - 1) 33)) = false := by simp
              have HA2 := Lib.hid (And.intro hs ho)
              clear hs ho
              go_wp2_with fail
              go_quiet (first
                | (go_at_call 9; with_reducible exact Calls.quiet_of (sAt_any g h n T2 _ Y ((z : Int) - 1) _ (HA2.out.1.mc.drewN _)))
                | (go_at_call 10; with_reducible exact Calls.quiet_of (qsAt_any _ g2 v n Q C T2 _ _ _ Y ((z : Int) - 1) _ (HA2.out.1.mr.drewN _))))
              have HA3 := Lib.hid (And.intro (HA2.out.1.drewN nq) (HA2.out.2.drewN nq))
              clear HA2 c1
              go_wp2_with fail
              go_roundw
              case rel => exact ⟨z + 1, by omega, by first | go_num | (congr 1; omega), T2, HA3.out⟩
              case measure => simp [intOf]; omega
            · obtain rfl : z = 35 := by omega
              have HA2 := Lib.hid hs
              clear hs ho
              go_wp2_with fail
              refine (sAt_any g h n T2 _ cx sx0 _ HA2.out.mc).mono ?_
              rintro e w10 ⟨rfl, N, hN⟩
              have HA3 : Hid (Sc w g h g2 v n Q C w10 T2 (some (pl Y n, nr (sx X))) T2 (pl Y n) (nr (sx X)) true) := Lib.hid (by rw [hN]; exact HA2.out.drewN N)
              clear hN HA2
              have hT : (T2 (pl cx n) (pl sx0 33) != T2 (pl cx n) (pl sx0 33)) = false := by simp
              go_wp2_with fail
              refine (qsAt_any _ g2 v n Q C T2 _ _ _ cx sx0 _ HA3.out.mr).mono ?_
              rintro e w11 ⟨rfl, N, hN⟩
              have HA4 : Hid (Mids w g h g2 v n Q C w11) := Lib.hid (by rw [hN]; exact ⟨_, _, _, _, _, HA3.out.drewN N⟩)
              clear hN HA3
              go_wp2_with fail
              go_roundw
              case rel => exact ⟨j + 1, by omega, by omega, by go_num, HA4.out⟩
              case measure => simp [intOf]; omega
      · have HM := Lib.hid hb
        clear hb
        have hfin : Below w.heap.size w wr := by obtain ⟨T, q, s, k, has, hs⟩ := HM.out; exact hs.fr.toBelow
        by_cases hjm : j < m
        · have hj200 : ¬ (j : Int) < 200 := by omega
          have hj3 : decide ((j : Int) < 200) = false := by simp; omega
          go_wp2_with fail
          go_ret
          exact ⟨rfl, hfin⟩
        · have hjm2 : ¬ (j : Int) < (m : Int) := by omega
          go_wp2_with fail
          go_ret
          exact ⟨rfl, hfin⟩

set_option maxRecDepth 100000 in
theorem lifted (os : Os) (started : os.Started) (H : Type) (enc : TypeId × Value → H) :
    ReturnsInHanded {} Try.checked os 3 .any (Rows.stagePlaysSpec.pre6 enc Try.prog Try.f3 Rows.stagePlaysRow.domain false) (Rows.stagePlaysSpec.post enc Try.prog Try.f3 false true false false) := by
  refine returnsInHanded_of_change (C := Try.checked) Try.own started (by kernel_rfl) Try.func3
    (ChangeSpec.witness6 (enc := enc) (C := Try.checked) false ⟨#[], #[.int .i64 0, .slice none 0 0, .int .i64 0, .int .i64 0], []⟩ 8 (by kernel_rfl) (by kernel_rfl) (by kernel_rfl) (by kernel_rfl)) ?_
  intro W base args ds gs before hval0 hW hcnd _
  have hval : ∀ (j : Nat) t v, Try.f3.params[j]? = some t → args[j]? = some v → Value.okWide Try.prog W .any base t v := hval0
  have hpost : ∀ W', Below W.heap.size W W' → Rows.stagePlaysSpec.post enc Try.prog Try.f3 false true false false W args (.bool true) W' := fun W' hb =>
    law_post (by kernel_rfl) Try.underlying4 (by kernel_rfl) rfl (fun ds hl => match ds, hl with | [d1, d2, d3, d4], _ => ⟨rfl, rfl, rfl⟩) hW hb
  obtain ⟨p, q, hA0, hV, rfl, hfz, hnd⟩ := hW
  have hA : DataW.TrodAll enc Try.prog W 0 (fun _ => true) true Try.f3.params.toList args.toList ds p := hA0
  rw [Try.params3] at hA hval
  obtain ⟨v0, vs0, d0, ds0, p0, q0, hargs, rfl, rfl, h0, r0⟩ := trodAll_cons hA
  obtain ⟨v1, vs1, d1, ds1, p1, q1, rfl, rfl, rfl, h1, r1⟩ := trodAll_cons r0
  obtain ⟨v2, vs2, d2, ds2, p2, q2, rfl, rfl, rfl, h2, r2⟩ := trodAll_cons r1
  obtain ⟨v3, vs3, d3, ds3, p3, q3, rfl, rfl, rfl, h3, r3⟩ := trodAll_cons r2
  obtain ⟨rfl, rfl, rfl⟩ := trodAll_nil r3
  obtain rfl : args = #[v0, v1, v2, v3] := by cases args; simp_all
  obtain ⟨a0, rfl, rfl, rfl, w0⟩ := open_int Try.underlying3 (hval 0 3 v0 rfl rfl) h0
  obtain ⟨A1, n1, c1, rfl, _, hn1, hops⟩ := open_ops (hval 1 22 v1 rfl rfl) h1
  obtain ⟨a2, rfl, rfl, rfl, w2⟩ := open_int Try.underlying3 (hval 2 3 v2 rfl rfl) h2
  obtain ⟨a3, rfl, rfl, rfl, w3⟩ := open_int Try.underlying3 (hval 3 3 v3 rfl rfl) h3
  refine (walk a0 A1 n1 c1 a2 a3 W hops hn1).mono fun e W' ⟨he, hb⟩ => ⟨_, he, hpost W' hb⟩

/-- The statement. -/
theorem proved : Rows.StagePlaysSaid :=
  OpenClaim.holds_of_wide 3 Try.f3 rfl rfl rfl rfl rfl rfl rfl ⟨rfl, rfl, rfl, rfl, rfl⟩ rfl rfl rfl rfl rfl (by kernel_rfl) Try.func3 (by kernel_rfl)
    (of_decide_eq_true (by kernel_rfl)) (by unfold Func.isWrapper; first | (rw [if_pos (by decide +kernel)]; kernel_rfl) | (rw [if_neg (by decide +kernel)]; exact ⟨rfl, rfl⟩))
    (fun os started H enc _ => lifted os started H enc)
#print axioms proved

end Go.Proofs.Ytgjgfakdmpcggaa.stagePlays
