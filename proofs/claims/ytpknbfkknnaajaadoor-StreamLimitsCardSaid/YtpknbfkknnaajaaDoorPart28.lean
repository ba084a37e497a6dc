/- Texts of this proof, one behind the other: ModR. -/
import Derived.Test.YtpknbfkknnaajaaDoorPart27
import Derived.Test.YtpknbfkknnaajaaDoorPart17

/- The document's model: Chance. -/
namespace Go.Proofs.YtpknbfkknnaajaaDoor
set_option maxRecDepth 100000
open Go.RowKit

attribute [local go_sem ↓] Go.wp_at_zero Go.wp_at_succ

/-- What mixer and stage stand at, when they have been asked of now. -/
def RRdy (lv : Nat) (m : Mo) (s : Nat) (I : Nat → Int) (t : Int) (has : Bool) (s2 k2 : Nat) (has2 : Bool) : Prop :=
  lv ≠ 0 → s = m.part ∧ I = inp (ins lv m.now.a m.now.b m.now.c) ∧ t = m.now.t lv ∧ has = true ∧ s2 = m.part ∧ k2 = nr (sx (m.now.t lv)) ∧ has2 = true

/-- What is there when it has been asked. -/
def RSt (A : Nat → Prop) (w w' : World) (g : Nat) (d : RId) (lv : Nat) (m : Mo) : Prop :=
  Kept (fun k => ¬ A k) w w' ∧ ∃ (vI : Value) (s : Nat) (I : Nat → Int) (t : Int) (has : Bool) (s2 k2 : Nat) (has2 : Bool), Blk w' g 79 (rmc d lv m.part m.last m.older) ∧ PrR A w' d m.tab m.W m.T vI s I t has s2 k2 has2 ∧ RRdy lv m s I t has s2 k2 has2
theorem RSt.blk {A : Nat → Prop} {w w' : World} {g : Nat} {d : RId} {lv : Nat} {m : Mo} (h : RSt A w w' g d lv m) : Blk w' g 79 (rmc d lv m.part m.last m.older) := by
  obtain ⟨_, _, _, _, _, _, _, _, _, hb, _⟩ := h
  exact hb

theorem quarter {t r : Int} (ht : 1 ≤ t ∧ t ≤ 4095) (hr : 1 ≤ r ∧ r ≤ 4095) : IntKind.i64.wrap ((IntKind.i64.wrap (t + IntKind.i64.wrap (3 * r))).tdiv 4) = (t + 3 * r) / 4 := by
  rw [IntWalk.i64_in (3 * r) (by omega), IntWalk.i64_in (t + 3 * r) (by omega), Int.tdiv_eq_ediv_of_nonneg (by omega), IntWalk.i64_in _ (by omega)]

/-- One table asked. -/
theorem rasks (m : Mo) {d : RId} {k : Nat} {w : World} (hf : m.Fine) (h : TabR w (d.g k) (d.v k) (ft (tn k) (m.tab k))) :
    Calls Tryd.prog 45 #[.pointer (some ⟨d.g k, 0, none⟩), .int .i64 (m.key k : Nat)] w fun e w' => e = .returned (.int .i64 (ch (m.at_ k) : Nat)) ∧ ∃ n, w' = w.drewN n := by
  have := qgAt_any (d.g k) (d.v k) (ft (tn k) (m.tab k)) (m.key k : Nat) w h
  rw [ft_len, pl_in (hf.key_lt k), ft_get (hf.key_lt k)] at this
  exact this

theorem Row.of_4 {w : World} {b : Nat} {ty : TypeId} {x0 x1 x2 x3 : Int} (h : Blk w b ty #[.int .i64 x0, .int .i64 x1, .int .i64 x2, .int .i64 x3]) : Row w .i64 (some ⟨b, 0, none⟩) 4 [x0, x1, x2, x3] :=
  ⟨rfl, fun j hj => ⟨b, 0, rfl, h.lt, by
    rw [Nat.zero_add, h.cell]
    rcases four hj with rfl | rfl | rfl | rfl <;> rfl⟩⟩

section
variable {A : Nat → Prop} {w V : World} {g : Nat} {d : RId} {vI : Value} {s : Nat} {I : Nat → Int} {t : Int} {has : Bool} {s2 k2 : Nat} {has2 : Bool}
/-- Mix, of what the tables say. -/
theorem rmix (m : Mo) (lv : Nat) (hf : m.Fine) {x2 : Int} (hx : True → ins lv m.now.a m.now.b m.now.c = [st (pc (ch (m.at_ 0) : Nat)), st (pc (ch (m.at_ 1) : Nat)), x2, 256])
    (hb : Blk V g 79 (rmc d lv m.part m.last m.older)) (hp : PrR A V d m.tab m.W m.T vI s I t has s2 k2 has2) (hk : Kept (fun k => ¬ A k) w V) :
    Calls Tryd.prog 48 #[.pointer (some ⟨d.m, 0, none⟩), .int .i64 m.part, .slice (some ⟨V.heap.size, 0, none⟩) 4 4] (V.alloc (.cells #[.int .i64 (st (pc (ch (m.at_ 0) : Nat))), .int .i64 (st (pc (ch (m.at_ 1) : Nat))), .int .i64 x2, .int .i64 256] 3)) fun e w' => e = .returned (.int .i64 (m.now.t lv)) ∧
      ∃ vI', Kept (fun k => ¬ A k) w w' ∧ Blk w' g 79 (rmc d lv m.part m.last m.older) ∧ PrR A w' d m.tab m.W m.T vI' m.part (inp (ins lv m.now.a m.now.b m.now.c)) (m.now.t lv) true s2 k2 has2 := by
  have hfa : Fresh V (V.alloc (.cells #[.int .i64 (st (pc (ch (m.at_ 0) : Nat))), .int .i64 (st (pc (ch (m.at_ 1) : Nat))), .int .i64 x2, .int .i64 256] 3)) := (Kept.refl _ _).alloc _
  have hp1 := hp.fresh hfa
  have hrow := Row.of_4 (Blk.new V 3 #[.int .i64 (st (pc (ch (m.at_ 0) : Nat))), .int .i64 (st (pc (ch (m.at_ 1) : Nat))), .int .i64 x2, .int .i64 256])
  rw [← hx trivial] at hrow
  have hM := qmMix_any d.B1 d.m d.vW vI 256 d.Q d.C m.W s I t has (m.part : Nat) (some ⟨V.heap.size, 0, none⟩) 4 4 _ _ hp1.mx hrow (fun b o e _ => by injection e with e; injection e with e1 e2; have := hp.mx.blk.lt; omega) (by unfold maxLen; omega)
  have hpl : pl ((m.part : Nat) : Int) 256 = m.part := pl_in (n := 256) (hf.key_lt 0)
  rw [hpl] at hM
  refine hM.mono ?_
  rintro e w' ⟨rfl, hk', vI', hI, hm⟩
  have hge : ∀ k, k = d.m → ¬ A k := fun k e => hp.off k (.inr (.inl e))
  exact ⟨rfl, vI', (hk.trans hfa (fun _ _ h => h.elim)).trans hk' (fun i _ e => hge i e), (hb.kept hfa id).kept hk' (fun e => Blk.ne_ hb hp.mx.blk (by decide) e), hp1.mixed hk' hI hm⟩

/-- Refine, of what Mix has told. -/
theorem rrefine (m : Mo) (lv : Nat) (hf : m.Fine) (hb : Blk V g 79 (rmc d lv m.part m.last m.older)) (hp : PrR A V d m.tab m.W m.T vI m.part (inp (ins lv m.now.a m.now.b m.now.c)) (m.now.t lv) true s2 k2 has2) (hk : Kept (fun k => ¬ A k) w V) :
    Calls Tryd.prog 50 #[.pointer (some ⟨d.s, 0, none⟩), .int .i64 (m.now.t lv), .int .i64 m.part] V fun e w' => e = .returned (.int .i64 (rd (m.T m.part) (sx (m.now.t lv)))) ∧
      RSt A w w' g d lv m := by
  have hR := qsRefine_any d.B2 d.s d.vS 256 d.Q2 d.C2 m.T s2 k2 has2 (m.now.t lv) (m.part : Nat) V hp.sg
  have hpl : pl ((m.part : Nat) : Int) 256 = m.part := pl_in (n := 256) (hf.key_lt 0)
  rw [hpl] at hR
  refine hR.mono ?_
  rintro e w' ⟨rfl, hs, hk'⟩
  have hge : ∀ k, k = d.s → ¬ A k := fun k e => hp.off k (.inr (.inr (.inr (.inr (.inr (.inl e))))))
  exact ⟨rfl, hk.trans hk' (fun i _ e => hge i e), _, _, _, _, _, _, _, _, hb.kept hk' (fun e => Blk.ne_ hb hp.sg.blk (by decide) e), hp.staged hk' hs, fun _ => ⟨rfl, rfl, rfl, rfl, rfl, rfl, rfl⟩⟩
end

set_option maxHeartbeats 6400000 in
/-- Chance: P8.2. -/
theorem rChance_any (A : Nat → Prop) (g : Nat) (d : RId) (lv : Nat) (m : Mo) (vI : Value) (s : Nat) (I : Nat → Int) (t : Int) (has : Bool) (s2 k2 : Nat) (has2 : Bool) (w : World)
    (hb : Blk w g 79 (rmc d lv m.part m.last m.older)) (hp : PrR A w d m.tab m.W m.T vI s I t has s2 k2 has2) (hf : m.Fine) (h2 : lv ≤ 2) :
    Calls Tryd.prog 24 #[.pointer (some ⟨g, 0, none⟩)] w fun e w' => e = .returned (.int .i64 (m.chance lv)) ∧ RSt A w w' g d lv m := by
  have c0 : w.cell? ⟨g, 0, none⟩ = some (.int .i64 lv) := hb.cell 0
  rcases (by omega : lv = 0 ∨ lv = 1 ∨ lv = 2) with rfl | rfl | rfl
  · have c1 : w.cell? ⟨g, 1, none⟩ = some (.pointer (some ⟨d.g 0, 0, none⟩)) := hb.cell 1
    have c6 : w.cell? ⟨g, 6, none⟩ = some (.int .i64 m.part) := hb.cell 6
    have HA : Hid (∀ n, Calls Tryd.prog 45 #[.pointer (some ⟨d.g 0, 0, none⟩), .int .i64 m.part] (w.drewN n) fun e w' => e = .returned (.int .i64 (ch (m.at_ 0) : Nat)) ∧ ∃ k, w' = (w.drewN n).drewN k) := Lib.hid fun n => rasks m hf ((hp.drewN n).tab 0 (by omega))
    have HF : Hid (∀ n, RSt A w (w.drewN n) g d 0 m) :=
      Lib.hid fun n => ⟨(Kept.refl _ _).drewN n, vI, s, I, t, has, s2, k2, has2, hb.drewN n, hp.drewN n, fun h => absurd rfl h⟩
    rw [chance0]
    clear hb hp hf h2
    generalize ch (m.at_ 0) = y at *
    generalize d.g 0 = ga at *
    go_enter Tryd.func24, Tryd.ntmps24
    go_wp2_with fail
    go_quiet ((go_at_call 45; exact Calls.quiet_of (HA.out _)))
    go_wp2_with fail
    go_ret
    exact ⟨rfl, HF.out _⟩
  · go_enter Tryd.func24, Tryd.ntmps24
    go_wp2_with fail
    · obtain ⟨n0, hn0⟩ : ∃ n, w = w.drewN n := ⟨0, rfl⟩
      rw [hn0]
      have hb0 := hb.drewN n0
      have hp0 := hp.drewN n0
      clear c0
      have HS : Hid (∀ V, (∃ n, V = (w.drewN n0).drewN n) → V.cell? ⟨g, 4, none⟩ = some (.pointer (some ⟨d.m, 0, none⟩)) ∧ V.cell? ⟨g, 6, none⟩ = some (.int .i64 m.part) ∧ V.cell? ⟨g, 1, none⟩ = some (.pointer (some ⟨d.g 0, 0, none⟩)) ∧ V.cell? ⟨g, 2, none⟩ = some (.pointer (some ⟨d.g 1, 0, none⟩))) :=
        Lib.hid fun V ⟨n, e⟩ => by subst e; exact ⟨(hb0.drewN n).cell 4, (hb0.drewN n).cell 6, (hb0.drewN n).cell 1, (hb0.drewN n).cell 2⟩
      have HSA : Hid (∀ V o, (∃ n, V = (w.drewN n0).drewN n) → (V.alloc o).cell? ⟨g, 4, none⟩ = some (.pointer (some ⟨d.m, 0, none⟩)) ∧ (V.alloc o).cell? ⟨g, 6, none⟩ = some (.int .i64 m.part) ∧ (V.alloc o).cell? ⟨g, 1, none⟩ = some (.pointer (some ⟨d.g 0, 0, none⟩)) ∧ (V.alloc o).cell? ⟨g, 2, none⟩ = some (.pointer (some ⟨d.g 1, 0, none⟩))) :=
        Lib.hid fun V o ⟨n, e⟩ => by subst e; exact ⟨((hb0.drewN n).alloc o).cell 4, ((hb0.drewN n).alloc o).cell 6, ((hb0.drewN n).alloc o).cell 1, ((hb0.drewN n).alloc o).cell 2⟩
      have HA0 : Hid (∀ V, (∃ n, V = (w.drewN n0).drewN n) → Calls Tryd.prog 45 #[.pointer (some ⟨d.g 0, 0, none⟩), .int .i64 m.part] V fun e w' => e = .returned (.int .i64 (ch (m.at_ 0) : Nat)) ∧ ∃ n, w' = (w.drewN n0).drewN n) := Lib.hid fun V ⟨n, e⟩ => by
        subst e
        refine (rasks m hf ((hp0.drewN n).tab 0 (by omega))).mono ?_
        rintro e w' ⟨rfl, k, rfl⟩
        exact ⟨rfl, n + k, by rw [World.drewN_drewN]⟩
      have HA1 : Hid (∀ V, (∃ n, V = (w.drewN n0).drewN n) → Calls Tryd.prog 45 #[.pointer (some ⟨d.g 1, 0, none⟩), .int .i64 (key2 m.last m.part : Nat)] V fun e w' => e = .returned (.int .i64 (ch (m.at_ 1) : Nat)) ∧ ∃ n, w' = (w.drewN n0).drewN n) := Lib.hid fun V ⟨n, e⟩ => by
        subst e
        refine (rasks m hf ((hp0.drewN n).tab 1 (by omega))).mono ?_
        rintro e w' ⟨rfl, k, rfl⟩
        exact ⟨rfl, n + k, by rw [World.drewN_drewN]⟩
      have H2 : Hid (∀ V, (∃ n, V = (w.drewN n0).drewN n) → Calls Tryd.prog 49 #[.pointer (some ⟨g, 0, none⟩)] V fun e w' => e = .returned (.int .i64 (key2 m.last m.part : Nat)) ∧ ∃ n, w' = (w.drewN n0).drewN n) := Lib.hid fun V ⟨n, e⟩ => by
        subst e
        refine (second_any g d 1 m.part m.last m.older _ (hb0.drewN n) hf.p.2 hf.l).mono ?_
        rintro e w' ⟨rfl, k, rfl⟩
        exact ⟨rfl, n + k, by rw [World.drewN_drewN]⟩
      have HM : Hid (∀ V, (∃ n, V = (w.drewN n0).drewN n) → Calls Tryd.prog 48 #[.pointer (some ⟨d.m, 0, none⟩), .int .i64 m.part, .slice (some ⟨V.heap.size, 0, none⟩) 4 4] (V.alloc (.cells #[.int .i64 (st (pc (ch (m.at_ 0) : Nat))), .int .i64 (st (pc (ch (m.at_ 1) : Nat))), .int .i64 0, .int .i64 256] 3)) fun e w' => e = .returned (.int .i64 (m.now.t 1)) ∧
          ∃ vI', Kept (fun k => ¬ A k) w w' ∧ Blk w' g 79 (rmc d 1 m.part m.last m.older) ∧ PrR A w' d m.tab m.W m.T vI' m.part (inp (ins 1 m.now.a m.now.b m.now.c)) (m.now.t 1) true s2 k2 has2) := Lib.hid fun V ⟨n, e⟩ => by
        subst e
        exact rmix m 1 hf (fun _ => by rfl) (hb0.drewN n) (hp0.drewN n) (((Kept.refl (fun k => ¬ A k) w).drewN n0).drewN n)
      have HR : Hid (∀ V vI', Kept (fun k => ¬ A k) w V → Blk V g 79 (rmc d 1 m.part m.last m.older) → PrR A V d m.tab m.W m.T vI' m.part (inp (ins 1 m.now.a m.now.b m.now.c)) (m.now.t 1) true s2 k2 has2 →
          Calls Tryd.prog 50 #[.pointer (some ⟨d.s, 0, none⟩), .int .i64 (m.now.t 1), .int .i64 m.part] V fun e w' => e = .returned (.int .i64 (rd (m.T m.part) (sx (m.now.t 1)))) ∧
            RSt A w w' g d 1 m) := Lib.hid fun V vI' hk hbV hpV => rrefine m 1 hf hbV hpV hk
      have hch : m.chance 1 = (m.now.t 1 + 3 * rd (m.T m.part) (sx (m.now.t 1))) / 4 := rfl
      have htb : 1 ≤ m.now.t 1 ∧ m.now.t 1 ≤ 4095 := tl_bd _ _
      have hrb := rd_bd (hf.t m.part) (sx (m.now.t 1))
      have HC := Lib.hid hch
      clear hb0 hp0 hb hp hch
      obtain ⟨t1, t2⟩ := htb
      obtain ⟨r1, r2⟩ := hrb
      generalize rd (m.T m.part) (sx (m.now.t 1)) = r at *
      generalize ch (m.at_ 0) = y0 at *
      generalize ch (m.at_ 1) = y1 at *
      generalize w.drewN n0 = w0 at *
      have hq0 : ∃ n, w0.drew = w0.drewN n := ⟨1, rfl⟩
      go_region_held3 (fun v => v.cell? ⟨g, 4, none⟩ = some (.pointer (some ⟨d.m, 0, none⟩)) ∧ v.cell? ⟨g, 6, none⟩ = some (.int .i64 m.part) ∧ v.cell? ⟨g, 1, none⟩ = some (.pointer (some ⟨d.g 0, 0, none⟩)) ∧ v.cell? ⟨g, 2, none⟩ = some (.pointer (some ⟨d.g 1, 0, none⟩)))
        (first | exact HS.out _ (by assumption) | exact HSA.out _ _ (by assumption) | exact ⟨hb7.cell 4, hb7.cell 6, hb7.cell 1, hb7.cell 2⟩)
        (first
          | (go_at_call 45; first | with_reducible refine (HA0.out _ (by assumption)).mono ?_ | with_reducible refine (HA1.out _ (by assumption)).mono ?_
             rintro e5 w5 ⟨rfl, q5⟩)
          | (go_at_call 46; with_reducible refine (qStretch_any _ _).mono ?_; rintro e6 w6 ⟨rfl, rfl⟩)
          | (go_at_call 49; with_reducible refine (H2.out _ (by assumption)).mono ?_; rintro e5 w5 ⟨rfl, q5⟩)
          | (go_at_call 48; with_reducible refine (HM.out _ (by assumption)).mono ?_; rintro e7 w7 ⟨rfl, vI7, hk7, hb7, hp7⟩))
      all_goals
        have HRR := Lib.hid (HR.out w7.drew vI7 hk7.drew hb7.drew (hp7.drewN 1))
        have c5 : w7.drew.cell? ⟨g, 5, none⟩ = some (.pointer (some ⟨d.s, 0, none⟩)) := hb7.cell 5
        have c6 : w7.drew.cell? ⟨g, 6, none⟩ = some (.int .i64 m.part) := hb7.cell 6
        clear hk7 hb7 hp7 HR HM H2 HA0 HA1 HS HSA hq0
        go_wp2_with fail
        go_region_held3 (fun v => v.cell? ⟨g, 5, none⟩ = some (.pointer (some ⟨d.s, 0, none⟩)) ∧ v.cell? ⟨g, 6, none⟩ = some (.int .i64 m.part))
          (first | exact ⟨c5, c6⟩ | exact ⟨hb8.cell 5, hb8.cell 6⟩)
          (first
            | (go_at_call 50; with_reducible refine HRR.out.mono ?_; rintro e8 w8 ⟨rfl, h8⟩; have hb8 := h8.blk))
        have H8 := Lib.hid h8
        clear h8 hb8
        go_wp2_with fail
        go_ret
        refine ⟨?_, H8.out⟩
        rw [HC.out]
        exact ret_int (quarter ⟨t1, t2⟩ ⟨r1, r2⟩)
  · go_enter Tryd.func24, Tryd.ntmps24
    have c3 : w.cell? ⟨g, 3, none⟩ = some (.pointer (some ⟨d.g 2, 0, none⟩)) := hb.cell 3
    have HA : Hid (∀ n, Calls Tryd.prog 45 #[.pointer (some ⟨d.g 2, 0, none⟩), .int .i64 (key3 m.older m.last m.part : Nat)] (w.drewN n) fun e w' => e = .returned (.int .i64 (ch (m.at_ 2) : Nat)) ∧ ∃ k, w' = (w.drewN n).drewN k) := Lib.hid fun n => rasks m hf ((hp.drewN n).tab 2 (by omega))
    have H3 : Hid (∀ n, Calls Tryd.prog 47 #[.pointer (some ⟨g, 0, none⟩)] (w.drewN n) fun e w' => e = .returned (.int .i64 (key3 m.older m.last m.part : Nat)) ∧ ∃ k, w' = (w.drewN n).drewN k) := Lib.hid fun n => third_any g d 2 m.part m.last m.older _ (hb.drewN n) hf.p.2 hf.l hf.o
    go_wp2_with fail
    go_quiet (first
      | (go_at_call 47; with_reducible exact Calls.quiet_of (H3.out _))
      | (go_at_call 45; with_reducible exact Calls.quiet_of (HA.out _))
      | (go_at_call 46; with_reducible exact Calls.quiet_of_same (qStretch_any _ _)))
    clear HA H3 c3
    go_wp2_with fail
    · obtain ⟨n0, hn0⟩ : ∃ n, n = nq := ⟨_, rfl⟩
      rw [← hn0]
      clear hn0
      have hb0 := hb.drewN n0
      have hp0 := hp.drewN n0
      clear c0
      have HS : Hid (∀ V, (∃ n, V = (w.drewN n0).drewN n) → V.cell? ⟨g, 4, none⟩ = some (.pointer (some ⟨d.m, 0, none⟩)) ∧ V.cell? ⟨g, 6, none⟩ = some (.int .i64 m.part) ∧ V.cell? ⟨g, 1, none⟩ = some (.pointer (some ⟨d.g 0, 0, none⟩)) ∧ V.cell? ⟨g, 2, none⟩ = some (.pointer (some ⟨d.g 1, 0, none⟩))) :=
        Lib.hid fun V ⟨n, e⟩ => by subst e; exact ⟨(hb0.drewN n).cell 4, (hb0.drewN n).cell 6, (hb0.drewN n).cell 1, (hb0.drewN n).cell 2⟩
      have HSA : Hid (∀ V o, (∃ n, V = (w.drewN n0).drewN n) → (V.alloc o).cell? ⟨g, 4, none⟩ = some (.pointer (some ⟨d.m, 0, none⟩)) ∧ (V.alloc o).cell? ⟨g, 6, none⟩ = some (.int .i64 m.part) ∧ (V.alloc o).cell? ⟨g, 1, none⟩ = some (.pointer (some ⟨d.g 0, 0, none⟩)) ∧ (V.alloc o).cell? ⟨g, 2, none⟩ = some (.pointer (some ⟨d.g 1, 0, none⟩))) :=
        Lib.hid fun V o ⟨n, e⟩ => by subst e; exact ⟨((hb0.drewN n).alloc o).cell 4, ((hb0.drewN n).alloc o).cell 6, ((hb0.drewN n).alloc o).cell 1, ((hb0.drewN n).alloc o).cell 2⟩
      have HA0 : Hid (∀ V, (∃ n, V = (w.drewN n0).drewN n) → Calls Tryd.prog 45 #[.pointer (some ⟨d.g 0, 0, none⟩), .int .i64 m.part] V fun e w' => e = .returned (.int .i64 (ch (m.at_ 0) : Nat)) ∧ ∃ n, w' = (w.drewN n0).drewN n) := Lib.hid fun V ⟨n, e⟩ => by
        subst e
        refine (rasks m hf ((hp0.drewN n).tab 0 (by omega))).mono ?_
        rintro e w' ⟨rfl, k, rfl⟩
        exact ⟨rfl, n + k, by rw [World.drewN_drewN]⟩
      have HA1 : Hid (∀ V, (∃ n, V = (w.drewN n0).drewN n) → Calls Tryd.prog 45 #[.pointer (some ⟨d.g 1, 0, none⟩), .int .i64 (key2 m.last m.part : Nat)] V fun e w' => e = .returned (.int .i64 (ch (m.at_ 1) : Nat)) ∧ ∃ n, w' = (w.drewN n0).drewN n) := Lib.hid fun V ⟨n, e⟩ => by
        subst e
        refine (rasks m hf ((hp0.drewN n).tab 1 (by omega))).mono ?_
        rintro e w' ⟨rfl, k, rfl⟩
        exact ⟨rfl, n + k, by rw [World.drewN_drewN]⟩
      have H2 : Hid (∀ V, (∃ n, V = (w.drewN n0).drewN n) → Calls Tryd.prog 49 #[.pointer (some ⟨g, 0, none⟩)] V fun e w' => e = .returned (.int .i64 (key2 m.last m.part : Nat)) ∧ ∃ n, w' = (w.drewN n0).drewN n) := Lib.hid fun V ⟨n, e⟩ => by
        subst e
        refine (second_any g d 2 m.part m.last m.older _ (hb0.drewN n) hf.p.2 hf.l).mono ?_
        rintro e w' ⟨rfl, k, rfl⟩
        exact ⟨rfl, n + k, by rw [World.drewN_drewN]⟩
      have HM : Hid (∀ V, (∃ n, V = (w.drewN n0).drewN n) → Calls Tryd.prog 48 #[.pointer (some ⟨d.m, 0, none⟩), .int .i64 m.part, .slice (some ⟨V.heap.size, 0, none⟩) 4 4] (V.alloc (.cells #[.int .i64 (st (pc (ch (m.at_ 0) : Nat))), .int .i64 (st (pc (ch (m.at_ 1) : Nat))), .int .i64 (st (pc (ch (m.at_ 2) : Nat))), .int .i64 256] 3)) fun e w' => e = .returned (.int .i64 (m.now.t 2)) ∧
          ∃ vI', Kept (fun k => ¬ A k) w w' ∧ Blk w' g 79 (rmc d 2 m.part m.last m.older) ∧ PrR A w' d m.tab m.W m.T vI' m.part (inp (ins 2 m.now.a m.now.b m.now.c)) (m.now.t 2) true s2 k2 has2) := Lib.hid fun V ⟨n, e⟩ => by
        subst e
        exact rmix m 2 hf (fun _ => by rfl) (hb0.drewN n) (hp0.drewN n) (((Kept.refl (fun k => ¬ A k) w).drewN n0).drewN n)
      have HR : Hid (∀ V vI', Kept (fun k => ¬ A k) w V → Blk V g 79 (rmc d 2 m.part m.last m.older) → PrR A V d m.tab m.W m.T vI' m.part (inp (ins 2 m.now.a m.now.b m.now.c)) (m.now.t 2) true s2 k2 has2 →
          Calls Tryd.prog 50 #[.pointer (some ⟨d.s, 0, none⟩), .int .i64 (m.now.t 2), .int .i64 m.part] V fun e w' => e = .returned (.int .i64 (rd (m.T m.part) (sx (m.now.t 2)))) ∧
            RSt A w w' g d 2 m) := Lib.hid fun V vI' hk hbV hpV => rrefine m 2 hf hbV hpV hk
      have hch : m.chance 2 = (m.now.t 2 + 3 * rd (m.T m.part) (sx (m.now.t 2))) / 4 := rfl
      have htb : 1 ≤ m.now.t 2 ∧ m.now.t 2 ≤ 4095 := tl_bd _ _
      have hrb := rd_bd (hf.t m.part) (sx (m.now.t 2))
      have HC := Lib.hid hch
      clear hb0 hp0 hb hp hch
      obtain ⟨t1, t2⟩ := htb
      obtain ⟨r1, r2⟩ := hrb
      generalize rd (m.T m.part) (sx (m.now.t 2)) = r at *
      generalize ch (m.at_ 0) = y0 at *
      generalize ch (m.at_ 1) = y1 at *
      generalize w.drewN n0 = w0 at *
      have hq0 : ∃ n, w0.drew = w0.drewN n := ⟨1, rfl⟩
      go_region_held3 (fun v => v.cell? ⟨g, 4, none⟩ = some (.pointer (some ⟨d.m, 0, none⟩)) ∧ v.cell? ⟨g, 6, none⟩ = some (.int .i64 m.part) ∧ v.cell? ⟨g, 1, none⟩ = some (.pointer (some ⟨d.g 0, 0, none⟩)) ∧ v.cell? ⟨g, 2, none⟩ = some (.pointer (some ⟨d.g 1, 0, none⟩)))
        (first | exact HS.out _ (by assumption) | exact HSA.out _ _ (by assumption) | exact ⟨hb7.cell 4, hb7.cell 6, hb7.cell 1, hb7.cell 2⟩)
        (first
          | (go_at_call 45; first | with_reducible refine (HA0.out _ (by assumption)).mono ?_ | with_reducible refine (HA1.out _ (by assumption)).mono ?_
             rintro e5 w5 ⟨rfl, q5⟩)
          | (go_at_call 46; with_reducible refine (qStretch_any _ _).mono ?_; rintro e6 w6 ⟨rfl, rfl⟩)
          | (go_at_call 49; with_reducible refine (H2.out _ (by assumption)).mono ?_; rintro e5 w5 ⟨rfl, q5⟩)
          | (go_at_call 48; with_reducible refine (HM.out _ (by assumption)).mono ?_; rintro e7 w7 ⟨rfl, vI7, hk7, hb7, hp7⟩))
      all_goals
        have HRR := Lib.hid (HR.out w7.drew vI7 hk7.drew hb7.drew (hp7.drewN 1))
        have c5 : w7.drew.cell? ⟨g, 5, none⟩ = some (.pointer (some ⟨d.s, 0, none⟩)) := hb7.cell 5
        have c6 : w7.drew.cell? ⟨g, 6, none⟩ = some (.int .i64 m.part) := hb7.cell 6
        clear hk7 hb7 hp7 HR HM H2 HA0 HA1 HS HSA hq0
        go_wp2_with fail
        go_region_held3 (fun v => v.cell? ⟨g, 5, none⟩ = some (.pointer (some ⟨d.s, 0, none⟩)) ∧ v.cell? ⟨g, 6, none⟩ = some (.int .i64 m.part))
          (first | exact ⟨c5, c6⟩ | exact ⟨hb8.cell 5, hb8.cell 6⟩)
          (first
            | (go_at_call 50; with_reducible refine HRR.out.mono ?_; rintro e8 w8 ⟨rfl, h8⟩; have hb8 := h8.blk))
        have H8 := Lib.hid h8
        clear h8 hb8
        go_wp2_with fail
        go_ret
        refine ⟨?_, H8.out⟩
        rw [HC.out]
        exact ret_int (quarter ⟨t1, t2⟩ ⟨r1, r2⟩)

end Go.Proofs.YtpknbfkknnaajaaDoor
