/- Texts of this proof, one behind the other: ModRL. -/
import Derived.Test.YtpknbfkknnaajaaDoorPart28

/- The document's model: Learn, New. -/
namespace Go.Proofs.YtpknbfkknnaajaaDoor
set_option maxRecDepth 100000
open Go.RowKit

attribute [local go_sem ↓] Go.wp_at_zero Go.wp_at_succ

/-- At block g lies the document's model of level lv, behind what m has learnt; all that it is made of lies in no block of A. -/
def MdR (A : Nat → Prop) (w : World) (g lv : Nat) (m : Mo) : Prop :=
  ∃ (d : RId) (vI : Value) (s : Nat) (I : Nat → Int) (t : Int) (has : Bool) (s2 k2 : Nat) (has2 : Bool), Blk w g 79 (rmc d lv m.part m.last m.older) ∧ PrR A w d m.tab m.W m.T vI s I t has s2 k2 has2 ∧ m.Fine ∧ lv ≤ 2 ∧ ¬ A g
theorem MdR.fine {A : Nat → Prop} {w : World} {g lv : Nat} {m : Mo} (h : MdR A w g lv m) : m.Fine := by
  obtain ⟨_, _, _, _, _, _, _, _, _, _, _, h, _⟩ := h; exact h
theorem MdR.kept {A : Nat → Prop} {w w' : World} {g lv : Nat} {m : Mo} {S : Nat → Prop} (h : MdR A w g lv m) (hk : Kept S w w') (hS : ∀ k, S k → A k) : MdR A w' g lv m := by
  obtain ⟨d, vI, s, I, t, has, s2, k2, has2, hb, hp, hf, h2, hg⟩ := h
  exact ⟨d, vI, s, I, t, has, s2, k2, has2, hb.kept hk (fun e => hg (hS _ e)), hp.kept hk hS, hf, h2, hg⟩
/-- Other blocks that it is none of. -/
theorem MdR.move {A A' : Nat → Prop} {w w' : World} {g lv : Nat} {m : Mo} {S : Nat → Prop} (h : MdR A w g lv m) (hk : Kept S w w') (hS : ∀ k, S k → A k) (hA : ∀ k, A' k → k < w'.heap.size ∧ (A k ∨ w.heap.size ≤ k)) : MdR A' w' g lv m := by
  obtain ⟨d, vI, s, I, t, has, s2, k2, has2, hb, hp, hf, h2, hg⟩ := h
  refine ⟨d, vI, s, I, t, has, s2, k2, has2, hb.kept hk (fun e => hg (hS _ e)), hp.move hk hS hA, hf, h2, fun e => ?_⟩
  rcases (hA g e).2 with h1 | h1
  · exact hg h1
  · have := hb.lt; omega
theorem MdR.fresh {A : Nat → Prop} {w w' : World} {g lv : Nat} {m : Mo} (h : MdR A w g lv m) (hk : Fresh w w') : MdR A w' g lv m := h.kept hk (fun _ h => h.elim)

/-- Chance, as it is used. -/
theorem mrChance_any (A : Nat → Prop) (g lv : Nat) (m : Mo) (w : World) (h : MdR A w g lv m) :
    Calls Tryd.prog 24 #[.pointer (some ⟨g, 0, none⟩)] w fun e w' => e = .returned (.int .i64 (m.chance lv)) ∧ MdR A w' g lv m ∧ Kept (fun k => ¬ A k) w w' := by
  obtain ⟨d, vI, s, I, t, has, s2, k2, has2, hb, hp, hf, h2, hg⟩ := h
  refine (rChance_any A g d lv m vI s I t has s2 k2 has2 w hb hp hf h2).mono ?_
  rintro e w' ⟨rfl, hk, vI', s', I', t', has', s2', k2', has2', hb', hp', _⟩
  exact ⟨rfl, ⟨d, vI', s', I', t', has', s2', k2', has2', hb', hp', hf, h2, hg⟩, hk⟩

/-- Amid a learning. -/
def RMid (A : Nat → Prop) (w w' : World) (g : Nat) (d : RId) (lv : Nat) (m : Mo) (F : Nat → Nat → Nat) (W T : Nat → Nat → Int) : Prop :=
  Kept (fun k => ¬ A k) w w' ∧ ∃ (vI : Value) (s : Nat) (I : Nat → Int) (t : Int) (has : Bool) (s2 k2 : Nat) (has2 : Bool), Blk w' g 79 (rmc d lv m.part m.last m.older) ∧ PrR A w' d F W T vI s I t has s2 k2 has2 ∧ RRdy lv m s I t has s2 k2 has2
section
variable {A : Nat → Prop} {w V : World} {g : Nat} {d : RId} {lv : Nat} {m : Mo} {F : Nat → Nat → Nat} {W T : Nat → Nat → Int}
theorem RMid.blk (h : RMid A w V g d lv m F W T) : Blk V g 79 (rmc d lv m.part m.last m.older) := by
  obtain ⟨_, _, _, _, _, _, _, _, _, hb, _⟩ := h
  exact hb
theorem RMid.fresh {V' : World} (h : RMid A w V g d lv m F W T) (hf : Fresh V V') : RMid A w V' g d lv m F W T := by
  obtain ⟨hk, vI, s, I, t, has, s2, k2, has2, hb, hp, hr⟩ := h
  exact ⟨hk.trans hf (fun _ _ h => h.elim), vI, s, I, t, has, s2, k2, has2, hb.kept hf id, hp.fresh hf, hr⟩
theorem RMid.drewN (h : RMid A w V g d lv m F W T) (n : Nat) : RMid A w (V.drewN n) g d lv m F W T := h.fresh ((Kept.refl _ V).drewN n)
theorem RMid.congr {G : Nat → Nat → Nat} (h : RMid A w V g d lv m F W T) (he : ∀ i, i < 3 → F i = G i) : RMid A w V g d lv m G W T := by
  obtain ⟨hk, vI, s, I, t, has, s2, k2, has2, hb, hp, hr⟩ := h
  exact ⟨hk, vI, s, I, t, has, s2, k2, has2, hb, ⟨fun i hi => by rw [← he i hi]; exact hp.tab i hi, hp.mx, hp.sg, hp.inj, hp.q, hp.qI, hp.off, hp.small⟩, hr⟩
/-- A table learns. -/
theorem RMid.teach {one : Bool} {k : Nat} (h : RMid A w V g d lv m (tabTo m one k) W T) (hf : m.Fine) (hk : k < 3) {v : Int} (hv : (v != 0) = one) :
    Calls Tryd.prog 51 #[.pointer (some ⟨d.g k, 0, none⟩), .int .i64 (m.key k : Nat), .int .i64 v, .int .i64 (tr k : Nat)] V fun e w' => e = .returned (.tuple #[]) ∧ RMid A w w' g d lv m (tabTo m one (k + 1)) W T := by
  obtain ⟨hk0, vI, s, I, t, has, s2, k2, has2, hb, hp, hr⟩ := h
  have ht := hp.tab k hk
  rw [tabTo_at] at ht
  have hL := qgLearn_any (d.g k) (d.v k) (ft (tn k) (m.tab k)) (m.key k : Nat) v (tr k : Nat) V ht
  rw [ft_len, pl_in (hf.key_lt k), ft_get (hf.key_lt k), ft_set, rt_tr hk, hv] at hL
  refine hL.mono ?_
  rintro e w' ⟨rfl, h1, h2⟩
  have hin : ∀ j, (d.v k).ownBlock = some j → ¬ A j := fun j e => hp.off j (.inl ⟨k, hk, .inr e⟩)
  refine ⟨rfl, hk0.trans h2 (fun j _ e => hin j e), vI, s, I, t, has, s2, k2, has2, hb.kept h2 (fun e => ht.own.ne_blk hb (by decide) e), ?_, hr⟩
  rw [← tabTo_put]
  exact hp.tabbed hk h2 h1
/-- The mixer learns. -/
theorem RMid.mixer {one : Bool} (h : RMid A w V g d lv m F m.W T) (hf : m.Fine) (hl : lv ≠ 0) {v : Int} (hv : (v != 0) = one) :
    Calls Tryd.prog 52 #[.pointer (some ⟨d.m, 0, none⟩), .int .i64 v] V fun e w' => e = .returned (.tuple #[]) ∧ RMid A w w' g d lv m F (m.learn lv one).W T := by
  obtain ⟨hk0, vI, s, I, t, has, s2, k2, has2, hb, hp, hr⟩ := h
  obtain ⟨rfl, rfl, rfl, rfl, rfl, rfl, rfl⟩ := hr hl
  have hL := qmLearn_any d.B1 d.m d.vW vI 256 d.Q d.C m.W m.part (inp (ins lv m.now.a m.now.b m.now.c)) (m.now.t lv) v V hp.mx
  rw [hv, learnt_upd, ← learn_W m one hl] at hL
  refine hL.mono ?_
  rintro e w' ⟨rfl, h1, h2⟩
  have hi : m.part < 256 := by have := hf.p; omega
  obtain ⟨cs, hq⟩ := hp.mx.rws.blk hi
  have hge : ∀ k, k = d.Q m.part → ¬ A k := fun k e => hp.off k (.inr (.inr (.inr (.inl ⟨_, hi, e⟩))))
  exact ⟨rfl, hk0.trans h2 (fun j _ e => hge j e), vI, _, _, _, _, _, _, _, hb.kept h2 (fun e => Blk.ne_ hb hq (by decide) e), hp.weighed hi h2 h1, fun _ => ⟨rfl, rfl, rfl, rfl, rfl, rfl, rfl⟩⟩
/-- The stage learns. -/
theorem RMid.stage {one : Bool} (h : RMid A w V g d lv m F W m.T) (hf : m.Fine) (hl : lv ≠ 0) {v : Int} (hv : (v != 0) = one) :
    Calls Tryd.prog 53 #[.pointer (some ⟨d.s, 0, none⟩), .int .i64 v, .int .i64 6] V fun e w' => e = .returned (.tuple #[]) ∧ RMid A w w' g d lv m F W (m.learn lv one).T := by
  obtain ⟨hk0, vI, s, I, t, has, s2, k2, has2, hb, hp, hr⟩ := h
  obtain ⟨rfl, rfl, rfl, rfl, rfl, rfl, rfl⟩ := hr hl
  have hL := qsLearn_any d.B2 d.s d.vS 256 d.Q2 d.C2 m.T m.part (nr (sx (m.now.t lv))) v 6 V hp.sg
  rw [hv, gput_upd, show rt 6 = 6 from rfl, ← learn_T m one hl] at hL
  refine hL.mono ?_
  rintro e w' ⟨rfl, h1, h2⟩
  have hi : m.part < 256 := by have := hf.p; omega
  obtain ⟨cs, hq⟩ := hp.sg.lst.blk hi
  have hge : ∀ k, k = d.Q2 m.part → ¬ A k := fun k e => hp.off k (.inr (.inr (.inr (.inr (.inr (.inr (.inr ⟨_, hi, e⟩)))))))
  exact ⟨rfl, hk0.trans h2 (fun j _ e => hge j e), vI, _, _, _, _, _, _, _, hb.kept h2 (fun e => Blk.ne_ hb hq (by decide) e), hp.stepped hi h2 h1, fun _ => ⟨rfl, rfl, rfl, rfl, rfl, rfl, rfl⟩⟩
/-- The contexts turn. -/
theorem RMid.done {one : Bool} {V' : World} (h : RMid A w V g d lv m (m.learn lv one).tab (m.learn lv one).W (m.learn lv one).T) (hf : m.Fine) (h2 : lv ≤ 2) (hg : ¬ A g) (hk : Kept (fun k => k = g) V V') (hb : Blk V' g 79 (rmc d lv (nextPart m.part one) (nextLast m.part m.last one) (nextOlder m.part m.last m.older one))) :
    MdR A V' g lv (m.learn lv one) ∧ Kept (fun k => ¬ A k) w V' := by
  obtain ⟨hk0, vI, s, I, t, has, s2, k2, has2, hb0, hp, hr⟩ := h
  exact ⟨⟨d, vI, s, I, t, has, s2, k2, has2, hb, hp.far hk (fun _ h => h) hb0 (by decide) (by decide) (by decide) (by decide) (by decide) (by decide), hf.learn lv one, h2, hg⟩, hk0.trans hk (fun j _ e => (show j = g from e) ▸ hg)⟩
end

set_option maxHeartbeats 12800000 in
/-- Learn: P8.2. -/
theorem mrLearn_any (A : Nat → Prop) (g lv : Nat) (m : Mo) (b : Int) (w : World) (h : MdR A w g lv m) :
    Calls Tryd.prog 25 #[.pointer (some ⟨g, 0, none⟩), .int .i64 b] w fun e w' => e = .returned (.tuple #[]) ∧ MdR A w' g lv (m.learn lv (b != 0)) ∧ Kept (fun k => ¬ A k) w w' := by
  obtain ⟨d, vI, s, I, t, has, s2, k2, has2, hb, hp, hf, h2, hg⟩ := h
  have HC := Lib.hid (rChance_any A g d lv m vI s I t has s2 k2 has2 w hb hp hf h2)
  clear hb hp
  have p1 := hf.p.1
  have p2 := hf.p.2
  obtain ⟨one, hone⟩ : ∃ one, (b != 0) = one := ⟨_, rfl⟩
  rw [hone]
  cases one
  · rcases (by omega : lv = 0 ∨ lv = 1 ∨ lv = 2) with rfl | rfl | rfl
    · go_enter Tryd.func25, Tryd.ntmps25
      go_wp2_with fail
      refine HC.out.mono ?_
      rintro e w1 ⟨rfl, hst⟩
      have H1 : Hid (RMid A w w1 g d 0 m (tabTo m false 0) m.W m.T) := Lib.hid (by rw [tabTo_zero]; exact hst)
      clear hst HC
      have c0 : w1.cell? ⟨g, 0, none⟩ = some (.int .i64 0) := H1.out.blk.cell 0
      have c1 : w1.cell? ⟨g, 1, none⟩ = some (.pointer (some ⟨d.g 0, 0, none⟩)) := H1.out.blk.cell 1
      have c6 : w1.cell? ⟨g, 6, none⟩ = some (.int .i64 m.part) := H1.out.blk.cell 6
      have HT := Lib.hid ((H1.out.drewN 1).teach hf (by omega : 0 < 3) (v := 0) rfl)
      go_wp2_with fail
      go_still_tail 9, (by kernel_rfl)
      change wpList _ _ _ _ _ (w1.drewN 1)
      go_wp2_with fail
      refine HT.out.mono ?_
      rintro e w2 ⟨rfl, h2'⟩
      have H2 := Lib.hid h2'
      clear h2' HT H1 c0 c1 c6
      have c0 : w2.cell? ⟨g, 0, none⟩ = some (.int .i64 0) := H2.out.blk.cell 0
      have H5 := Lib.hid (H2.out.congr (fun i hi => tabTo_all m false (lv := 0) (by omega) hi))
      clear H2
      have HD : Hid (∀ V', Kept (fun k => k = g) w2 V' → Blk V' g 79 (rmc d 0 (nextPart m.part false) (nextLast m.part m.last false) (nextOlder m.part m.last m.older false)) → MdR A V' g 0 (m.learn 0 false) ∧ Kept (fun k => ¬ A k) w V') := Lib.hid fun V' hk hb => H5.out.done hf h2 hg hk hb
      have hb := H5.out.blk
      clear H5
      have c6 : w2.cell? ⟨g, 6, none⟩ = some (.int .i64 m.part) := hb.cell 6
      have f6 := hb.frozen 6
      have hb1 := hb.set_ 6 (.int .i64 (2 * (m.part : Int)))
      have hk1 : Kept (fun k => k = g) w2 (w2.setCell ⟨g, 6, none⟩ (.int .i64 (2 * (m.part : Int)))) := (Kept.refl (fun k => k = g) w2).setCell (p := ⟨g, 6, none⟩) (fun _ => rfl) _
      have d6 : (w2.setCell ⟨g, 6, none⟩ (.int .i64 (2 * (m.part : Int)))).cell? ⟨g, 6, none⟩ = some (.int .i64 (2 * (m.part : Int))) := hb1.cell 6
      have d7 : (w2.setCell ⟨g, 6, none⟩ (.int .i64 (2 * (m.part : Int)))).cell? ⟨g, 7, none⟩ = some (.int .i64 m.last) := hb1.cell 7
      have d8 : (w2.setCell ⟨g, 6, none⟩ (.int .i64 (2 * (m.part : Int)))).cell? ⟨g, 8, none⟩ = some (.int .i64 m.older) := hb1.cell 8
      have g6 := hb1.frozen 6
      have g7 := hb1.frozen 7
      have g8 := hb1.frozen 8
      have H8 := Lib.hid (And.intro hb1 hk1)
      clear hb hb1 hk1
      by_cases hbig : 256 ≤ 2 * m.part + 0
      · have hd : decide (256 ≤ (2 * (m.part : Int))) = true := by simp; omega
        go_wp2_with fail
        clear c6 f6
        generalize w2.setCell ⟨g, 6, none⟩ (.int .i64 (2 * (m.part : Int))) = w8 at *
        go_region
        show bodyPost _ _ _ _ _ _
        go_end0
        have h := (((H8.out.1.set_ 8 (.int .i64 m.last)).set_ 7 (.int .i64 ((2 * (m.part : Int)) - 256))).set_ 6 (.int .i64 1)).drew
        have hk := (((H8.out.2.setCell (p := ⟨g, 8, none⟩) (fun _ => rfl) (.int .i64 m.last)).setCell (p := ⟨g, 7, none⟩) (fun _ => rfl) (.int .i64 ((2 * (m.part : Int)) - 256))).setCell (p := ⟨g, 6, none⟩) (fun _ => rfl) (.int .i64 1)).drew
        have e2 : ((2 * m.part + 0 - 256 : Nat) : Int) = (2 * (m.part : Int)) - 256 := by omega
        have n1 : nextPart m.part false = 1 := if_pos (by show 2 * m.part + 0 ≥ 256; omega)
        have n2 : nextLast m.part m.last false = 2 * m.part + 0 - 256 := if_pos (by show 2 * m.part + 0 ≥ 256; omega)
        have n3 : nextOlder m.part m.last m.older false = m.last := if_pos (by show 2 * m.part + 0 ≥ 256; omega)
        have hD := HD.out _ hk (by rw [n1, n2, n3]; unfold rmc; rw [e2]; simpa [rmc] using h)
        exact ⟨rfl, hD⟩
      · have hd : decide (256 ≤ (2 * (m.part : Int))) = false := by simp; omega
        go_wp2_with fail
        go_end0
        have n1 : nextPart m.part false = 2 * m.part + 0 := if_neg (by show ¬ 2 * m.part + 0 ≥ 256; omega)
        have n2 : nextLast m.part m.last false = m.last := if_neg (by show ¬ 2 * m.part + 0 ≥ 256; omega)
        have n3 : nextOlder m.part m.last m.older false = m.older := if_neg (by show ¬ 2 * m.part + 0 ≥ 256; omega)
        have h := H8.out.1
        have hD := HD.out _ H8.out.2 (by rw [n1, n2, n3]; simpa [rmc] using h)
        exact ⟨rfl, hD⟩
    · go_enter Tryd.func25, Tryd.ntmps25
      go_wp2_with fail
      refine HC.out.mono ?_
      rintro e w1 ⟨rfl, hst⟩
      have H1 : Hid (RMid A w w1 g d 1 m (tabTo m false 0) m.W m.T) := Lib.hid (by rw [tabTo_zero]; exact hst)
      clear hst HC
      have c0 : w1.cell? ⟨g, 0, none⟩ = some (.int .i64 1) := H1.out.blk.cell 0
      have c1 : w1.cell? ⟨g, 1, none⟩ = some (.pointer (some ⟨d.g 0, 0, none⟩)) := H1.out.blk.cell 1
      have c6 : w1.cell? ⟨g, 6, none⟩ = some (.int .i64 m.part) := H1.out.blk.cell 6
      have HT := Lib.hid ((H1.out.drewN 1).teach hf (by omega : 0 < 3) (v := 0) rfl)
      go_wp2_with fail
      go_still_tail 9, (by kernel_rfl)
      change wpList _ _ _ _ _ (w1.drewN 1)
      go_wp2_with fail
      refine HT.out.mono ?_
      rintro e w2 ⟨rfl, h2'⟩
      have H2 := Lib.hid h2'
      clear h2' HT H1 c0 c1 c6
      have c0 : w2.cell? ⟨g, 0, none⟩ = some (.int .i64 1) := H2.out.blk.cell 0
      have c2 : w2.drew.cell? ⟨g, 2, none⟩ = some (.pointer (some ⟨d.g 1, 0, none⟩)) := H2.out.blk.cell 2
      have HS2 := Lib.hid (second_any g d 1 m.part m.last m.older w2.drew H2.out.blk.drew hf.p.2 hf.l)
      have HT2 : Hid (∀ n, Calls Tryd.prog 51 #[.pointer (some ⟨d.g 1, 0, none⟩), .int .i64 (key2 m.last m.part : Nat), .int .i64 0, .int .i64 4] (w2.drewN n) fun e w' => e = .returned (.tuple #[]) ∧ RMid A w w' g d 1 m (tabTo m false 2) m.W m.T) := Lib.hid fun n => (H2.out.drewN n).teach hf (by omega : 1 < 3) (v := 0) rfl
      have H2b : Hid (∀ n, (w2.drewN n).cell? ⟨g, 2, none⟩ = some (.pointer (some ⟨d.g 1, 0, none⟩))) := Lib.hid fun n => (H2.out.drewN n).blk.cell 2
      go_wp2_with fail
      go_region_held3 (fun v => v.cell? ⟨g, 2, none⟩ = some (.pointer (some ⟨d.g 1, 0, none⟩)))
        (first | exact c2 | exact H2b.out _ | exact h3'.blk.cell 2)
        (first
          | (go_at_call 49; with_reducible refine HS2.out.mono ?_; rintro e5 w5 ⟨rfl, n5, rfl⟩)
          | (go_at_call 51; with_reducible refine (HT2.out _).mono ?_; rintro e3 w3 ⟨rfl, h3'⟩))
      have H3 := Lib.hid h3'
      clear h3' HT2 HS2 H2b c2 c0 H2
      have c0 : w3.cell? ⟨g, 0, none⟩ = some (.int .i64 1) := H3.out.blk.cell 0
      have H5 := Lib.hid (H3.out.congr (fun i hi => tabTo_all m false (lv := 1) (by omega) hi))
      clear H3
      have c4 : w3.cell? ⟨g, 4, none⟩ = some (.pointer (some ⟨d.m, 0, none⟩)) := H5.out.blk.cell 4
      have HM := Lib.hid (H5.out.mixer (one := false) hf (by omega) (v := 0) rfl)
      go_wp2_with fail
      refine HM.out.mono ?_
      rintro e w6 ⟨rfl, h6'⟩
      have c5 : w6.cell? ⟨g, 5, none⟩ = some (.pointer (some ⟨d.s, 0, none⟩)) := h6'.blk.cell 5
      have HG := Lib.hid (h6'.stage (one := false) hf (by omega) (v := 0) rfl)
      clear h6' HM H5 c4
      go_wp2_with fail
      refine HG.out.mono ?_
      rintro e w7 ⟨rfl, h7'⟩
      have H5 := Lib.hid h7'
      clear h7' HG c5
      have HD : Hid (∀ V', Kept (fun k => k = g) w7 V' → Blk V' g 79 (rmc d 1 (nextPart m.part false) (nextLast m.part m.last false) (nextOlder m.part m.last m.older false)) → MdR A V' g 1 (m.learn 1 false) ∧ Kept (fun k => ¬ A k) w V') := Lib.hid fun V' hk hb => H5.out.done hf h2 hg hk hb
      have hb := H5.out.blk
      clear H5
      have c6 : w7.cell? ⟨g, 6, none⟩ = some (.int .i64 m.part) := hb.cell 6
      have f6 := hb.frozen 6
      have hb1 := hb.set_ 6 (.int .i64 (2 * (m.part : Int)))
      have hk1 : Kept (fun k => k = g) w7 (w7.setCell ⟨g, 6, none⟩ (.int .i64 (2 * (m.part : Int)))) := (Kept.refl (fun k => k = g) w7).setCell (p := ⟨g, 6, none⟩) (fun _ => rfl) _
      have d6 : (w7.setCell ⟨g, 6, none⟩ (.int .i64 (2 * (m.part : Int)))).cell? ⟨g, 6, none⟩ = some (.int .i64 (2 * (m.part : Int))) := hb1.cell 6
      have d7 : (w7.setCell ⟨g, 6, none⟩ (.int .i64 (2 * (m.part : Int)))).cell? ⟨g, 7, none⟩ = some (.int .i64 m.last) := hb1.cell 7
      have d8 : (w7.setCell ⟨g, 6, none⟩ (.int .i64 (2 * (m.part : Int)))).cell? ⟨g, 8, none⟩ = some (.int .i64 m.older) := hb1.cell 8
      have g6 := hb1.frozen 6
      have g7 := hb1.frozen 7
      have g8 := hb1.frozen 8
      have H8 := Lib.hid (And.intro hb1 hk1)
      clear hb hb1 hk1
      by_cases hbig : 256 ≤ 2 * m.part + 0
      · have hd : decide (256 ≤ (2 * (m.part : Int))) = true := by simp; omega
        go_wp2_with fail
        clear c6 f6
        generalize w7.setCell ⟨g, 6, none⟩ (.int .i64 (2 * (m.part : Int))) = w8 at *
        go_region
        show bodyPost _ _ _ _ _ _
        go_end0
        have h := (((H8.out.1.set_ 8 (.int .i64 m.last)).set_ 7 (.int .i64 ((2 * (m.part : Int)) - 256))).set_ 6 (.int .i64 1)).drew
        have hk := (((H8.out.2.setCell (p := ⟨g, 8, none⟩) (fun _ => rfl) (.int .i64 m.last)).setCell (p := ⟨g, 7, none⟩) (fun _ => rfl) (.int .i64 ((2 * (m.part : Int)) - 256))).setCell (p := ⟨g, 6, none⟩) (fun _ => rfl) (.int .i64 1)).drew
        have e2 : ((2 * m.part + 0 - 256 : Nat) : Int) = (2 * (m.part : Int)) - 256 := by omega
        have n1 : nextPart m.part false = 1 := if_pos (by show 2 * m.part + 0 ≥ 256; omega)
        have n2 : nextLast m.part m.last false = 2 * m.part + 0 - 256 := if_pos (by show 2 * m.part + 0 ≥ 256; omega)
        have n3 : nextOlder m.part m.last m.older false = m.last := if_pos (by show 2 * m.part + 0 ≥ 256; omega)
        have hD := HD.out _ hk (by rw [n1, n2, n3]; unfold rmc; rw [e2]; simpa [rmc] using h)
        exact ⟨rfl, hD⟩
      · have hd : decide (256 ≤ (2 * (m.part : Int))) = false := by simp; omega
        go_wp2_with fail
        go_end0
        have n1 : nextPart m.part false = 2 * m.part + 0 := if_neg (by show ¬ 2 * m.part + 0 ≥ 256; omega)
        have n2 : nextLast m.part m.last false = m.last := if_neg (by show ¬ 2 * m.part + 0 ≥ 256; omega)
        have n3 : nextOlder m.part m.last m.older false = m.older := if_neg (by show ¬ 2 * m.part + 0 ≥ 256; omega)
        have h := H8.out.1
        have hD := HD.out _ H8.out.2 (by rw [n1, n2, n3]; simpa [rmc] using h)
        exact ⟨rfl, hD⟩
    · go_enter Tryd.func25, Tryd.ntmps25
      go_wp2_with fail
      refine HC.out.mono ?_
      rintro e w1 ⟨rfl, hst⟩
      have H1 : Hid (RMid A w w1 g d 2 m (tabTo m false 0) m.W m.T) := Lib.hid (by rw [tabTo_zero]; exact hst)
      clear hst HC
      have c0 : w1.cell? ⟨g, 0, none⟩ = some (.int .i64 2) := H1.out.blk.cell 0
      have c1 : w1.cell? ⟨g, 1, none⟩ = some (.pointer (some ⟨d.g 0, 0, none⟩)) := H1.out.blk.cell 1
      have c6 : w1.cell? ⟨g, 6, none⟩ = some (.int .i64 m.part) := H1.out.blk.cell 6
      have HT := Lib.hid ((H1.out.drewN 1).teach hf (by omega : 0 < 3) (v := 0) rfl)
      go_wp2_with fail
      go_still_tail 9, (by kernel_rfl)
      change wpList _ _ _ _ _ (w1.drewN 1)
      go_wp2_with fail
      refine HT.out.mono ?_
      rintro e w2 ⟨rfl, h2'⟩
      have H2 := Lib.hid h2'
      clear h2' HT H1 c0 c1 c6
      have c0 : w2.cell? ⟨g, 0, none⟩ = some (.int .i64 2) := H2.out.blk.cell 0
      have c2 : w2.drew.cell? ⟨g, 2, none⟩ = some (.pointer (some ⟨d.g 1, 0, none⟩)) := H2.out.blk.cell 2
      have HS2 := Lib.hid (second_any g d 2 m.part m.last m.older w2.drew H2.out.blk.drew hf.p.2 hf.l)
      have HT2 : Hid (∀ n, Calls Tryd.prog 51 #[.pointer (some ⟨d.g 1, 0, none⟩), .int .i64 (key2 m.last m.part : Nat), .int .i64 0, .int .i64 4] (w2.drewN n) fun e w' => e = .returned (.tuple #[]) ∧ RMid A w w' g d 2 m (tabTo m false 2) m.W m.T) := Lib.hid fun n => (H2.out.drewN n).teach hf (by omega : 1 < 3) (v := 0) rfl
      have H2b : Hid (∀ n, (w2.drewN n).cell? ⟨g, 2, none⟩ = some (.pointer (some ⟨d.g 1, 0, none⟩))) := Lib.hid fun n => (H2.out.drewN n).blk.cell 2
      go_wp2_with fail
      go_region_held3 (fun v => v.cell? ⟨g, 2, none⟩ = some (.pointer (some ⟨d.g 1, 0, none⟩)))
        (first | exact c2 | exact H2b.out _ | exact h3'.blk.cell 2)
        (first
          | (go_at_call 49; with_reducible refine HS2.out.mono ?_; rintro e5 w5 ⟨rfl, n5, rfl⟩)
          | (go_at_call 51; with_reducible refine (HT2.out _).mono ?_; rintro e3 w3 ⟨rfl, h3'⟩))
      have H3 := Lib.hid h3'
      clear h3' HT2 HS2 H2b c2 c0 H2
      have c0 : w3.cell? ⟨g, 0, none⟩ = some (.int .i64 2) := H3.out.blk.cell 0
      have c3 : w3.drew.cell? ⟨g, 3, none⟩ = some (.pointer (some ⟨d.g 2, 0, none⟩)) := H3.out.blk.cell 3
      have HS2 := Lib.hid (third_any g d 2 m.part m.last m.older w3.drew H3.out.blk.drew hf.p.2 hf.l hf.o)
      have HT2 : Hid (∀ n, Calls Tryd.prog 51 #[.pointer (some ⟨d.g 2, 0, none⟩), .int .i64 (key3 m.older m.last m.part : Nat), .int .i64 0, .int .i64 3] (w3.drewN n) fun e w' => e = .returned (.tuple #[]) ∧ RMid A w w' g d 2 m (tabTo m false 3) m.W m.T) := Lib.hid fun n => (H3.out.drewN n).teach hf (by omega : 2 < 3) (v := 0) rfl
      have H2b : Hid (∀ n, (w3.drewN n).cell? ⟨g, 3, none⟩ = some (.pointer (some ⟨d.g 2, 0, none⟩))) := Lib.hid fun n => (H3.out.drewN n).blk.cell 3
      go_wp2_with fail
      go_region_held3 (fun v => v.cell? ⟨g, 3, none⟩ = some (.pointer (some ⟨d.g 2, 0, none⟩)))
        (first | exact c3 | exact H2b.out _ | exact h4'.blk.cell 3)
        (first
          | (go_at_call 47; with_reducible refine HS2.out.mono ?_; rintro e5 w5 ⟨rfl, n5, rfl⟩)
          | (go_at_call 51; with_reducible refine (HT2.out _).mono ?_; rintro e4 w4 ⟨rfl, h4'⟩))
      have H4 := Lib.hid h4'
      clear h4' HT2 HS2 H2b c3 c0 H3
      have H5 := Lib.hid (H4.out.congr (fun i hi => tabTo_all m false (lv := 2) (by omega) hi))
      clear H4
      have c4 : w4.cell? ⟨g, 4, none⟩ = some (.pointer (some ⟨d.m, 0, none⟩)) := H5.out.blk.cell 4
      have HM := Lib.hid (H5.out.mixer (one := false) hf (by omega) (v := 0) rfl)
      go_wp2_with fail
      refine HM.out.mono ?_
      rintro e w6 ⟨rfl, h6'⟩
      have c5 : w6.cell? ⟨g, 5, none⟩ = some (.pointer (some ⟨d.s, 0, none⟩)) := h6'.blk.cell 5
      have HG := Lib.hid (h6'.stage (one := false) hf (by omega) (v := 0) rfl)
      clear h6' HM H5 c4
      go_wp2_with fail
      refine HG.out.mono ?_
      rintro e w7 ⟨rfl, h7'⟩
      have H5 := Lib.hid h7'
      clear h7' HG c5
      have HD : Hid (∀ V', Kept (fun k => k = g) w7 V' → Blk V' g 79 (rmc d 2 (nextPart m.part false) (nextLast m.part m.last false) (nextOlder m.part m.last m.older false)) → MdR A V' g 2 (m.learn 2 false) ∧ Kept (fun k => ¬ A k) w V') := Lib.hid fun V' hk hb => H5.out.done hf h2 hg hk hb
      have hb := H5.out.blk
      clear H5
      have c6 : w7.cell? ⟨g, 6, none⟩ = some (.int .i64 m.part) := hb.cell 6
      have f6 := hb.frozen 6
      have hb1 := hb.set_ 6 (.int .i64 (2 * (m.part : Int)))
      have hk1 : Kept (fun k => k = g) w7 (w7.setCell ⟨g, 6, none⟩ (.int .i64 (2 * (m.part : Int)))) := (Kept.refl (fun k => k = g) w7).setCell (p := ⟨g, 6, none⟩) (fun _ => rfl) _
      have d6 : (w7.setCell ⟨g, 6, none⟩ (.int .i64 (2 * (m.part : Int)))).cell? ⟨g, 6, none⟩ = some (.int .i64 (2 * (m.part : Int))) := hb1.cell 6
      have d7 : (w7.setCell ⟨g, 6, none⟩ (.int .i64 (2 * (m.part : Int)))).cell? ⟨g, 7, none⟩ = some (.int .i64 m.last) := hb1.cell 7
      have d8 : (w7.setCell ⟨g, 6, none⟩ (.int .i64 (2 * (m.part : Int)))).cell? ⟨g, 8, none⟩ = some (.int .i64 m.older) := hb1.cell 8
      have g6 := hb1.frozen 6
      have g7 := hb1.frozen 7
      have g8 := hb1.frozen 8
      have H8 := Lib.hid (And.intro hb1 hk1)
      clear hb hb1 hk1
      by_cases hbig : 256 ≤ 2 * m.part + 0
      · have hd : decide (256 ≤ (2 * (m.part : Int))) = true := by simp; omega
        go_wp2_with fail
        clear c6 f6
        generalize w7.setCell ⟨g, 6, none⟩ (.int .i64 (2 * (m.part : Int))) = w8 at *
        go_region
        show bodyPost _ _ _ _ _ _
        go_end0
        have h := (((H8.out.1.set_ 8 (.int .i64 m.last)).set_ 7 (.int .i64 ((2 * (m.part : Int)) - 256))).set_ 6 (.int .i64 1)).drew
        have hk := (((H8.out.2.setCell (p := ⟨g, 8, none⟩) (fun _ => rfl) (.int .i64 m.last)).setCell (p := ⟨g, 7, none⟩) (fun _ => rfl) (.int .i64 ((2 * (m.part : Int)) - 256))).setCell (p := ⟨g, 6, none⟩) (fun _ => rfl) (.int .i64 1)).drew
        have e2 : ((2 * m.part + 0 - 256 : Nat) : Int) = (2 * (m.part : Int)) - 256 := by omega
        have n1 : nextPart m.part false = 1 := if_pos (by show 2 * m.part + 0 ≥ 256; omega)
        have n2 : nextLast m.part m.last false = 2 * m.part + 0 - 256 := if_pos (by show 2 * m.part + 0 ≥ 256; omega)
        have n3 : nextOlder m.part m.last m.older false = m.last := if_pos (by show 2 * m.part + 0 ≥ 256; omega)
        have hD := HD.out _ hk (by rw [n1, n2, n3]; unfold rmc; rw [e2]; simpa [rmc] using h)
        exact ⟨rfl, hD⟩
      · have hd : decide (256 ≤ (2 * (m.part : Int))) = false := by simp; omega
        go_wp2_with fail
        go_end0
        have n1 : nextPart m.part false = 2 * m.part + 0 := if_neg (by show ¬ 2 * m.part + 0 ≥ 256; omega)
        have n2 : nextLast m.part m.last false = m.last := if_neg (by show ¬ 2 * m.part + 0 ≥ 256; omega)
        have n3 : nextOlder m.part m.last m.older false = m.older := if_neg (by show ¬ 2 * m.part + 0 ≥ 256; omega)
        have h := H8.out.1
        have hD := HD.out _ H8.out.2 (by rw [n1, n2, n3]; simpa [rmc] using h)
        exact ⟨rfl, hD⟩
  · rcases (by omega : lv = 0 ∨ lv = 1 ∨ lv = 2) with rfl | rfl | rfl
    · go_enter Tryd.func25, Tryd.ntmps25
      go_wp2_with fail
      refine HC.out.mono ?_
      rintro e w1 ⟨rfl, hst⟩
      have H1 : Hid (RMid A w w1 g d 0 m (tabTo m true 0) m.W m.T) := Lib.hid (by rw [tabTo_zero]; exact hst)
      clear hst HC
      have c0 : w1.cell? ⟨g, 0, none⟩ = some (.int .i64 0) := H1.out.blk.cell 0
      have c1 : w1.cell? ⟨g, 1, none⟩ = some (.pointer (some ⟨d.g 0, 0, none⟩)) := H1.out.blk.cell 1
      have c6 : w1.cell? ⟨g, 6, none⟩ = some (.int .i64 m.part) := H1.out.blk.cell 6
      have HT := Lib.hid ((H1.out.drewN 1).teach hf (by omega : 0 < 3) (v := 1) rfl)
      go_wp2_with fail
      go_still_tail 9, (by kernel_rfl)
      change wpList _ _ _ _ _ (w1.drewN 1)
      go_wp2_with fail
      refine HT.out.mono ?_
      rintro e w2 ⟨rfl, h2'⟩
      have H2 := Lib.hid h2'
      clear h2' HT H1 c0 c1 c6
      have c0 : w2.cell? ⟨g, 0, none⟩ = some (.int .i64 0) := H2.out.blk.cell 0
      have H5 := Lib.hid (H2.out.congr (fun i hi => tabTo_all m true (lv := 0) (by omega) hi))
      clear H2
      have HD : Hid (∀ V', Kept (fun k => k = g) w2 V' → Blk V' g 79 (rmc d 0 (nextPart m.part true) (nextLast m.part m.last true) (nextOlder m.part m.last m.older true)) → MdR A V' g 0 (m.learn 0 true) ∧ Kept (fun k => ¬ A k) w V') := Lib.hid fun V' hk hb => H5.out.done hf h2 hg hk hb
      have hb := H5.out.blk
      clear H5
      have c6 : w2.cell? ⟨g, 6, none⟩ = some (.int .i64 m.part) := hb.cell 6
      have f6 := hb.frozen 6
      have hb1 := hb.set_ 6 (.int .i64 (2 * (m.part : Int) + 1))
      have hk1 : Kept (fun k => k = g) w2 (w2.setCell ⟨g, 6, none⟩ (.int .i64 (2 * (m.part : Int) + 1))) := (Kept.refl (fun k => k = g) w2).setCell (p := ⟨g, 6, none⟩) (fun _ => rfl) _
      have d6 : (w2.setCell ⟨g, 6, none⟩ (.int .i64 (2 * (m.part : Int) + 1))).cell? ⟨g, 6, none⟩ = some (.int .i64 (2 * (m.part : Int) + 1)) := hb1.cell 6
      have d7 : (w2.setCell ⟨g, 6, none⟩ (.int .i64 (2 * (m.part : Int) + 1))).cell? ⟨g, 7, none⟩ = some (.int .i64 m.last) := hb1.cell 7
      have d8 : (w2.setCell ⟨g, 6, none⟩ (.int .i64 (2 * (m.part : Int) + 1))).cell? ⟨g, 8, none⟩ = some (.int .i64 m.older) := hb1.cell 8
      have g6 := hb1.frozen 6
      have g7 := hb1.frozen 7
      have g8 := hb1.frozen 8
      have H8 := Lib.hid (And.intro hb1 hk1)
      clear hb hb1 hk1
      by_cases hbig : 256 ≤ 2 * m.part + 1
      · have hd : decide (256 ≤ (2 * (m.part : Int) + 1)) = true := by simp; omega
        go_wp2_with fail
        clear c6 f6
        generalize w2.setCell ⟨g, 6, none⟩ (.int .i64 (2 * (m.part : Int) + 1)) = w8 at *
        go_region
        show bodyPost _ _ _ _ _ _
        go_end0
        have h := (((H8.out.1.set_ 8 (.int .i64 m.last)).set_ 7 (.int .i64 ((2 * (m.part : Int) + 1) - 256))).set_ 6 (.int .i64 1)).drew
        have hk := (((H8.out.2.setCell (p := ⟨g, 8, none⟩) (fun _ => rfl) (.int .i64 m.last)).setCell (p := ⟨g, 7, none⟩) (fun _ => rfl) (.int .i64 ((2 * (m.part : Int) + 1) - 256))).setCell (p := ⟨g, 6, none⟩) (fun _ => rfl) (.int .i64 1)).drew
        have e2 : ((2 * m.part + 1 - 256 : Nat) : Int) = (2 * (m.part : Int) + 1) - 256 := by omega
        have n1 : nextPart m.part true = 1 := if_pos (by show 2 * m.part + 1 ≥ 256; omega)
        have n2 : nextLast m.part m.last true = 2 * m.part + 1 - 256 := if_pos (by show 2 * m.part + 1 ≥ 256; omega)
        have n3 : nextOlder m.part m.last m.older true = m.last := if_pos (by show 2 * m.part + 1 ≥ 256; omega)
        have hD := HD.out _ hk (by rw [n1, n2, n3]; unfold rmc; rw [e2]; simpa [rmc] using h)
        exact ⟨rfl, hD⟩
      · have hd : decide (256 ≤ (2 * (m.part : Int) + 1)) = false := by simp; omega
        go_wp2_with fail
        go_end0
        have n1 : nextPart m.part true = 2 * m.part + 1 := if_neg (by show ¬ 2 * m.part + 1 ≥ 256; omega)
        have n2 : nextLast m.part m.last true = m.last := if_neg (by show ¬ 2 * m.part + 1 ≥ 256; omega)
        have n3 : nextOlder m.part m.last m.older true = m.older := if_neg (by show ¬ 2 * m.part + 1 ≥ 256; omega)
        have h := H8.out.1
        have hD := HD.out _ H8.out.2 (by rw [n1, n2, n3]; simpa [rmc] using h)
        exact ⟨rfl, hD⟩
    · go_enter Tryd.func25, Tryd.ntmps25
      go_wp2_with fail
      refine HC.out.mono ?_
      rintro e w1 ⟨rfl, hst⟩
      have H1 : Hid (RMid A w w1 g d 1 m (tabTo m true 0) m.W m.T) := Lib.hid (by rw [tabTo_zero]; exact hst)
      clear hst HC
      have c0 : w1.cell? ⟨g, 0, none⟩ = some (.int .i64 1) := H1.out.blk.cell 0
      have c1 : w1.cell? ⟨g, 1, none⟩ = some (.pointer (some ⟨d.g 0, 0, none⟩)) := H1.out.blk.cell 1
      have c6 : w1.cell? ⟨g, 6, none⟩ = some (.int .i64 m.part) := H1.out.blk.cell 6
      have HT := Lib.hid ((H1.out.drewN 1).teach hf (by omega : 0 < 3) (v := 1) rfl)
      go_wp2_with fail
      go_still_tail 9, (by kernel_rfl)
      change wpList _ _ _ _ _ (w1.drewN 1)
      go_wp2_with fail
      refine HT.out.mono ?_
      rintro e w2 ⟨rfl, h2'⟩
      have H2 := Lib.hid h2'
      clear h2' HT H1 c0 c1 c6
      have c0 : w2.cell? ⟨g, 0, none⟩ = some (.int .i64 1) := H2.out.blk.cell 0
      have c2 : w2.drew.cell? ⟨g, 2, none⟩ = some (.pointer (some ⟨d.g 1, 0, none⟩)) := H2.out.blk.cell 2
      have HS2 := Lib.hid (second_any g d 1 m.part m.last m.older w2.drew H2.out.blk.drew hf.p.2 hf.l)
      have HT2 : Hid (∀ n, Calls Tryd.prog 51 #[.pointer (some ⟨d.g 1, 0, none⟩), .int .i64 (key2 m.last m.part : Nat), .int .i64 1, .int .i64 4] (w2.drewN n) fun e w' => e = .returned (.tuple #[]) ∧ RMid A w w' g d 1 m (tabTo m true 2) m.W m.T) := Lib.hid fun n => (H2.out.drewN n).teach hf (by omega : 1 < 3) (v := 1) rfl
      have H2b : Hid (∀ n, (w2.drewN n).cell? ⟨g, 2, none⟩ = some (.pointer (some ⟨d.g 1, 0, none⟩))) := Lib.hid fun n => (H2.out.drewN n).blk.cell 2
      go_wp2_with fail
      go_region_held3 (fun v => v.cell? ⟨g, 2, none⟩ = some (.pointer (some ⟨d.g 1, 0, none⟩)))
        (first | exact c2 | exact H2b.out _ | exact h3'.blk.cell 2)
        (first
          | (go_at_call 49; with_reducible refine HS2.out.mono ?_; rintro e5 w5 ⟨rfl, n5, rfl⟩)
          | (go_at_call 51; with_reducible refine (HT2.out _).mono ?_; rintro e3 w3 ⟨rfl, h3'⟩))
      have H3 := Lib.hid h3'
      clear h3' HT2 HS2 H2b c2 c0 H2
      have c0 : w3.cell? ⟨g, 0, none⟩ = some (.int .i64 1) := H3.out.blk.cell 0
      have H5 := Lib.hid (H3.out.congr (fun i hi => tabTo_all m true (lv := 1) (by omega) hi))
      clear H3
      have c4 : w3.cell? ⟨g, 4, none⟩ = some (.pointer (some ⟨d.m, 0, none⟩)) := H5.out.blk.cell 4
      have HM := Lib.hid (H5.out.mixer (one := true) hf (by omega) (v := 1) rfl)
      go_wp2_with fail
      refine HM.out.mono ?_
      rintro e w6 ⟨rfl, h6'⟩
      have c5 : w6.cell? ⟨g, 5, none⟩ = some (.pointer (some ⟨d.s, 0, none⟩)) := h6'.blk.cell 5
      have HG := Lib.hid (h6'.stage (one := true) hf (by omega) (v := 1) rfl)
      clear h6' HM H5 c4
      go_wp2_with fail
      refine HG.out.mono ?_
      rintro e w7 ⟨rfl, h7'⟩
      have H5 := Lib.hid h7'
      clear h7' HG c5
      have HD : Hid (∀ V', Kept (fun k => k = g) w7 V' → Blk V' g 79 (rmc d 1 (nextPart m.part true) (nextLast m.part m.last true) (nextOlder m.part m.last m.older true)) → MdR A V' g 1 (m.learn 1 true) ∧ Kept (fun k => ¬ A k) w V') := Lib.hid fun V' hk hb => H5.out.done hf h2 hg hk hb
      have hb := H5.out.blk
      clear H5
      have c6 : w7.cell? ⟨g, 6, none⟩ = some (.int .i64 m.part) := hb.cell 6
      have f6 := hb.frozen 6
      have hb1 := hb.set_ 6 (.int .i64 (2 * (m.part : Int) + 1))
      have hk1 : Kept (fun k => k = g) w7 (w7.setCell ⟨g, 6, none⟩ (.int .i64 (2 * (m.part : Int) + 1))) := (Kept.refl (fun k => k = g) w7).setCell (p := ⟨g, 6, none⟩) (fun _ => rfl) _
      have d6 : (w7.setCell ⟨g, 6, none⟩ (.int .i64 (2 * (m.part : Int) + 1))).cell? ⟨g, 6, none⟩ = some (.int .i64 (2 * (m.part : Int) + 1)) := hb1.cell 6
      have d7 : (w7.setCell ⟨g, 6, none⟩ (.int .i64 (2 * (m.part : Int) + 1))).cell? ⟨g, 7, none⟩ = some (.int .i64 m.last) := hb1.cell 7
      have d8 : (w7.setCell ⟨g, 6, none⟩ (.int .i64 (2 * (m.part : Int) + 1))).cell? ⟨g, 8, none⟩ = some (.int .i64 m.older) := hb1.cell 8
      have g6 := hb1.frozen 6
      have g7 := hb1.frozen 7
      have g8 := hb1.frozen 8
      have H8 := Lib.hid (And.intro hb1 hk1)
      clear hb hb1 hk1
      by_cases hbig : 256 ≤ 2 * m.part + 1
      · have hd : decide (256 ≤ (2 * (m.part : Int) + 1)) = true := by simp; omega
        go_wp2_with fail
        clear c6 f6
        generalize w7.setCell ⟨g, 6, none⟩ (.int .i64 (2 * (m.part : Int) + 1)) = w8 at *
        go_region
        show bodyPost _ _ _ _ _ _
        go_end0
        have h := (((H8.out.1.set_ 8 (.int .i64 m.last)).set_ 7 (.int .i64 ((2 * (m.part : Int) + 1) - 256))).set_ 6 (.int .i64 1)).drew
        have hk := (((H8.out.2.setCell (p := ⟨g, 8, none⟩) (fun _ => rfl) (.int .i64 m.last)).setCell (p := ⟨g, 7, none⟩) (fun _ => rfl) (.int .i64 ((2 * (m.part : Int) + 1) - 256))).setCell (p := ⟨g, 6, none⟩) (fun _ => rfl) (.int .i64 1)).drew
        have e2 : ((2 * m.part + 1 - 256 : Nat) : Int) = (2 * (m.part : Int) + 1) - 256 := by omega
        have n1 : nextPart m.part true = 1 := if_pos (by show 2 * m.part + 1 ≥ 256; omega)
        have n2 : nextLast m.part m.last true = 2 * m.part + 1 - 256 := if_pos (by show 2 * m.part + 1 ≥ 256; omega)
        have n3 : nextOlder m.part m.last m.older true = m.last := if_pos (by show 2 * m.part + 1 ≥ 256; omega)
        have hD := HD.out _ hk (by rw [n1, n2, n3]; unfold rmc; rw [e2]; simpa [rmc] using h)
        exact ⟨rfl, hD⟩
      · have hd : decide (256 ≤ (2 * (m.part : Int) + 1)) = false := by simp; omega
        go_wp2_with fail
        go_end0
        have n1 : nextPart m.part true = 2 * m.part + 1 := if_neg (by show ¬ 2 * m.part + 1 ≥ 256; omega)
        have n2 : nextLast m.part m.last true = m.last := if_neg (by show ¬ 2 * m.part + 1 ≥ 256; omega)
        have n3 : nextOlder m.part m.last m.older true = m.older := if_neg (by show ¬ 2 * m.part + 1 ≥ 256; omega)
        have h := H8.out.1
        have hD := HD.out _ H8.out.2 (by rw [n1, n2, n3]; simpa [rmc] using h)
        exact ⟨rfl, hD⟩
    · go_enter Tryd.func25, Tryd.ntmps25
      go_wp2_with fail
      refine HC.out.mono ?_
      rintro e w1 ⟨rfl, hst⟩
      have H1 : Hid (RMid A w w1 g d 2 m (tabTo m true 0) m.W m.T) := Lib.hid (by rw [tabTo_zero]; exact hst)
      clear hst HC
      have c0 : w1.cell? ⟨g, 0, none⟩ = some (.int .i64 2) := H1.out.blk.cell 0
      have c1 : w1.cell? ⟨g, 1, none⟩ = some (.pointer (some ⟨d.g 0, 0, none⟩)) := H1.out.blk.cell 1
      have c6 : w1.cell? ⟨g, 6, none⟩ = some (.int .i64 m.part) := H1.out.blk.cell 6
      have HT := Lib.hid ((H1.out.drewN 1).teach hf (by omega : 0 < 3) (v := 1) rfl)
      go_wp2_with fail
      go_still_tail 9, (by kernel_rfl)
      change wpList _ _ _ _ _ (w1.drewN 1)
      go_wp2_with fail
      refine HT.out.mono ?_
      rintro e w2 ⟨rfl, h2'⟩
      have H2 := Lib.hid h2'
      clear h2' HT H1 c0 c1 c6
      have c0 : w2.cell? ⟨g, 0, none⟩ = some (.int .i64 2) := H2.out.blk.cell 0
      have c2 : w2.drew.cell? ⟨g, 2, none⟩ = some (.pointer (some ⟨d.g 1, 0, none⟩)) := H2.out.blk.cell 2
      have HS2 := Lib.hid (second_any g d 2 m.part m.last m.older w2.drew H2.out.blk.drew hf.p.2 hf.l)
      have HT2 : Hid (∀ n, Calls Tryd.prog 51 #[.pointer (some ⟨d.g 1, 0, none⟩), .int .i64 (key2 m.last m.part : Nat), .int .i64 1, .int .i64 4] (w2.drewN n) fun e w' => e = .returned (.tuple #[]) ∧ RMid A w w' g d 2 m (tabTo m true 2) m.W m.T) := Lib.hid fun n => (H2.out.drewN n).teach hf (by omega : 1 < 3) (v := 1) rfl
      have H2b : Hid (∀ n, (w2.drewN n).cell? ⟨g, 2, none⟩ = some (.pointer (some ⟨d.g 1, 0, none⟩))) := Lib.hid fun n => (H2.out.drewN n).blk.cell 2
      go_wp2_with fail
      go_region_held3 (fun v => v.cell? ⟨g, 2, none⟩ = some (.pointer (some ⟨d.g 1, 0, none⟩)))
        (first | exact c2 | exact H2b.out _ | exact h3'.blk.cell 2)
        (first
          | (go_at_call 49; with_reducible refine HS2.out.mono ?_; rintro e5 w5 ⟨rfl, n5, rfl⟩)
          | (go_at_call 51; with_reducible refine (HT2.out _).mono ?_; rintro e3 w3 ⟨rfl, h3'⟩))
      have H3 := Lib.hid h3'
      clear h3' HT2 HS2 H2b c2 c0 H2
      have c0 : w3.cell? ⟨g, 0, none⟩ = some (.int .i64 2) := H3.out.blk.cell 0
      have c3 : w3.drew.cell? ⟨g, 3, none⟩ = some (.pointer (some ⟨d.g 2, 0, none⟩)) := H3.out.blk.cell 3
      have HS2 := Lib.hid (third_any g d 2 m.part m.last m.older w3.drew H3.out.blk.drew hf.p.2 hf.l hf.o)
      have HT2 : Hid (∀ n, Calls Tryd.prog 51 #[.pointer (some ⟨d.g 2, 0, none⟩), .int .i64 (key3 m.older m.last m.part : Nat), .int .i64 1, .int .i64 3] (w3.drewN n) fun e w' => e = .returned (.tuple #[]) ∧ RMid A w w' g d 2 m (tabTo m true 3) m.W m.T) := Lib.hid fun n => (H3.out.drewN n).teach hf (by omega : 2 < 3) (v := 1) rfl
      have H2b : Hid (∀ n, (w3.drewN n).cell? ⟨g, 3, none⟩ = some (.pointer (some ⟨d.g 2, 0, none⟩))) := Lib.hid fun n => (H3.out.drewN n).blk.cell 3
      go_wp2_with fail
      go_region_held3 (fun v => v.cell? ⟨g, 3, none⟩ = some (.pointer (some ⟨d.g 2, 0, none⟩)))
        (first | exact c3 | exact H2b.out _ | exact h4'.blk.cell 3)
        (first
          | (go_at_call 47; with_reducible refine HS2.out.mono ?_; rintro e5 w5 ⟨rfl, n5, rfl⟩)
          | (go_at_call 51; with_reducible refine (HT2.out _).mono ?_; rintro e4 w4 ⟨rfl, h4'⟩))
      have H4 := Lib.hid h4'
      clear h4' HT2 HS2 H2b c3 c0 H3
      have H5 := Lib.hid (H4.out.congr (fun i hi => tabTo_all m true (lv := 2) (by omega) hi))
      clear H4
      have c4 : w4.cell? ⟨g, 4, none⟩ = some (.pointer (some ⟨d.m, 0, none⟩)) := H5.out.blk.cell 4
      have HM := Lib.hid (H5.out.mixer (one := true) hf (by omega) (v := 1) rfl)
      go_wp2_with fail
      refine HM.out.mono ?_
      rintro e w6 ⟨rfl, h6'⟩
      have c5 : w6.cell? ⟨g, 5, none⟩ = some (.pointer (some ⟨d.s, 0, none⟩)) := h6'.blk.cell 5
      have HG := Lib.hid (h6'.stage (one := true) hf (by omega) (v := 1) rfl)
      clear h6' HM H5 c4
      go_wp2_with fail
      refine HG.out.mono ?_
      rintro e w7 ⟨rfl, h7'⟩
      have H5 := Lib.hid h7'
      clear h7' HG c5
      have HD : Hid (∀ V', Kept (fun k => k = g) w7 V' → Blk V' g 79 (rmc d 2 (nextPart m.part true) (nextLast m.part m.last true) (nextOlder m.part m.last m.older true)) → MdR A V' g 2 (m.learn 2 true) ∧ Kept (fun k => ¬ A k) w V') := Lib.hid fun V' hk hb => H5.out.done hf h2 hg hk hb
      have hb := H5.out.blk
      clear H5
      have c6 : w7.cell? ⟨g, 6, none⟩ = some (.int .i64 m.part) := hb.cell 6
      have f6 := hb.frozen 6
      have hb1 := hb.set_ 6 (.int .i64 (2 * (m.part : Int) + 1))
      have hk1 : Kept (fun k => k = g) w7 (w7.setCell ⟨g, 6, none⟩ (.int .i64 (2 * (m.part : Int) + 1))) := (Kept.refl (fun k => k = g) w7).setCell (p := ⟨g, 6, none⟩) (fun _ => rfl) _
      have d6 : (w7.setCell ⟨g, 6, none⟩ (.int .i64 (2 * (m.part : Int) + 1))).cell? ⟨g, 6, none⟩ = some (.int .i64 (2 * (m.part : Int) + 1)) := hb1.cell 6
      have d7 : (w7.setCell ⟨g, 6, none⟩ (.int .i64 (2 * (m.part : Int) + 1))).cell? ⟨g, 7, none⟩ = some (.int .i64 m.last) := hb1.cell 7
      have d8 : (w7.setCell ⟨g, 6, none⟩ (.int .i64 (2 * (m.part : Int) + 1))).cell? ⟨g, 8, none⟩ = some (.int .i64 m.older) := hb1.cell 8
      have g6 := hb1.frozen 6
      have g7 := hb1.frozen 7
      have g8 := hb1.frozen 8
      have H8 := Lib.hid (And.intro hb1 hk1)
      clear hb hb1 hk1
      by_cases hbig : 256 ≤ 2 * m.part + 1
      · have hd : decide (256 ≤ (2 * (m.part : Int) + 1)) = true := by simp; omega
        go_wp2_with fail
        clear c6 f6
        generalize w7.setCell ⟨g, 6, none⟩ (.int .i64 (2 * (m.part : Int) + 1)) = w8 at *
        go_region
        show bodyPost _ _ _ _ _ _
        go_end0
        have h := (((H8.out.1.set_ 8 (.int .i64 m.last)).set_ 7 (.int .i64 ((2 * (m.part : Int) + 1) - 256))).set_ 6 (.int .i64 1)).drew
        have hk := (((H8.out.2.setCell (p := ⟨g, 8, none⟩) (fun _ => rfl) (.int .i64 m.last)).setCell (p := ⟨g, 7, none⟩) (fun _ => rfl) (.int .i64 ((2 * (m.part : Int) + 1) - 256))).setCell (p := ⟨g, 6, none⟩) (fun _ => rfl) (.int .i64 1)).drew
        have e2 : ((2 * m.part + 1 - 256 : Nat) : Int) = (2 * (m.part : Int) + 1) - 256 := by omega
        have n1 : nextPart m.part true = 1 := if_pos (by show 2 * m.part + 1 ≥ 256; omega)
        have n2 : nextLast m.part m.last true = 2 * m.part + 1 - 256 := if_pos (by show 2 * m.part + 1 ≥ 256; omega)
        have n3 : nextOlder m.part m.last m.older true = m.last := if_pos (by show 2 * m.part + 1 ≥ 256; omega)
        have hD := HD.out _ hk (by rw [n1, n2, n3]; unfold rmc; rw [e2]; simpa [rmc] using h)
        exact ⟨rfl, hD⟩
      · have hd : decide (256 ≤ (2 * (m.part : Int) + 1)) = false := by simp; omega
        go_wp2_with fail
        go_end0
        have n1 : nextPart m.part true = 2 * m.part + 1 := if_neg (by show ¬ 2 * m.part + 1 ≥ 256; omega)
        have n2 : nextLast m.part m.last true = m.last := if_neg (by show ¬ 2 * m.part + 1 ≥ 256; omega)
        have n3 : nextOlder m.part m.last m.older true = m.older := if_neg (by show ¬ 2 * m.part + 1 ≥ 256; omega)
        have h := H8.out.1
        have hD := HD.out _ H8.out.2 (by rw [n1, n2, n3]; simpa [rmc] using h)
        exact ⟨rfl, hD⟩

end Go.Proofs.YtpknbfkknnaajaaDoor
