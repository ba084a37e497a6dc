/- The code's model: New, Chance, Learn, and what is known of one (Mdl). -/
import Derived.Test.YtpknbfkknnaajaaDoorModL
import Derived.Test.YtpknbfkknnaajaaDoorModN
namespace Go.Proofs.YtpknbfkknnaajaaDoor
set_option maxRecDepth 100000
open Go.RowKit

attribute [local go_sem ↓] Go.wp_at_zero Go.wp_at_succ

/-- At block g lies a model of level lv, behind what m has learnt; all that it is made of lies in F. -/
def Mdl (F : Nat → Prop) (w : World) (g lv : Nat) (m : Mo) : Prop :=
  ∃ (d : Ids) (s : Nat) (I : Nat → Int) (t : Int) (q : Option (Nat × Nat)) (u : Int), Blk w g 103 (mcs d lv m.part m.last m.older u) ∧ Prt w d m.tab m.W m.T s I t q ∧ (u = 0 ∨ u = m.chance lv ∧ Rdy lv m s I t q) ∧
    m.Fine ∧ lv ≤ 2 ∧ Kin w ∧ (∀ k, d.has k → F k) ∧ F g ∧ (∀ k, F k → 0 < k)

theorem Mo.Fine.chance_bd {m : Mo} (h : m.Fine) (lv : Nat) : 1 ≤ m.chance lv ∧ m.chance lv ≤ 4095 := by
  unfold Mo.chance Ps.chance
  split
  · have := ch_bd (h.a m.part)
    show (1 : Int) ≤ ((ch (m.A m.part) : Nat) : Int) ∧ ((ch (m.A m.part) : Nat) : Int) ≤ 4095
    omega
  · have h1 : 1 ≤ m.now.t lv ∧ m.now.t lv ≤ 4095 := tl_bd _ _
    have h2 : 1 ≤ rd m.now.T (sx (m.now.t lv)) ∧ rd m.now.T (sx (m.now.t lv)) ≤ 4095 := rd_bd (h.t _) _
    omega

section
variable {F S : Nat → Prop} {w w' : World} {g lv : Nat} {m : Mo}
theorem Mdl.fine (h : Mdl F w g lv m) : m.Fine := by obtain ⟨_, _, _, _, _, _, _, _, _, h, _⟩ := h; exact h
theorem Mdl.kin (h : Mdl F w g lv m) : Kin w := by obtain ⟨_, _, _, _, _, _, _, _, _, _, _, h, _⟩ := h; exact h
theorem Mdl.kept (h : Mdl F w g lv m) (hk : Kept S w w') (h0 : ¬ S 0) (hS : ∀ k, F k → ¬ S k) : Mdl F w' g lv m := by
  obtain ⟨d, s, I, t, q, u, hb, hp, hu, hf, h2, hki, hd, hg, hF⟩ := h
  exact ⟨d, s, I, t, q, u, hb.kept hk (hS _ hg), hp.kept hk (fun k e => hS _ (hd k e)), hu, hf, h2, hki.kept hk h0, hd, hg, hF⟩
theorem Mdl.fresh (h : Mdl F w g lv m) (hk : Fresh w w') : Mdl F w' g lv m := h.kept hk id (fun _ _ => id)
end

set_option maxHeartbeats 1600000 in
/-- Chance: P8.2. -/
theorem mdChance_any (F : Nat → Prop) (g lv : Nat) (m : Mo) (w : World) (h : Mdl F w g lv m) :
    Calls Tryd.prog 58 #[.pointer (some ⟨g, 0, none⟩)] w fun e w' => e = .returned (.int .i64 (m.chance lv)) ∧ Kept F w w' ∧
      ∃ (d : Ids) (s : Nat) (I : Nat → Int) (t : Int) (q : Option (Nat × Nat)), Blk w' g 103 (mcs d lv m.part m.last m.older (m.chance lv)) ∧ Prt w' d m.tab m.W m.T s I t q ∧ Rdy lv m s I t q ∧ m.Fine ∧ lv ≤ 2 ∧ Kin w' ∧ (∀ k, d.has k → F k) ∧ F g ∧ (∀ k, F k → 0 < k) := by
  obtain ⟨d, s, I, t, q, u, hb, hp, hu, hf, h2, hki, hd, hg, hF⟩ := h
  have hcb := hf.chance_bd lv
  have c9 : w.cell? ⟨g, 9, none⟩ = some (.int .i64 u) := hb.cell 9
  rcases hu with rfl | ⟨rfl, hr⟩
  · have hm0 : (0 : Int) ≤ (m.part : Int) := by omega
    have hp3 := hf.p
    have HP := Lib.hid (places_any g d lv m.part m.last m.older 0 w.drew hb.drew hf.p.2 hf.l hf.o)
    have HC : Hid (∀ V, Fresh w.drew V → Calls Tryd.prog 73 #[.pointer (some ⟨g, 3, none⟩), .agg (kcs m)] V fun e w' => e = .returned (.int .i64 (m.chance lv)) ∧
      ∃ s' I' t' q', Prt w' d m.tab m.W m.T s' I' t' q' ∧ Rdy lv m s' I' t' q' ∧ Kept (fun k => k = d.m ∨ k = d.s) V w') := Lib.hid fun V hk => gchance_any g d lv m s I t q 0 V (hb.drew.kept hk id) ((hp.fresh (Kept.refl _ w).drew).fresh hk) hf h2
    have HN : Hid (∀ (V V2 : World) s' I' t' q', Fresh w.drew V → Prt V2 d m.tab m.W m.T s' I' t' q' → Rdy lv m s' I' t' q' → Kept (fun k => k = d.m ∨ k = d.s) V V2 → Blk V2 g 103 (mcs d lv m.part m.last m.older 0) ∧ (Kept F w (V2.setCell ⟨g, 9, none⟩ (.int .i64 (m.chance lv))) ∧
      ∃ (d : Ids) (s : Nat) (I : Nat → Int) (t : Int) (q : Option (Nat × Nat)), Blk (V2.setCell ⟨g, 9, none⟩ (.int .i64 (m.chance lv))) g 103 (mcs d lv m.part m.last m.older (m.chance lv)) ∧ Prt (V2.setCell ⟨g, 9, none⟩ (.int .i64 (m.chance lv))) d m.tab m.W m.T s I t q ∧ Rdy lv m s I t q ∧ m.Fine ∧ lv ≤ 2 ∧ Kin (V2.setCell ⟨g, 9, none⟩ (.int .i64 (m.chance lv))) ∧ (∀ k, d.has k → F k) ∧ F g ∧ (∀ k, F k → 0 < k))) :=
      Lib.hid fun V V2 s' I' t' q' hk1 hp2 hr2 hk2 => by
        have hp1 := (hp.fresh (Kept.refl _ w).drew).fresh hk1
        have hb1 := hb.drew.kept hk1 id
        have hin : ∀ k, (k = d.m ∨ k = d.s) → d.has k := fun k e => e.elim (fun e => e ▸ .inr (.inl rfl)) (fun e => e ▸ .inr (.inr (.inr (.inl rfl))))
        have hb2 := hb1.kept hk2 (fun e => hp1.ne_ hb1 (by decide) (by decide) (by decide) (by decide) (by decide) (by decide) (hin _ e) rfl)
        have hks : Kept (fun j => j = g) V2 (V2.setCell ⟨g, 9, none⟩ (.int .i64 (m.chance lv))) := (Kept.refl (fun j => j = g) V2).setCell (p := ⟨g, 9, none⟩) (fun _ => rfl) _
        have hkF : Kept F w V2 := (((Kept.refl F w).drew).trans hk1 (fun _ _ h => h.elim)).trans hk2 (fun j _ e => hd j (hin j e))
        have hkF2 := hkF.trans hks (fun j _ e => (show j = g from e) ▸ hg)
        refine ⟨hb2, hkF2, d, s', I', t', q', ?_, hp2.kept hks (fun k e => hp2.ne_ hb2 (by decide) (by decide) (by decide) (by decide) (by decide) (by decide) e), hr2, hf, h2, hki.kept hkF2 (fun e => absurd (hF _ e) (Nat.lt_irrefl _)), hd, hg, hF⟩
        simpa [mcs] using hb2.set_ 9 (.int .i64 (m.chance lv))
    have HD := Lib.hid hcb
    clear hb hp hf h2 hki hd hg hF hcb
    go_enter Tryd.func58, Tryd.ntmps58
    go_wp2_with fail
    go_region_held3 (fun _ => True) (trivial)
      (first
        | (go_at_call 74; refine HP.out.mono ?_; rintro e5 w5 ⟨rfl, hf5⟩)
        | (go_at_call 73; refine (HC.out w5 hf5).mono ?_; rintro e6 w6 ⟨rfl, s6, I6, t6, q6, hp6, hr6, hk6⟩; have h6 := HN.out w5 w6 s6 I6 t6 q6 hf5 hp6 hr6 hk6; have c69 := h6.1.cell 9; have f69 := h6.1.frozen 9))
    have H7 := Lib.hid h6.2
    have c7 : (w6.setCell ⟨g, 9, none⟩ (.int .i64 (m.chance lv))).cell? ⟨g, 9, none⟩ = some (.int .i64 (m.chance lv)) := by
      obtain ⟨d', _, _, _, _, hb7, _⟩ := h6.2.2
      exact hb7.cell 9
    clear h6 c69 f69 hp6 hr6 hk6 hf5 HC HN HP c9
    generalize w6.setCell ⟨g, 9, none⟩ (.int .i64 (m.chance lv)) = w7 at *
    go_wp2_with fail
    go_ret
    exact ⟨rfl, H7.out⟩
  · have hz : (m.chance lv == 0) = false := by rw [beq_eq_false_iff_ne]; omega
    have HF := Lib.hid (show Kept F w w ∧ ∃ (d : Ids) (s : Nat) (I : Nat → Int) (t : Int) (q : Option (Nat × Nat)), Blk w g 103 (mcs d lv m.part m.last m.older (m.chance lv)) ∧ Prt w d m.tab m.W m.T s I t q ∧ Rdy lv m s I t q ∧ m.Fine ∧ lv ≤ 2 ∧ Kin w ∧ (∀ k, d.has k → F k) ∧ F g ∧ (∀ k, F k → 0 < k) from ⟨Kept.refl _ _, d, s, I, t, q, hb, hp, hr, hf, h2, hki, hd, hg, hF⟩)
    clear hb hp hf h2 hki hd hg hF hr
    go_enter Tryd.func58, Tryd.ntmps58
    go_wp2_with fail
    go_ret
    exact ⟨rfl, HF.out⟩

/-- .. as it is used. -/
theorem mChance_any (F : Nat → Prop) (g lv : Nat) (m : Mo) (w : World) (h : Mdl F w g lv m) :
    Calls Tryd.prog 58 #[.pointer (some ⟨g, 0, none⟩)] w fun e w' => e = .returned (.int .i64 (m.chance lv)) ∧ Mdl F w' g lv m ∧ Kept F w w' := by
  refine (mdChance_any F g lv m w h).mono ?_
  rintro e w' ⟨rfl, hk, d, s, I, t, q, hb, hp, hr, hf, h2, hki, hd, hg, hF⟩
  exact ⟨rfl, ⟨d, s, I, t, q, _, hb, hp, .inr ⟨rfl, hr⟩, hf, h2, hki, hd, hg, hF⟩, hk⟩

set_option maxHeartbeats 1600000 in
/-- Learn: P8.2. -/
theorem mdLearn_any (F : Nat → Prop) (g lv : Nat) (m : Mo) (b : Int) (w : World) (h : Mdl F w g lv m) :
    Calls Tryd.prog 63 #[.pointer (some ⟨g, 0, none⟩), .int .i64 b] w fun e w' => e = .returned (.tuple #[]) ∧ Mdl F w' g lv (m.learn lv (b != 0)) ∧ Kept F w w' := by
  have HC := Lib.hid (mdChance_any F g lv m w h)
  clear h
  go_enter Tryd.func63, Tryd.ntmps63
  go_wp2_with fail
  refine HC.out.mono ?_
  rintro e w1 ⟨rfl, hk, d, s, I, t, q, hb, hp, hr, hf, h2, hki, hd, hg, hF⟩
  have HP := Lib.hid (places_any g d lv m.part m.last m.older (m.chance lv) w1.drew hb.drew hf.p.2 hf.l hf.o)
  have HL : Hid (∀ V, Fresh w1.drew V → Calls Tryd.prog 78 #[.pointer (some ⟨g, 3, none⟩), .agg (kcs m), .int .i64 b] V fun e w' => e = .returned (.tuple #[]) ∧
      ∃ s' I' t' q', Prt w' d (m.learn lv (b != 0)).tab (m.learn lv (b != 0)).W (m.learn lv (b != 0)).T s' I' t' q' ∧ Kept (fun k => d.has k) V w') :=
    Lib.hid fun V hkV => glearn_any g d lv m s I t q (m.chance lv) b V (hb.drew.kept hkV id) ((hp.fresh (Kept.refl _ w1).drew).fresh hkV) hr ((hki.kept (Kept.refl (fun _ => False) w1).drew id).kept hkV id) (fun k e => hF k (hd k e)) hf h2
  have HN : Hid (∀ (V V2 : World) s' I' t' q', Fresh w1.drew V → Prt V2 d (m.learn lv (b != 0)).tab (m.learn lv (b != 0)).W (m.learn lv (b != 0)).T s' I' t' q' → Kept (fun k => d.has k) V V2 → Blk V2 g 103 (mcs d lv m.part m.last m.older (m.chance lv)) ∧
      ∀ V3, Blk V3 g 103 (mcs d lv (nextPart m.part (b != 0)) (nextLast m.part m.last (b != 0)) (nextOlder m.part m.last m.older (b != 0)) (m.chance lv)) → Kept (fun k => k = g) V2 V3 → Mdl F (V3.setCell ⟨g, 9, none⟩ (.int .i64 0)) g lv (m.learn lv (b != 0)) ∧ Kept F w (V3.setCell ⟨g, 9, none⟩ (.int .i64 0))) :=
    Lib.hid fun V V2 s' I' t' q' hk1 hp2 hk2 => by
      have hp1 := (hp.fresh (Kept.refl _ w1).drew).fresh hk1
      have hb1 := hb.drew.kept hk1 id
      have hb2 := hb1.kept hk2 (fun e => hp1.ne_ hb1 (by decide) (by decide) (by decide) (by decide) (by decide) (by decide) e rfl)
      refine ⟨hb2, fun V3 hb3 hk3 => ?_⟩
      have hks : Kept (fun j => j = g) V2 (V3.setCell ⟨g, 9, none⟩ (.int .i64 0)) := hk3.setCell (p := ⟨g, 9, none⟩) (fun _ => rfl) _
      have hkF : Kept F w V2 := (hk.drew.trans hk1 (fun _ _ h => h.elim)).trans hk2 (fun j _ e => hd j e)
      have hkF2 := hkF.trans hks (fun j _ e => (show j = g from e) ▸ hg)
      have hkF1 : Kept F w1 (V3.setCell ⟨g, 9, none⟩ (.int .i64 0)) := ((((Kept.refl F w1).drew).trans hk1 (fun _ _ h => h.elim)).trans hk2 (fun j _ e => hd j e)).trans hks (fun j _ e => (show j = g from e) ▸ hg)
      refine ⟨⟨d, s', I', t', q', 0, ?_, hp2.kept hks (fun k e => hp2.ne_ hb2 (by decide) (by decide) (by decide) (by decide) (by decide) (by decide) e), .inl rfl, hf.learn lv _, h2, hki.kept hkF1 (fun e => absurd (hF _ e) (Nat.lt_irrefl _)), hd, hg, hF⟩, hkF2⟩
      have := hb3.set_ 9 (.int .i64 0)
      rw [show (m.learn lv (b != 0)).part = nextPart m.part (b != 0) from rfl, show (m.learn lv (b != 0)).last = nextLast m.part m.last (b != 0) from rfl, show (m.learn lv (b != 0)).older = nextOlder m.part m.last m.older (b != 0) from rfl]
      simpa [mcs] using this
  have h0 := hf.p.1
  have h1 := hf.p.2
  clear hb hp hf h2 hki hd hg hF HC hk hr
  go_wp2_with fail
  go_region_held3 (fun _ => True) (trivial)
    (first
      | (go_at_call 74; refine HP.out.mono ?_; rintro e5 w5 ⟨rfl, hf5⟩)
      | (go_at_call 78; refine (HL.out w5 hf5).mono ?_; rintro e6 w6 ⟨rfl, s6, I6, t6, q6, hp6, hk6⟩; have H6 := Lib.hid (HN.out w5 w6 s6 I6 t6 q6 hf5 hp6 hk6)))
  have HT := Lib.hid (take_any g d lv m.part m.last m.older (m.chance lv) b w6 H6.out.1 h0 h1)
  clear hp6 hk6 hf5 HL HN HP
  go_wp2_with fail
  refine HT.out.mono ?_
  rintro e w7 ⟨rfl, hb7, hk7⟩
  have c9 : w7.cell? ⟨g, 9, none⟩ = some (.int .i64 (m.chance lv)) := hb7.cell 9
  have f9 := hb7.frozen 9
  have H7 := Lib.hid (H6.out.2 w7 hb7 hk7)
  clear hb7 hk7 H6 HT
  go_wp2_with fail
  go_end0
  exact ⟨rfl, H7.out⟩

/-- Nil. -/
theorem mdChance_nil (w : World) : Calls Tryd.prog 58 #[.pointer none] w fun e w' => e = .returned (.int .i64 0) ∧ w' = w := by
  go_enter Tryd.func58, Tryd.ntmps58
  go_wp2_with fail
  go_ret
  exact ⟨rfl, rfl⟩
theorem mdLearn_nil (b : Int) (w : World) : Calls Tryd.prog 63 #[.pointer none, .int .i64 b] w fun e w' => e = .returned (.tuple #[]) ∧ w' = w := by
  go_enter Tryd.func63, Tryd.ntmps63
  go_wp2_with fail
  refine bodyPost_ret (results_none rfl _ _ _) rfl ?_
  exact ⟨rfl, rfl⟩

/-- A level, as it counts. -/
def lvl (n : Int) : Nat := (min (max n 0) 2).toNat
theorem lvl_int (n : Int) : min (max n 0) 2 = ((lvl n : Nat) : Int) := by unfold lvl; omega
theorem lvl_int2 (n : Int) : max 0 (min n 2) = ((lvl n : Nat) : Int) := by unfold lvl; omega
theorem lvl_bd (n : Int) : lvl n ≤ 2 := by unfold lvl; omega

set_option maxHeartbeats 800000 in
/-- New: P8.1. -/
theorem mdNew_any (n : Int) (w : World) (hk : Kin w) : Calls Tryd.prog 35 #[.int .i64 n] w fun e w' => ∃ g, e = .returned (.pointer (some ⟨g, 0, none⟩)) ∧ Mdl (fun k => w.heap.size ≤ k ∧ k < w'.heap.size) w' g (lvl n) mo0 ∧ Fresh w w' := by
  have hl := lvl_int n
  have hb := lvl_bd n
  generalize lvl n = lv at *
  have HG := Lib.hid (newGuesser_any lv w hk)
  have hp0 := hk.pos
  have HK := Lib.hid hk
  clear hk
  go_enter Tryd.func35, Tryd.ntmps35
  go_wp2_with fail
  refine HG.out.mono ?_
  rintro e w5 ⟨d, rfl, hp, hd, hf⟩
  have hfa : Fresh w5 (w5.alloc (.cells (mcs d lv 1 0 0 0) 103)) := (Kept.refl _ _).alloc _
  have HF : Hid (Mdl (fun k => w.heap.size ≤ k ∧ k < (w5.alloc (.cells (mcs d lv 1 0 0 0) 103)).heap.size) (w5.alloc (.cells (mcs d lv 1 0 0 0) 103)) w5.heap.size lv mo0 ∧ Fresh w (w5.alloc (.cells (mcs d lv 1 0 0 0) 103))) := Lib.hid
    ⟨⟨d, 0, fun _ => 0, 0, none, 0, Blk.new _ _ _, hp.fresh hfa, .inl rfl, mo0_fine, hb, (HK.out.kept hf id).kept hfa id, fun k e => ⟨hd k e, by rw [alloc_size]; have := hp.lt e; omega⟩, ⟨hf.size, by rw [alloc_size]; omega⟩, fun k e => by omega⟩, hf.trans hfa (fun _ _ h => h)⟩
  clear hfa hp hd hf HK HG hp0
  go_wp2_with fail
  go_ret
  exact ⟨_, rfl, HF.out⟩

end Go.Proofs.YtpknbfkknnaajaaDoor
