/- Texts of this proof, one behind the other: ModN, ModO. -/
import Derived.Test.YtpknbfkknnaajaaDoorPart16

/- The code's guesser: newGuesser. -/
namespace Go.Proofs.YtpknbfkknnaajaaDoor
set_option maxRecDepth 100000
open Go.RowKit

attribute [local go_sem ↓] Go.wp_at_zero Go.wp_at_succ

theorem mo0_tab (k : Nat) : mo0.tab k = fun _ => 32768 := by
  unfold Mo.tab; (repeat' split) <;> rfl
theorem many_tn {k : Nat} (h : k < 3) : many_of ((tn k : Nat) : Int) = tn k := by
  rcases (by omega : k = 0 ∨ k = 1 ∨ k = 2) with rfl | rfl | rfl <;> rfl
/-- The guesser's cells. -/
def gvs (lv : Nat) (G : Nat → Nat) (k m s : Nat) : Array Value :=
  #[.int .i64 lv, if 0 < k then .pointer (some ⟨G 0, 0, none⟩) else .pointer none, if 1 < k then .pointer (some ⟨G 1, 0, none⟩) else .pointer none, if 2 < k then .pointer (some ⟨G 2, 0, none⟩) else .pointer none, .pointer (some ⟨m, 0, none⟩), .pointer (some ⟨s, 0, none⟩)]
theorem gvs_put (lv : Nat) (G : Nat → Nat) (m s x : Nat) {k : Nat} (h : k < 3) : (gvs lv G k m s).setIfInBounds (1 + k) (.pointer (some ⟨x, 0, none⟩)) = gvs lv (upd G k x) (k + 1) m s := by
  rcases (by omega : k = 0 ∨ k = 1 ∨ k = 2) with rfl | rfl | rfl <;> simp [gvs, upd]
theorem gvs_get (lv : Nat) (G : Nat → Nat) (m s : Nat) {k : Nat} (h : k < 3) : (gvs lv G k m s)[1 + k]? = some (.pointer none) := by
  rcases (by omega : k = 0 ∨ k = 1 ∨ k = 2) with rfl | rfl | rfl <;> rfl
theorem gvs_one (lv : Nat) (G : Nat → Nat) (k m s : Nat) : (gvs lv G k m s).all (·.oneCell') = true := by
  unfold gvs
  apply toArray_all
  intro v hv
  simp only [List.mem_cons, List.not_mem_nil, or_false] at hv
  rcases hv with rfl | rfl | rfl | rfl | rfl | rfl
  · rfl
  · split <;> rfl
  · split <;> rfl
  · split <;> rfl
  · rfl
  · rfl
theorem run_index_kc (W : World) {k : Nat} (h : k < 3) : (Instr.index 126 (.agg kc) (.int .i64 k)).run Tryd.prog W = .ok (.agg #[.int .i64 (tn k : Nat), .int .i64 (tr k : Nat)]) W := by
  rcases (by omega : k = 0 ∨ k = 1 ∨ k = 2) with rfl | rfl | rfl <;> kernel_rfl
theorem run_loadAt_st {P : Program} {w : World} {g : Nat} {t ty : TypeId} {fs : Array Field} {cs : Array Value} (h : Blk w g t cs) (hu : P.underlying ty = some (.struct fs)) (hi : (P.info? ty).map (·.size) = some cs.size) :
    (Instr.loadAt ty (.pointer (some ⟨g, 0, none⟩))).run P w = .ok (.agg cs) w := by
  simp only [Instr.loadAt, Instr.sureAddr, Sem.run_bind, Sem.run_pure, Result.andThen]
  exact run_loadVar_row _ _ _ _ cs (0, 0) _ h hu rfl hi

/-- The tables that have been made. -/
structure Made (w : World) (B k : Nat) (G : Nat → Nat) (V : Nat → Value) : Prop where
  tab : ∀ i, i < k → TabC w (G i) (V i) (ft (tn i) (mo0.tab i))
  lo : ∀ i, i < k → B ≤ G i ∧ ∀ j, (V i).ownBlock = some j → B ≤ j
  inj : ∀ i j x, i < k → j < k → (V i).ownBlock = some x → (V j).ownBlock = some x → i = j
theorem Made.fresh {w w' : World} {B k : Nat} {G : Nat → Nat} {V : Nat → Value} (h : Made w B k G V) (hf : Fresh w w') : Made w' B k G V :=
  ⟨fun i hi => (h.tab i hi).kept hf id (fun _ _ => id), h.lo, h.inj⟩
theorem Made.kept {w w' : World} {B k b : Nat} {G : Nat → Nat} {V : Nat → Value} (h : Made w B k G V) {ty : TypeId} {cs : Array Value} (hf : Kept (fun j => j = b) w w') (hb : Blk w b ty cs) (h1 : 147 ≠ ty) (h2 : 108 ≠ ty) : Made w' B k G V :=
  ⟨fun i hi => (h.tab i hi).kept hf (fun e => Blk.ne_ (h.tab i hi).blk hb h1 e) (fun j e e' => (h.tab i hi).own.ne_blk hb h2 (by rw [e, e'])), h.lo, h.inj⟩
/-- One more. -/
theorem Made.more {w w' : World} {B k : Nat} {G : Nat → Nat} {V : Nat → Value} (h : Made w B k G V) (hf : Fresh w w') (hB : B ≤ w.heap.size) {g : Nat} {v : Value} (ht : TabC w' g v (ft (tn k) (mo0.tab k))) (hg : w.heap.size ≤ g) (hv : ∀ j, v.ownBlock = some j → w.heap.size ≤ j) : Made w' B (k + 1) (upd G k g) (upd V k v) := by
  refine ⟨fun i hi => ?_, fun i hi => ?_, fun i j x hi hj e1 e2 => ?_⟩
  · by_cases e : i = k
    · subst e; rw [upd_at, upd_at]; exact ht
    · rw [upd_ne e, upd_ne e]; exact (h.fresh hf).tab i (by omega)
  · by_cases e : i = k
    · subst e; rw [upd_at, upd_at]; exact ⟨Nat.le_trans hB hg, fun j hj => Nat.le_trans hB (hv j hj)⟩
    · rw [upd_ne e, upd_ne e]; exact h.lo i (by omega)
  · by_cases a : i = k
    · by_cases b : j = k
      · rw [a, b]
      · subst a
        rw [upd_at] at e1
        rw [upd_ne b] at e2
        have := (h.tab j (by omega)).own.lt e2
        have := hv x e1
        omega
    · rw [upd_ne a] at e1
      by_cases b : j = k
      · subst b
        rw [upd_at] at e2
        have := (h.tab i (by omega)).own.lt e1
        have := hv x e2
        omega
      · rw [upd_ne b] at e2
        exact h.inj i j x (by omega) (by omega) e1 e2

set_option maxHeartbeats 1600000 in
/-- newGuesser. -/
theorem newGuesser_any (lv : Nat) (w : World) (hk : Kin w) : Calls Tryd.prog 61 #[.int .i64 lv] w fun e w' => ∃ d : Ids, e = .returned (.agg #[.int .i64 lv, .pointer (some ⟨d.g 0, 0, none⟩), .pointer (some ⟨d.g 1, 0, none⟩), .pointer (some ⟨d.g 2, 0, none⟩), .pointer (some ⟨d.m, 0, none⟩), .pointer (some ⟨d.s, 0, none⟩)]) ∧
      Prt w' d mo0.tab mo0.W mo0.T 0 (fun _ => 0) 0 none ∧ (∀ k, d.has k → w.heap.size ≤ k) ∧ Fresh w w' := by
  have hr0 := Blk.new w 100 #[.int .i64 0, .pointer none, .pointer none, .pointer none, .pointer none, .pointer none]
  have hf0 : Fresh w (w.alloc (.cells #[.int .i64 0, .pointer none, .pointer none, .pointer none, .pointer none, .pointer none] 100)) := (Kept.refl _ _).alloc _
  have H0 := Lib.hid (And.intro hr0 (And.intro hf0 (hk.kept hf0 id)))
  clear hr0 hf0 hk
  go_enter Tryd.func61, Tryd.ntmps61
  go_wp2_with fail
  refine (mNew_any 256 _).mono ?_
  rintro e w2 ⟨gm, hm, rfl, hmx, hm1, hm2, hf2⟩
  rw [show ns 256 = 256 from rfl] at hmx
  have hr2 := H0.out.1.kept hf2 id
  have hsz2 : w.heap.size ≤ gm ∧ w.heap.size ≤ hm ∧ w.heap.size < w2.heap.size := ⟨Nat.le_trans H0.out.2.1.size hm1, Nat.le_trans H0.out.2.1.size hm2, hr2.lt⟩
  have H2 := Lib.hid (And.intro hr2 (And.intro (H0.out.2.1.trans hf2 (fun _ _ h => h)) (And.intro (H0.out.2.2.kept hf2 id) (And.intro hmx hsz2))))
  clear H0 hmx hm1 hm2 hf2 hr2 hsz2
  go_wp2_with fail
  refine (sNew_any 256 _).mono ?_
  rintro e w3 ⟨gs, hz, rfl, hst, hs1, hs2, hf3⟩
  rw [show nc 256 = 256 from rfl] at hst
  have hr3 := (H2.out.1.kept hf3 id).alloc (.cells (gvs lv (fun _ => 0) 0 gm gs) 100)
  have hg3 := Blk.new w3 100 (gvs lv (fun _ => 0) 0 gm gs)
  have hfa : Fresh w3 (w3.alloc (.cells (gvs lv (fun _ => 0) 0 gm gs) 100)) := (Kept.refl _ _).alloc _
  have hsz := H2.out.2.2.2.2
  have hsz3 : w.heap.size ≤ gm ∧ w.heap.size ≤ hm ∧ w.heap.size ≤ gs ∧ w.heap.size ≤ hz ∧ w.heap.size < w3.heap.size := ⟨hsz.1, hsz.2.1, by omega, by omega, by have := hf3.size; omega⟩
  have hkin := ((H2.out.2.2.1.kept hf3 id).kept hfa id)
  have hld := hkin.load
  have H4 := Lib.hid (And.intro hr3 (And.intro hg3 (And.intro ((H2.out.2.1.trans hf3 (fun _ _ h => h)).trans hfa (fun _ _ h => h)) (And.intro hkin (And.intro ((H2.out.2.2.2.1.kept hf3 id id).kept hfa id id) (hst.kept hfa id id))))))
  have HL := Lib.hid hld
  clear hst hs1 hs2 hf3 hr3 hg3 hfa hsz hkin hld H2
  go_wp2_with (refine wpList_load_eq rfl (.global 0) 126 rfl _ _ rfl HL.out ?_)
  clear HL
  generalize hG : w3.heap.size = gg at *
  clear hG
  go_loopw [11] (fun i wr => ∃ (k : Nat) (G : Nat → Nat) (V : Nat → Value), k ≤ 3 ∧ i = .int .i64 k ∧ Blk wr gg 100 (gvs lv G k gm gs) ∧ Blk wr w.heap.size 100 #[.int .i64 0, .pointer none, .pointer none, .pointer none, .pointer none, .pointer none] ∧ Made wr w.heap.size k G V ∧ Mxr wr gm hm 256 (fun _ _ => 16384) 0 (fun _ => 0) 0 ∧ Stg wr gs hz 256 (fun _ => fs) none ∧ Fresh w wr) (fun i _ => (3 - intOf i).toNat)
  case atStart => exact ⟨0, fun _ => 0, fun _ => undef, by omega, rfl, H4.out.2.1, H4.out.1, ⟨fun i hi => by omega, fun i hi => by omega, fun i j x hi => by omega⟩, H4.out.2.2.2.2.1, H4.out.2.2.2.2.2, H4.out.2.2.1⟩
  case round =>
    obtain ⟨k, G, V, hk, rfl, hg, hr, hmd, hmx, hst, hfr⟩ := hrel
    clear H4
    by_cases hlt : k < 3
    · have hx := fun W => run_index_kc W hlt
      have hfa : Fresh wr (wr.alloc (.cells #[.int .i64 (tn k : Nat), .int .i64 (tr k : Nat)] 125)) := (Kept.refl _ _).alloc _
      have hN := gNew_any (tn k : Nat) (wr.alloc (.cells #[.int .i64 (tn k : Nat), .int .i64 (tr k : Nat)] 125))
      rw [many_tn hlt, ← ft_const] at hN
      have HN := Lib.hid hN
      have HS := Lib.hid (And.intro (hg.kept hfa id) (And.intro (hr.kept hfa id) (And.intro (hmd.fresh hfa) (And.intro (hmx.kept hfa id id) (And.intro (hst.kept hfa id id) (hfr.trans hfa (fun _ _ h => h)))))))
      have k0 : (0 : Int) ≤ (k : Int) := by omega
      have k1 : (k : Int) < 3 := by omega
      have hsz := hfr.size
      clear hg hr hmd hmx hst hfr hfa hN
      go_wp2_with fail
      refine HN.out.mono ?_
      rintro e w6 ⟨g6, v6, rfl, ht6, hg6, hv6, hf6⟩
      rw [← mo0_tab k] at ht6
      have hm6 := HS.out.2.2.1.more hf6 (HS.out.2.2.2.2.2.size) ht6 hg6 hv6
      have hb6 := HS.out.1.kept hf6 id
      have c6 := hb6.cell (1 + k)
      rw [gvs_get lv G gm gs hlt] at c6
      have f6 := hb6.frozen (1 + k)
      have hs6 := hb6.set_ (1 + k) (.pointer (some ⟨g6, 0, none⟩))
      rw [gvs_put lv G gm gs g6 hlt] at hs6
      have hk6 : Kept (fun j => j = gg) w6 (w6.setCell ⟨gg, 1 + k, none⟩ (.pointer (some ⟨g6, 0, none⟩))) := (Kept.refl (fun j => j = gg) w6).setCell (p := ⟨gg, 1 + k, none⟩) (fun _ => rfl) _
      have hmx6 := HS.out.2.2.2.1.kept hf6 id id
      have hst6 := HS.out.2.2.2.2.1.kept hf6 id id
      have H6 := Lib.hid (And.intro hs6 (And.intro ((HS.out.2.1.kept hf6 id).kept hk6 (by omega)) (And.intro (hm6.kept hk6 hb6 (by decide) (by decide)) (And.intro (hmx6.kept hk6 (Blk.ne_ hmx6.blk hb6 (by decide)) (Blk.ne_ hmx6.sets hb6 (by decide))) (And.intro (hst6.kept hk6 (Blk.ne_ hst6.blk hb6 (by decide)) (Blk.ne_ hst6.steps hb6 (by decide))) ((HS.out.2.2.2.2.2.trans hf6 (fun _ _ h => h)).setCell (p := ⟨gg, 1 + k, none⟩) (fun h => by have h' : gg < w.heap.size := h; omega) (.pointer (some ⟨g6, 0, none⟩))))))))
      clear hm6 hb6 hs6 hk6 hmx6 hst6 ht6 hg6 hv6 hf6 HS HN
      go_wp2_with fail
      go_roundw
      case rel => exact ⟨k + 1, _, _, by omega, by go_num, H6.out⟩
      case measure => simp [intOf]; omega
    · obtain rfl : k = 3 := by omega
      have k1 : ¬ ((3 : Nat) : Int) < 3 := by omega
      have hl := run_loadAt_st (P := Tryd.prog) (ty := 100) hg Tryd.underlying100 (by kernel_rfl)
      have hs := run_storeAt_blk (P := Tryd.prog) (ty := 100) (cs' := gvs lv G 3 gm gs) hr (by kernel_rfl) rfl (gvs_one _ _ _ _ _)
      have hk2 : Kept (fun j => j = w.heap.size) wr (wr.setRow w.heap.size (gvs lv G 3 gm gs)) := (Kept.refl (fun j => j = w.heap.size) wr).rowed _ (fun _ => rfl)
      have H := Lib.hid (And.intro (hr.rowed (cs' := gvs lv G 3 gm gs)) (And.intro (hmd.kept hk2 hr (by decide) (by decide)) (And.intro (hmx.kept hk2 (Blk.ne_ hmx.blk hr (by decide)) (Blk.ne_ hmx.sets hr (by decide))) (And.intro (hst.kept hk2 (Blk.ne_ hst.blk hr (by decide)) (Blk.ne_ hst.steps hr (by decide))) (hfr.rowed (g := w.heap.size) (gvs lv G 3 gm gs) (fun h => absurd h (Nat.lt_irrefl _)))))))
      have HL := Lib.hid (And.intro hl hs)
      clear hg hr hmd hmx hst hfr hk2 hl hs
      generalize wr.setRow w.heap.size (gvs lv G 3 gm gs) = W2 at *
      go_wp2_with (first
        | (refine wpList_load_eq rfl (.tmp 3) 100 rfl _ _ rfl HL.out.1 ?_)
        | (refine wpList_store_eq rfl (.tmp 2) (.tmp 22) 100 rfl _ _ rfl rfl HL.out.2 ?_))
      have hlv : (loadVar 100 ⟨w.heap.size, 0, none⟩).run Tryd.prog W2 = .ok (.agg (gvs lv G 3 gm gs)) W2 := run_loadVar_row _ _ _ _ _ (0, 0) _ H.out.1 Tryd.underlying100 rfl (by kernel_rfl)
      refine bodyPost_ret (v := .agg (gvs lv G 3 gm gs)) ?_ rfl ?_
      · simp only [results, Tryd.results61, Sem.run_bind, asAddr, Result.andThen]
        simp [hlv]
      · refine ⟨⟨G, V, gm, hm, gs, hz⟩, rfl, ⟨H.out.2.1.tab, H.out.2.2.1, H.out.2.2.2.1, H.out.2.1.inj⟩, ?_, H.out.2.2.2.2⟩
        rintro j (⟨i, hi, rfl | e⟩ | rfl | rfl | rfl | rfl)
        · exact (H.out.2.1.lo i hi).1
        · exact (H.out.2.1.lo i hi).2 j e
        · exact hsz3.1
        · exact hsz3.2.1
        · exact hsz3.2.2.1
        · exact hsz3.2.2.2.1

end Go.Proofs.YtpknbfkknnaajaaDoor

/- The code's model: New, Chance, Learn, and what is known of one (Mdl). -/
namespace Go.Proofs.YtpknbfkknnaajaaDoor
set_option maxRecDepth 100000
open Go.RowKit

attribute [local go_sem ↓] Go.wp_at_zero Go.wp_at_succ

/-- At block g lies a model of level lv, behind what m has learnt; all that it is made of lies in F. -/
def Mdl (F : Nat → Prop) (w : World) (g lv : Nat) (m : Mo) : Prop :=
  ∃ (d : Ids) (s : Nat) (I : Nat → Int) (t : Int) (q : Option (Nat × Nat)) (u : Int), Blk w g 103 (mcs d lv m.part m.last m.older u) ∧ Prt w d m.tab m.W m.T s I t q ∧ (u = 0 ∨ u = m.chance lv ∧ Rdy lv m s I t q) ∧
    m.Fine ∧ lv ≤ 2 ∧ Kin w ∧ (∀ k, d.has k → F k) ∧ F g ∧ (∀ k, F k → 0 < k)

theorem Mo.Fine.chance_bd {m : Mo} (h : m.Fine) (lv : Nat) : 1 ≤ m.chance lv ∧ m.chance lv ≤ 4095 := by
  unfold Mo.chance Ps.chance
  split
  · have := ch_bd (h.a m.part)
    show (1 : Int) ≤ ((ch (m.A m.part) : Nat) : Int) ∧ ((ch (m.A m.part) : Nat) : Int) ≤ 4095
    omega
  · have h1 : 1 ≤ m.now.t lv ∧ m.now.t lv ≤ 4095 := tl_bd _ _
    have h2 : 1 ≤ rd m.now.T (sx (m.now.t lv)) ∧ rd m.now.T (sx (m.now.t lv)) ≤ 4095 := rd_bd (h.t _) _
    omega

section
variable {F S : Nat → Prop} {w w' : World} {g lv : Nat} {m : Mo}
theorem Mdl.fine (h : Mdl F w g lv m) : m.Fine := by obtain ⟨_, _, _, _, _, _, _, _, _, h, _⟩ := h; exact h
theorem Mdl.kin (h : Mdl F w g lv m) : Kin w := by obtain ⟨_, _, _, _, _, _, _, _, _, _, _, h, _⟩ := h; exact h
theorem Mdl.kept (h : Mdl F w g lv m) (hk : Kept S w w') (h0 : ¬ S 0) (hS : ∀ k, F k → ¬ S k) : Mdl F w' g lv m := by
  obtain ⟨d, s, I, t, q, u, hb, hp, hu, hf, h2, hki, hd, hg, hF⟩ := h
  exact ⟨d, s, I, t, q, u, hb.kept hk (hS _ hg), hp.kept hk (fun k e => hS _ (hd k e)), hu, hf, h2, hki.kept hk h0, hd, hg, hF⟩
theorem Mdl.fresh (h : Mdl F w g lv m) (hk : Fresh w w') : Mdl F w' g lv m := h.kept hk id (fun _ _ => id)
end

set_option maxHeartbeats 1600000 in
/-- Chance: P8.2. -/
theorem mdChance_any (F : Nat → Prop) (g lv : Nat) (m : Mo) (w : World) (h : Mdl F w g lv m) :
    Calls Tryd.prog 58 #[.pointer (some ⟨g, 0, none⟩)] w fun e w' => e = .returned (.int .i64 (m.chance lv)) ∧ Kept F w w' ∧
      ∃ (d : Ids) (s : Nat) (I : Nat → Int) (t : Int) (q : Option (Nat × Nat)), Blk w' g 103 (mcs d lv m.part m.last m.older (m.chance lv)) ∧ Prt w' d m.tab m.W m.T s I t q ∧ Rdy lv m s I t q ∧ m.Fine ∧ lv ≤ 2 ∧ Kin w' ∧ (∀ k, d.has k → F k) ∧ F g ∧ (∀ k, F k → 0 < k) := by
  obtain ⟨d, s, I, t, q, u, hb, hp, hu, hf, h2, hki, hd, hg, hF⟩ := h
  have hcb := hf.chance_bd lv
  have c9 : w.cell? ⟨g, 9, none⟩ = some (.int .i64 u) := hb.cell 9
  rcases hu with rfl | ⟨rfl, hr⟩
  · have hm0 : (0 : Int) ≤ (m.part : Int) := by omega
    have hp3 := hf.p
    have HP := Lib.hid (places_any g d lv m.part m.last m.older 0 w.drew hb.drew hf.p.2 hf.l hf.o)
    have HC : Hid (∀ V, Fresh w.drew V → Calls Tryd.prog 73 #[.pointer (some ⟨g, 3, none⟩), .agg (kcs m)] V fun e w' => e = .returned (.int .i64 (m.chance lv)) ∧
      ∃ s' I' t' q', Prt w' d m.tab m.W m.T s' I' t' q' ∧ Rdy lv m s' I' t' q' ∧ Kept (fun k => k = d.m ∨ k = d.s) V w') := Lib.hid fun V hk => gchance_any g d lv m s I t q 0 V (hb.drew.kept hk id) ((hp.fresh (Kept.refl _ w).drew).fresh hk) hf h2
    have HN : Hid (∀ (V V2 : World) s' I' t' q', Fresh w.drew V → Prt V2 d m.tab m.W m.T s' I' t' q' → Rdy lv m s' I' t' q' → Kept (fun k => k = d.m ∨ k = d.s) V V2 → Blk V2 g 103 (mcs d lv m.part m.last m.older 0) ∧ (Kept F w (V2.setCell ⟨g, 9, none⟩ (.int .i64 (m.chance lv))) ∧
      ∃ (d : Ids) (s : Nat) (I : Nat → Int) (t : Int) (q : Option (Nat × Nat)), Blk (V2.setCell ⟨g, 9, none⟩ (.int .i64 (m.chance lv))) g 103 (mcs d lv m.part m.last m.older (m.chance lv)) ∧ Prt (V2.setCell ⟨g, 9, none⟩ (.int .i64 (m.chance lv))) d m.tab m.W m.T s I t q ∧ Rdy lv m s I t q ∧ m.Fine ∧ lv ≤ 2 ∧ Kin (V2.setCell ⟨g, 9, none⟩ (.int .i64 (m.chance lv))) ∧ (∀ k, d.has k → F k) ∧ F g ∧ (∀ k, F k → 0 < k))) :=
      Lib.hid fun V V2 s' I' t' q' hk1 hp2 hr2 hk2 => by
        have hp1 := (hp.fresh (Kept.refl _ w).drew).fresh hk1
        have hb1 := hb.drew.kept hk1 id
        have hin : ∀ k, (k = d.m ∨ k = d.s) → d.has k := fun k e => e.elim (fun e => e ▸ .inr (.inl rfl)) (fun e => e ▸ .inr (.inr (.inr (.inl rfl))))
        have hb2 := hb1.kept hk2 (fun e => hp1.ne_ hb1 (by decide) (by decide) (by decide) (by decide) (by decide) (by decide) (hin _ e) rfl)
        have hks : Kept (fun j => j = g) V2 (V2.setCell ⟨g, 9, none⟩ (.int .i64 (m.chance lv))) := (Kept.refl (fun j => j = g) V2).setCell (p := ⟨g, 9, none⟩) (fun _ => rfl) _
        have hkF : Kept F w V2 := (((Kept.refl F w).drew).trans hk1 (fun _ _ h => h.elim)).trans hk2 (fun j _ e => hd j (hin j e))
        have hkF2 := hkF.trans hks (fun j _ e => (show j = g from e) ▸ hg)
        refine ⟨hb2, hkF2, d, s', I', t', q', ?_, hp2.kept hks (fun k e => hp2.ne_ hb2 (by decide) (by decide) (by decide) (by decide) (by decide) (by decide) e), hr2, hf, h2, hki.kept hkF2 (fun e => absurd (hF _ e) (Nat.lt_irrefl _)), hd, hg, hF⟩
        simpa [mcs] using hb2.set_ 9 (.int .i64 (m.chance lv))
    have HD := Lib.hid hcb
    clear hb hp hf h2 hki hd hg hF hcb
    go_enter Tryd.func58, Tryd.ntmps58
    go_wp2_with fail
    go_region_held3 (fun _ => True) (trivial)
      (first
        | (go_at_call 74; refine HP.out.mono ?_; rintro e5 w5 ⟨rfl, hf5⟩)
        | (go_at_call 73; refine (HC.out w5 hf5).mono ?_; rintro e6 w6 ⟨rfl, s6, I6, t6, q6, hp6, hr6, hk6⟩; have h6 := HN.out w5 w6 s6 I6 t6 q6 hf5 hp6 hr6 hk6; have c69 := h6.1.cell 9; have f69 := h6.1.frozen 9))
    have H7 := Lib.hid h6.2
    have c7 : (w6.setCell ⟨g, 9, none⟩ (.int .i64 (m.chance lv))).cell? ⟨g, 9, none⟩ = some (.int .i64 (m.chance lv)) := by
      obtain ⟨d', _, _, _, _, hb7, _⟩ := h6.2.2
      exact hb7.cell 9
    clear h6 c69 f69 hp6 hr6 hk6 hf5 HC HN HP c9
    generalize w6.setCell ⟨g, 9, none⟩ (.int .i64 (m.chance lv)) = w7 at *
    go_wp2_with fail
    go_ret
    exact ⟨rfl, H7.out⟩
  · have hz : (m.chance lv == 0) = false := by rw [beq_eq_false_iff_ne]; omega
    have HF := Lib.hid (show Kept F w w ∧ ∃ (d : Ids) (s : Nat) (I : Nat → Int) (t : Int) (q : Option (Nat × Nat)), Blk w g 103 (mcs d lv m.part m.last m.older (m.chance lv)) ∧ Prt w d m.tab m.W m.T s I t q ∧ Rdy lv m s I t q ∧ m.Fine ∧ lv ≤ 2 ∧ Kin w ∧ (∀ k, d.has k → F k) ∧ F g ∧ (∀ k, F k → 0 < k) from ⟨Kept.refl _ _, d, s, I, t, q, hb, hp, hr, hf, h2, hki, hd, hg, hF⟩)
    clear hb hp hf h2 hki hd hg hF hr
    go_enter Tryd.func58, Tryd.ntmps58
    go_wp2_with fail
    go_ret
    exact ⟨rfl, HF.out⟩

/-- .. as it is used. -/
theorem mChance_any (F : Nat → Prop) (g lv : Nat) (m : Mo) (w : World) (h : Mdl F w g lv m) :
    Calls Tryd.prog 58 #[.pointer (some ⟨g, 0, none⟩)] w fun e w' => e = .returned (.int .i64 (m.chance lv)) ∧ Mdl F w' g lv m ∧ Kept F w w' := by
  refine (mdChance_any F g lv m w h).mono ?_
  rintro e w' ⟨rfl, hk, d, s, I, t, q, hb, hp, hr, hf, h2, hki, hd, hg, hF⟩
  exact ⟨rfl, ⟨d, s, I, t, q, _, hb, hp, .inr ⟨rfl, hr⟩, hf, h2, hki, hd, hg, hF⟩, hk⟩

set_option maxHeartbeats 1600000 in
/-- Learn: P8.2. -/
theorem mdLearn_any (F : Nat → Prop) (g lv : Nat) (m : Mo) (b : Int) (w : World) (h : Mdl F w g lv m) :
    Calls Tryd.prog 63 #[.pointer (some ⟨g, 0, none⟩), .int .i64 b] w fun e w' => e = .returned (.tuple #[]) ∧ Mdl F w' g lv (m.learn lv (b != 0)) ∧ Kept F w w' := by
  have HC := Lib.hid (mdChance_any F g lv m w h)
  clear h
  go_enter Tryd.func63, Tryd.ntmps63
  go_wp2_with fail
  refine HC.out.mono ?_
  rintro e w1 ⟨rfl, hk, d, s, I, t, q, hb, hp, hr, hf, h2, hki, hd, hg, hF⟩
  have HP := Lib.hid (places_any g d lv m.part m.last m.older (m.chance lv) w1.drew hb.drew hf.p.2 hf.l hf.o)
  have HL : Hid (∀ V, Fresh w1.drew V → Calls Tryd.prog 78 #[.pointer (some ⟨g, 3, none⟩), .agg (kcs m), .int .i64 b] V fun e w' => e = .returned (.tuple #[]) ∧
      ∃ s' I' t' q', Prt w' d (m.learn lv (b != 0)).tab (m.learn lv (b != 0)).W (m.learn lv (b != 0)).T s' I' t' q' ∧ Kept (fun k => d.has k) V w') :=
    Lib.hid fun V hkV => glearn_any g d lv m s I t q (m.chance lv) b V (hb.drew.kept hkV id) ((hp.fresh (Kept.refl _ w1).drew).fresh hkV) hr ((hki.kept (Kept.refl (fun _ => False) w1).drew id).kept hkV id) (fun k e => hF k (hd k e)) hf h2
  have HN : Hid (∀ (V V2 : World) s' I' t' q', Fresh w1.drew V → Prt V2 d (m.learn lv (b != 0)).tab (m.learn lv (b != 0)).W (m.learn lv (b != 0)).T s' I' t' q' → Kept (fun k => d.has k) V V2 → Blk V2 g 103 (mcs d lv m.part m.last m.older (m.chance lv)) ∧
      ∀ V3, Blk V3 g 103 (mcs d lv (nextPart m.part (b != 0)) (nextLast m.part m.last (b != 0)) (nextOlder m.part m.last m.older (b != 0)) (m.chance lv)) → Kept (fun k => k = g) V2 V3 → Mdl F (V3.setCell ⟨g, 9, none⟩ (.int .i64 0)) g lv (m.learn lv (b != 0)) ∧ Kept F w (V3.setCell ⟨g, 9, none⟩ (.int .i64 0))) :=
    Lib.hid fun V V2 s' I' t' q' hk1 hp2 hk2 => by
      have hp1 := (hp.fresh (Kept.refl _ w1).drew).fresh hk1
      have hb1 := hb.drew.kept hk1 id
      have hb2 := hb1.kept hk2 (fun e => hp1.ne_ hb1 (by decide) (by decide) (by decide) (by decide) (by decide) (by decide) e rfl)
      refine ⟨hb2, fun V3 hb3 hk3 => ?_⟩
      have hks : Kept (fun j => j = g) V2 (V3.setCell ⟨g, 9, none⟩ (.int .i64 0)) := hk3.setCell (p := ⟨g, 9, none⟩) (fun _ => rfl) _
      have hkF : Kept F w V2 := (hk.drew.trans hk1 (fun _ _ h => h.elim)).trans hk2 (fun j _ e => hd j e)
      have hkF2 := hkF.trans hks (fun j _ e => (show j = g from e) ▸ hg)
      have hkF1 : Kept F w1 (V3.setCell ⟨g, 9, none⟩ (.int .i64 0)) := ((((Kept.refl F w1).drew).trans hk1 (fun _ _ h => h.elim)).trans hk2 (fun j _ e => hd j e)).trans hks (fun j _ e => (show j = g from e) ▸ hg)
      refine ⟨⟨d, s', I', t', q', 0, ?_, hp2.kept hks (fun k e => hp2.ne_ hb2 (by decide) (by decide) (by decide) (by decide) (by decide) (by decide) e), .inl rfl, hf.learn lv _, h2, hki.kept hkF1 (fun e => absurd (hF _ e) (Nat.lt_irrefl _)), hd, hg, hF⟩, hkF2⟩
      have := hb3.set_ 9 (.int .i64 0)
      rw [show (m.learn lv (b != 0)).part = nextPart m.part (b != 0) from rfl, show (m.learn lv (b != 0)).last = nextLast m.part m.last (b != 0) from rfl, show (m.learn lv (b != 0)).older = nextOlder m.part m.last m.older (b != 0) from rfl]
      simpa [mcs] using this
  have h0 := hf.p.1
  have h1 := hf.p.2
  clear hb hp hf h2 hki hd hg hF HC hk hr
  go_wp2_with fail
  go_region_held3 (fun _ => True) (trivial)
    (first
      | (go_at_call 74; refine HP.out.mono ?_; rintro e5 w5 ⟨rfl, hf5⟩)
      | (go_at_call 78; refine (HL.out w5 hf5).mono ?_; rintro e6 w6 ⟨rfl, s6, I6, t6, q6, hp6, hk6⟩; have H6 := Lib.hid (HN.out w5 w6 s6 I6 t6 q6 hf5 hp6 hk6)))
  have HT := Lib.hid (take_any g d lv m.part m.last m.older (m.chance lv) b w6 H6.out.1 h0 h1)
  clear hp6 hk6 hf5 HL HN HP
  go_wp2_with fail
  refine HT.out.mono ?_
  rintro e w7 ⟨rfl, hb7, hk7⟩
  have c9 : w7.cell? ⟨g, 9, none⟩ = some (.int .i64 (m.chance lv)) := hb7.cell 9
  have f9 := hb7.frozen 9
  have H7 := Lib.hid (H6.out.2 w7 hb7 hk7)
  clear hb7 hk7 H6 HT
  go_wp2_with fail
  go_end0
  exact ⟨rfl, H7.out⟩

/-- Nil. -/
theorem mdChance_nil (w : World) : Calls Tryd.prog 58 #[.pointer none] w fun e w' => e = .returned (.int .i64 0) ∧ w' = w := by
  go_enter Tryd.func58, Tryd.ntmps58
  go_wp2_with fail
  go_ret
  exact ⟨rfl, rfl⟩
theorem mdLearn_nil (b : Int) (w : World) : Calls Tryd.prog 63 #[.pointer none, .int .i64 b] w fun e w' => e = .returned (.tuple #[]) ∧ w' = w := by
  go_enter Tryd.func63, Tryd.ntmps63
  go_wp2_with fail
  refine bodyPost_ret (results_none rfl _ _ _) rfl ?_
  exact ⟨rfl, rfl⟩

/-- A level, as it counts. -/
def lvl (n : Int) : Nat := (min (max n 0) 2).toNat
theorem lvl_int (n : Int) : min (max n 0) 2 = ((lvl n : Nat) : Int) := by unfold lvl; omega
theorem lvl_int2 (n : Int) : max 0 (min n 2) = ((lvl n : Nat) : Int) := by unfold lvl; omega
theorem lvl_bd (n : Int) : lvl n ≤ 2 := by unfold lvl; omega

set_option maxHeartbeats 800000 in
/-- New: P8.1. -/
theorem mdNew_any (n : Int) (w : World) (hk : Kin w) : Calls Tryd.prog 35 #[.int .i64 n] w fun e w' => ∃ g, e = .returned (.pointer (some ⟨g, 0, none⟩)) ∧ Mdl (fun k => w.heap.size ≤ k ∧ k < w'.heap.size) w' g (lvl n) mo0 ∧ Fresh w w' := by
  have hl := lvl_int n
  have hb := lvl_bd n
  generalize lvl n = lv at *
  have HG := Lib.hid (newGuesser_any lv w hk)
  have hp0 := hk.pos
  have HK := Lib.hid hk
  clear hk
  go_enter Tryd.func35, Tryd.ntmps35
  go_wp2_with fail
  refine HG.out.mono ?_
  rintro e w5 ⟨d, rfl, hp, hd, hf⟩
  have hfa : Fresh w5 (w5.alloc (.cells (mcs d lv 1 0 0 0) 103)) := (Kept.refl _ _).alloc _
  have HF : Hid (Mdl (fun k => w.heap.size ≤ k ∧ k < (w5.alloc (.cells (mcs d lv 1 0 0 0) 103)).heap.size) (w5.alloc (.cells (mcs d lv 1 0 0 0) 103)) w5.heap.size lv mo0 ∧ Fresh w (w5.alloc (.cells (mcs d lv 1 0 0 0) 103))) := Lib.hid
    ⟨⟨d, 0, fun _ => 0, 0, none, 0, Blk.new _ _ _, hp.fresh hfa, .inl rfl, mo0_fine, hb, (HK.out.kept hf id).kept hfa id, fun k e => ⟨hd k e, by rw [alloc_size]; have := hp.lt e; omega⟩, ⟨hf.size, by rw [alloc_size]; omega⟩, fun k e => by omega⟩, hf.trans hfa (fun _ _ h => h)⟩
  clear hfa hp hd hf HK HG hp0
  go_wp2_with fail
  go_ret
  exact ⟨_, rfl, HF.out⟩

end Go.Proofs.YtpknbfkknnaajaaDoor
