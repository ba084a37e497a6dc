/- The code's guesser: newGuesser. -/
import Derived.Test.YtpknbfkknnaajaaDoorModG
namespace Go.Proofs.YtpknbfkknnaajaaDoor
set_option maxRecDepth 100000
open Go.RowKit

attribute [local go_sem ↓] Go.wp_at_zero Go.wp_at_succ

theorem mo0_tab (k : Nat) : mo0.tab k = fun _ => 32768 := by
  unfold Mo.tab; (repeat' split) <;> rfl
theorem many_tn {k : Nat} (h : k < 3) : many_of ((tn k : Nat) : Int) = tn k := by
  rcases (by omega : k = 0 ∨ k = 1 ∨ k = 2) with rfl | rfl | rfl <;> rfl
/-- The guesser's cells. -/
def gvs (lv : Nat) (G : Nat → Nat) (k m s : Nat) : Array Value :=
  #[.int .i64 lv, if 0 < k then .pointer (some ⟨G 0, 0, none⟩) else .pointer none, if 1 < k then .pointer (some ⟨G 1, 0, none⟩) else .pointer none, if 2 < k then .pointer (some ⟨G 2, 0, none⟩) else .pointer none, .pointer (some ⟨m, 0, none⟩), .pointer (some ⟨s, 0, none⟩)]
theorem gvs_put (lv : Nat) (G : Nat → Nat) (m s x : Nat) {k : Nat} (h : k < 3) : (gvs lv G k m s).setIfInBounds (1 + k) (.pointer (some ⟨x, 0, none⟩)) = gvs lv (upd G k x) (k + 1) m s := by
  rcases (by omega : k = 0 ∨ k = 1 ∨ k = 2) with rfl | rfl | rfl <;> simp [gvs, upd]
theorem gvs_get (lv : Nat) (G : Nat → Nat) (m s : Nat) {k : Nat} (h : k < 3) : (gvs lv G k m s)[1 + k]? = some (.pointer none) := by
  rcases (by omega : k = 0 ∨ k = 1 ∨ k = 2) with rfl | rfl | rfl <;> rfl
theorem gvs_one (lv : Nat) (G : Nat → Nat) (k m s : Nat) : (gvs lv G k m s).all (·.oneCell') = true := by
  unfold gvs
  apply toArray_all
  intro v hv
  simp only [List.mem_cons, List.not_mem_nil, or_false] at hv
  rcases hv with rfl | rfl | rfl | rfl | rfl | rfl
  · rfl
  · split <;> rfl
  · split <;> rfl
  · split <;> rfl
  · rfl
  · rfl
theorem run_index_kc (W : World) {k : Nat} (h : k < 3) : (Instr.index 126 (.agg kc) (.int .i64 k)).run Tryd.prog W = .ok (.agg #[.int .i64 (tn k : Nat), .int .i64 (tr k : Nat)]) W := by
  rcases (by omega : k = 0 ∨ k = 1 ∨ k = 2) with rfl | rfl | rfl <;> kernel_rfl
theorem run_loadAt_st {P : Program} {w : World} {g : Nat} {t ty : TypeId} {fs : Array Field} {cs : Array Value} (h : Blk w g t cs) (hu : P.underlying ty = some (.struct fs)) (hi : (P.info? ty).map (·.size) = some cs.size) :
    (Instr.loadAt ty (.pointer (some ⟨g, 0, none⟩))).run P w = .ok (.agg cs) w := by
  simp only [Instr.loadAt, Instr.sureAddr, Sem.run_bind, Sem.run_pure, Result.andThen]
  exact run_loadVar_row _ _ _ _ cs (0, 0) _ h hu rfl hi

/-- The tables that have been made. -/
structure Made (w : World) (B k : Nat) (G : Nat → Nat) (V : Nat → Value) : Prop where
  tab : ∀ i, i < k → TabC w (G i) (V i) (ft (tn i) (mo0.tab i))
  lo : ∀ i, i < k → B ≤ G i ∧ ∀ j, (V i).ownBlock = some j → B ≤ j
  inj : ∀ i j x, i < k → j < k → (V i).ownBlock = some x → (V j).ownBlock = some x → i = j
theorem Made.fresh {w w' : World} {B k : Nat} {G : Nat → Nat} {V : Nat → Value} (h : Made w B k G V) (hf : Fresh w w') : Made w' B k G V :=
  ⟨fun i hi => (h.tab i hi).kept hf id (fun _ _ => id), h.lo, h.inj⟩
theorem Made.kept {w w' : World} {B k b : Nat} {G : Nat → Nat} {V : Nat → Value} (h : Made w B k G V) {ty : TypeId} {cs : Array Value} (hf : Kept (fun j => j = b) w w') (hb : Blk w b ty cs) (h1 : 147 ≠ ty) (h2 : 108 ≠ ty) : Made w' B k G V :=
  ⟨fun i hi => (h.tab i hi).kept hf (fun e => Blk.ne_ (h.tab i hi).blk hb h1 e) (fun j e e' => (h.tab i hi).own.ne_blk hb h2 (by rw [e, e'])), h.lo, h.inj⟩
/-- One more. -/
theorem Made.more {w w' : World} {B k : Nat} {G : Nat → Nat} {V : Nat → Value} (h : Made w B k G V) (hf : Fresh w w') (hB : B ≤ w.heap.size) {g : Nat} {v : Value} (ht : TabC w' g v (ft (tn k) (mo0.tab k))) (hg : w.heap.size ≤ g) (hv : ∀ j, v.ownBlock = some j → w.heap.size ≤ j) : Made w' B (k + 1) (upd G k g) (upd V k v) := by
  refine ⟨fun i hi => ?_, fun i hi => ?_, fun i j x hi hj e1 e2 => ?_⟩
  · by_cases e : i = k
    · subst e; rw [upd_at, upd_at]; exact ht
    · rw [upd_ne e, upd_ne e]; exact (h.fresh hf).tab i (by omega)
  · by_cases e : i = k
    · subst e; rw [upd_at, upd_at]; exact ⟨Nat.le_trans hB hg, fun j hj => Nat.le_trans hB (hv j hj)⟩
    · rw [upd_ne e, upd_ne e]; exact h.lo i (by omega)
  · by_cases a : i = k
    · by_cases b : j = k
      · rw [a, b]
      · subst a
        rw [upd_at] at e1
        rw [upd_ne b] at e2
        have := (h.tab j (by omega)).own.lt e2
        have := hv x e1
        omega
    · rw [upd_ne a] at e1
      by_cases b : j = k
      · subst b
        rw [upd_at] at e2
        have := (h.tab i (by omega)).own.lt e1
        have := hv x e2
        omega
      · rw [upd_ne b] at e2
        exact h.inj i j x (by omega) (by omega) e1 e2

set_option maxHeartbeats 1600000 in
/-- newGuesser. -/
theorem newGuesser_any (lv : Nat) (w : World) (hk : Kin w) : Calls Tryd.prog 61 #[.int .i64 lv] w fun e w' => ∃ d : Ids, e = .returned (.agg #[.int .i64 lv, .pointer (some ⟨d.g 0, 0, none⟩), .pointer (some ⟨d.g 1, 0, none⟩), .pointer (some ⟨d.g 2, 0, none⟩), .pointer (some ⟨d.m, 0, none⟩), .pointer (some ⟨d.s, 0, none⟩)]) ∧
      Prt w' d mo0.tab mo0.W mo0.T 0 (fun _ => 0) 0 none ∧ (∀ k, d.has k → w.heap.size ≤ k) ∧ Fresh w w' := by
  have hr0 := Blk.new w 100 #[.int .i64 0, .pointer none, .pointer none, .pointer none, .pointer none, .pointer none]
  have hf0 : Fresh w (w.alloc (.cells #[.int .i64 0, .pointer none, .pointer none, .pointer none, .pointer none, .pointer none] 100)) := (Kept.refl _ _).alloc _
  have H0 := Lib.hid (And.intro hr0 (And.intro hf0 (hk.kept hf0 id)))
  clear hr0 hf0 hk
  go_enter Tryd.func61, Tryd.ntmps61
  go_wp2_with fail
  refine (mNew_any 256 _).mono ?_
  rintro e w2 ⟨gm, hm, rfl, hmx, hm1, hm2, hf2⟩
  rw [show ns 256 = 256 from rfl] at hmx
  have hr2 := H0.out.1.kept hf2 id
  have hsz2 : w.heap.size ≤ gm ∧ w.heap.size ≤ hm ∧ w.heap.size < w2.heap.size := ⟨Nat.le_trans H0.out.2.1.size hm1, Nat.le_trans H0.out.2.1.size hm2, hr2.lt⟩
  have H2 := Lib.hid (And.intro hr2 (And.intro (H0.out.2.1.trans hf2 (fun _ _ h => h)) (And.intro (H0.out.2.2.kept hf2 id) (And.intro hmx hsz2))))
  clear H0 hmx hm1 hm2 hf2 hr2 hsz2
  go_wp2_with fail
  refine (sNew_any 256 _).mono ?_
  rintro e w3 ⟨gs, hz, rfl, hst, hs1, hs2, hf3⟩
  rw [show nc 256 = 256 from rfl] at hst
  have hr3 := (H2.out.1.kept hf3 id).alloc (.cells (gvs lv (fun _ => 0) 0 gm gs) 100)
  have hg3 := Blk.new w3 100 (gvs lv (fun _ => 0) 0 gm gs)
  have hfa : Fresh w3 (w3.alloc (.cells (gvs lv (fun _ => 0) 0 gm gs) 100)) := (Kept.refl _ _).alloc _
  have hsz := H2.out.2.2.2.2
  have hsz3 : w.heap.size ≤ gm ∧ w.heap.size ≤ hm ∧ w.heap.size ≤ gs ∧ w.heap.size ≤ hz ∧ w.heap.size < w3.heap.size := ⟨hsz.1, hsz.2.1, by omega, by omega, by have := hf3.size; omega⟩
  have hkin := ((H2.out.2.2.1.kept hf3 id).kept hfa id)
  have hld := hkin.load
  have H4 := Lib.hid (And.intro hr3 (And.intro hg3 (And.intro ((H2.out.2.1.trans hf3 (fun _ _ h => h)).trans hfa (fun _ _ h => h)) (And.intro hkin (And.intro ((H2.out.2.2.2.1.kept hf3 id id).kept hfa id id) (hst.kept hfa id id))))))
  have HL := Lib.hid hld
  clear hst hs1 hs2 hf3 hr3 hg3 hfa hsz hkin hld H2
  go_wp2_with (refine wpList_load_eq rfl (.global 0) 126 rfl _ _ rfl HL.out ?_)
  clear HL
  generalize hG : w3.heap.size = gg at *
  clear hG
  go_loopw [11] (fun i wr => ∃ (k : Nat) (G : Nat → Nat) (V : Nat → Value), k ≤ 3 ∧ i = .int .i64 k ∧ Blk wr gg 100 (gvs lv G k gm gs) ∧ Blk wr w.heap.size 100 #[.int .i64 0, .pointer none, .pointer none, .pointer none, .pointer none, .pointer none] ∧ Made wr w.heap.size k G V ∧ Mxr wr gm hm 256 (fun _ _ => 16384) 0 (fun _ => 0) 0 ∧ Stg wr gs hz 256 (fun _ => fs) none ∧ Fresh w wr) (fun i _ => (3 - intOf i).toNat)
  case atStart => exact ⟨0, fun _ => 0, fun _ => undef, by omega, rfl, H4.out.2.1, H4.out.1, ⟨fun i hi => by omega, fun i hi => by omega, fun i j x hi => by omega⟩, H4.out.2.2.2.2.1, H4.out.2.2.2.2.2, H4.out.2.2.1⟩
  case round =>
    obtain ⟨k, G, V, hk, rfl, hg, hr, hmd, hmx, hst, hfr⟩ := hrel
    clear H4
    by_cases hlt : k < 3
    · have hx := fun W => run_index_kc W hlt
      have hfa : Fresh wr (wr.alloc (.cells #[.int .i64 (tn k : Nat), .int .i64 (tr k : Nat)] 125)) := (Kept.refl _ _).alloc _
      have hN := gNew_any (tn k : Nat) (wr.alloc (.cells #[.int .i64 (tn k : Nat), .int .i64 (tr k : Nat)] 125))
      rw [many_tn hlt, ← ft_const] at hN
      have HN := Lib.hid hN
      have HS := Lib.hid (And.intro (hg.kept hfa id) (And.intro (hr.kept hfa id) (And.intro (hmd.fresh hfa) (And.intro (hmx.kept hfa id id) (And.intro (hst.kept hfa id id) (hfr.trans hfa (fun _ _ h => h)))))))
      have k0 : (0 : Int) ≤ (k : Int) := by omega
      have k1 : (k : Int) < 3 := by omega
      have hsz := hfr.size
      clear hg hr hmd hmx hst hfr hfa hN
      go_wp2_with fail
      refine HN.out.mono ?_
      rintro e w6 ⟨g6, v6, rfl, ht6, hg6, hv6, hf6⟩
      rw [← mo0_tab k] at ht6
      have hm6 := HS.out.2.2.1.more hf6 (HS.out.2.2.2.2.2.size) ht6 hg6 hv6
      have hb6 := HS.out.1.kept hf6 id
      have c6 := hb6.cell (1 + k)
      rw [gvs_get lv G gm gs hlt] at c6
      have f6 := hb6.frozen (1 + k)
      have hs6 := hb6.set_ (1 + k) (.pointer (some ⟨g6, 0, none⟩))
      rw [gvs_put lv G gm gs g6 hlt] at hs6
      have hk6 : Kept (fun j => j = gg) w6 (w6.setCell ⟨gg, 1 + k, none⟩ (.pointer (some ⟨g6, 0, none⟩))) := (Kept.refl (fun j => j = gg) w6).setCell (p := ⟨gg, 1 + k, none⟩) (fun _ => rfl) _
      have hmx6 := HS.out.2.2.2.1.kept hf6 id id
      have hst6 := HS.out.2.2.2.2.1.kept hf6 id id
      have H6 := Lib.hid (And.intro hs6 (And.intro ((HS.out.2.1.kept hf6 id).kept hk6 (by omega)) (And.intro (hm6.kept hk6 hb6 (by decide) (by decide)) (And.intro (hmx6.kept hk6 (Blk.ne_ hmx6.blk hb6 (by decide)) (Blk.ne_ hmx6.sets hb6 (by decide))) (And.intro (hst6.kept hk6 (Blk.ne_ hst6.blk hb6 (by decide)) (Blk.ne_ hst6.steps hb6 (by decide))) ((HS.out.2.2.2.2.2.trans hf6 (fun _ _ h => h)).setCell (p := ⟨gg, 1 + k, none⟩) (fun h => by have h' : gg < w.heap.size := h; omega) (.pointer (some ⟨g6, 0, none⟩))))))))
      clear hm6 hb6 hs6 hk6 hmx6 hst6 ht6 hg6 hv6 hf6 HS HN
      go_wp2_with fail
      go_roundw
      case rel => exact ⟨k + 1, _, _, by omega, by go_num, H6.out⟩
      case measure => simp [intOf]; omega
    · obtain rfl : k = 3 := by omega
      have k1 : ¬ ((3 : Nat) : Int) < 3 := by omega
      have hl := run_loadAt_st (P := Tryd.prog) (ty := 100) hg Tryd.underlying100 (by kernel_rfl)
      have hs := run_storeAt_blk (P := Tryd.prog) (ty := 100) (cs' := gvs lv G 3 gm gs) hr (by kernel_rfl) rfl (gvs_one _ _ _ _ _)
      have hk2 : Kept (fun j => j = w.heap.size) wr (wr.setRow w.heap.size (gvs lv G 3 gm gs)) := (Kept.refl (fun j => j = w.heap.size) wr).rowed _ (fun _ => rfl)
      have H := Lib.hid (And.intro (hr.rowed (cs' := gvs lv G 3 gm gs)) (And.intro (hmd.kept hk2 hr (by decide) (by decide)) (And.intro (hmx.kept hk2 (Blk.ne_ hmx.blk hr (by decide)) (Blk.ne_ hmx.sets hr (by decide))) (And.intro (hst.kept hk2 (Blk.ne_ hst.blk hr (by decide)) (Blk.ne_ hst.steps hr (by decide))) (hfr.rowed (g := w.heap.size) (gvs lv G 3 gm gs) (fun h => absurd h (Nat.lt_irrefl _)))))))
      have HL := Lib.hid (And.intro hl hs)
      clear hg hr hmd hmx hst hfr hk2 hl hs
      generalize wr.setRow w.heap.size (gvs lv G 3 gm gs) = W2 at *
      go_wp2_with (first
        | (refine wpList_load_eq rfl (.tmp 3) 100 rfl _ _ rfl HL.out.1 ?_)
        | (refine wpList_store_eq rfl (.tmp 2) (.tmp 22) 100 rfl _ _ rfl rfl HL.out.2 ?_))
      have hlv : (loadVar 100 ⟨w.heap.size, 0, none⟩).run Tryd.prog W2 = .ok (.agg (gvs lv G 3 gm gs)) W2 := run_loadVar_row _ _ _ _ _ (0, 0) _ H.out.1 Tryd.underlying100 rfl (by kernel_rfl)
      refine bodyPost_ret (v := .agg (gvs lv G 3 gm gs)) ?_ rfl ?_
      · simp only [results, Tryd.results61, Sem.run_bind, asAddr, Result.andThen]
        simp [hlv]
      · refine ⟨⟨G, V, gm, hm, gs, hz⟩, rfl, ⟨H.out.2.1.tab, H.out.2.2.1, H.out.2.2.2.1, H.out.2.1.inj⟩, ?_, H.out.2.2.2.2⟩
        rintro j (⟨i, hi, rfl | e⟩ | rfl | rfl | rfl | rfl)
        · exact (H.out.2.1.lo i hi).1
        · exact (H.out.2.1.lo i hi).2 j e
        · exact hsz3.1
        · exact hsz3.2.1
        · exact hsz3.2.2.1
        · exact hsz3.2.2.2.1

end Go.Proofs.YtpknbfkknnaajaaDoor
