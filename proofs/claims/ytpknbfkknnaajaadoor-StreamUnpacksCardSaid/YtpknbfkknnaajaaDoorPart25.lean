/- Texts of this proof, one behind the other: MixQM. -/
import Derived.Test.YtpknbfkknnaajaaDoorPart23
import Derived.Test.YtpknbfkknnaajaaDoorPart24
import Derived.Deep.RegionLaw
import Derived.StillTailTactics

/- The document's mixer: Mix and Learn. -/
namespace Go.Proofs.YtpknbfkknnaajaaDoor
set_option maxRecDepth 100000
open Go.RowKit

attribute [local go_sem ↓] Go.wp_at_zero Go.wp_at_succ

/-- The document's mixer at block g. -/
structure MxR (w : World) (B g : Nat) (vW vI : Value) (n : Nat) (Q C : Nat → Nat) (W : Nat → Nat → Int) (s : Nat) (I : Nat → Int) (t : Int) (has : Bool) : Prop where
  blk : Blk w g 112 #[vW, vI, .int .i64 s, .int .i64 t, .bool has]
  rws : Rws w B vW n Q C W
  inp : Own w 3 .i64 vI (if has then l4 I else [])
  apart : ∀ i, i < n → vI.ownBlock ≠ some (Q i)
  ilo : ∀ k, vI.ownBlock = some k → B ≤ k
  glo : B ≤ g
  pos : 0 < n
  le : n ≤ 4096
  lt : s < n
  bd : ∀ i k, -16777216 ≤ W i k ∧ W i k ≤ 16777216
  ib : ∀ k, -2047 ≤ I k ∧ I k ≤ 2047
  tb : 0 ≤ t ∧ t ≤ 4095

section
variable {w w' : World} {B g : Nat} {v : Value} {n : Nat} {Q C : Nat → Nat} {W : Nat → Nat → Int}
theorem Rws.form (h : Rws w B v n Q C W) (hn : 0 < n) : ∃ b cap, v = .slice (some ⟨b, 0, none⟩) n cap ∧ ∀ i, i < n → w.cell? ⟨b, i, none⟩ = some (.slice (some ⟨Q i, 0, none⟩) 4 (C i)) := by
  obtain ⟨b, cap, rfl, _, _⟩ := World.ownsRow.form h.own hn
  exact ⟨b, cap, rfl, fun i hi => by rw [World.ownsRow.cellAt h.own i (by omega), rvs_get hi]⟩
theorem Rws.cell (h : Rws w B v n Q C W) {i k : Nat} (hi : i < n) (hk : k < 4) : w.cell? ⟨Q i, k, none⟩ = some (.int .i64 (W i k)) := by
  have := Own.cell (xs := l4 (W i)) (h.row i hi) (j := k) hk
  rw [l4_get hk] at this
  exact this
theorem Rws.frozen (h : Rws w B v n Q C W) {i : Nat} (hi : i < n) (k : Nat) : w.frozen? ⟨Q i, k, none⟩ = false := Own.frozen (xs := l4 (W i)) (h.row i hi) k
end

theorem upI_succ (I : Nat → Int) (k : Nat) : (List.range (k + 1)).map I = (List.range k).map I ++ [I k] := by
  rw [List.range_succ, List.map_append]; rfl

set_option maxHeartbeats 3200000 in
/-- Mix: P6.2. -/
theorem qmMix_any (B g : Nat) (vW vI : Value) (n : Nat) (Q C : Nat → Nat) (W : Nat → Nat → Int) (s : Nat) (I : Nat → Int) (t : Int) (has : Bool) (i : Int) (A : Option Addr) (m c : Nat) (xs : List Int) (w : World) (h : MxR w B g vW vI n Q C W s I t has)
    (hr : Row w .i64 A m xs) (hA : ∀ b o, A = some ⟨b, o, none⟩ → 0 < m → b ≠ g) (hm : m ≤ maxLen) :
    Calls Tryd.prog 48 #[.pointer (some ⟨g, 0, none⟩), .int .i64 i, .slice A m c] w fun e w' => e = .returned (.int .i64 (tl (inp xs) (W (pl i n)))) ∧
      Kept (fun j => j = g) w w' ∧ ∃ vI', (∀ k, vI'.ownBlock = some k → w.heap.size ≤ k) ∧ MxR w' B g vW vI' n Q C W (pl i n) (inp xs) (tl (inp xs) (W (pl i n))) true := by
  unfold maxLen at hm
  obtain ⟨j0, ki, kz0, kz1, kz2⟩ := info_parts Tryd.infoInt3
  obtain ⟨b, cap, rfl, hcs⟩ := h.rws.form h.pos
  have hp := pl_lt i h.pos
  have HQ := Lib.hid (qRound_any n i · h.pos (by have := h.le; omega))
  have c0 : w.cell? ⟨g, 0, none⟩ = some (.slice (some ⟨b, 0, none⟩) n cap) := h.blk.cell 0
  have c1 : w.cell? ⟨g, 1, none⟩ = some vI := h.blk.cell 1
  have c2 : w.cell? ⟨g, 2, none⟩ = some (.int .i64 s) := h.blk.cell 2
  have c4 : w.cell? ⟨g, 4, none⟩ = some (.bool has) := h.blk.cell 4
  have f1 := h.blk.frozen 1
  have f2 := h.blk.frozen 2
  have f4 := h.blk.frozen 4
  generalize pl i n = p at *
  have hb1 := ((h.blk.set_ 2 (.int .i64 p)).set_ 1 (.slice none 0 0)).set_ 4 (.bool true)
  have hk1 : Kept (fun j => j = g) w (((w.setCell ⟨g, 2, none⟩ (.int .i64 p)).setCell ⟨g, 1, none⟩ (.slice none 0 0)).setCell ⟨g, 4, none⟩ (.bool true)) := (((Kept.refl (fun j => j = g) w).setCell (p := ⟨g, 2, none⟩) (fun _ => rfl) _).setCell (p := ⟨g, 1, none⟩) (fun _ => rfl) _).setCell (p := ⟨g, 4, none⟩) (fun _ => rfl) _
  have H1 := Lib.hid (And.intro hb1 hk1)
  have HH := Lib.hid h
  have HR := Lib.hid (And.intro hr hA)
  have HC := Lib.hid hcs
  clear hb1 hk1 h hr hA hcs
  go_enter Tryd.func48, Tryd.ntmps48
  go_wp2_with fail
  refine (HQ.out _).mono ?_
  rintro e w' ⟨rfl, rfl⟩
  go_wp2_with fail
  have HRW : Hid (∀ V, Kept (fun j => j = g) w' V → Rws V B (.slice (some ⟨b, 0, none⟩) n cap) n Q C W) := Lib.hid fun V hk => HH.out.rws.kept hk (fun k e e' => owns_ne HH.out.rws.own HH.out.blk (by decide) (by rw [e, e'])) (fun i hi e => by
    obtain ⟨cs', hq⟩ := HH.out.rws.blk hi
    exact Blk.ne_ hq HH.out.blk (by decide) e)
  have HC5 : Hid (∀ V, Kept (fun j => j = g) w' V → V.cell? ⟨b, p, none⟩ = some (.slice (some ⟨Q p, 0, none⟩) 4 (C p))) := Lib.hid fun V hk => by
    obtain ⟨b', cap', e, hcs⟩ := (HRW.out V hk).form HH.out.pos
    simp only [Value.slice.injEq, Option.some.injEq, Addr.mk.injEq, and_true, true_and] at e
    rw [e.1]; exact hcs p hp
  have HI := Lib.hid (inp_bd xs)
  have HWb := Lib.hid (HH.out.bd p)
  clear c0 c1 c2 c4 f1 f2 f4 HQ HC
  have H2 : Hid (Blk (((w'.setCell ⟨g, 2, none⟩ (.int .i64 p)).setCell ⟨g, 1, none⟩ (.slice none 0 0)).setCell ⟨g, 4, none⟩ (.bool true)) g 112 #[.slice (some ⟨b, 0, none⟩) n cap, .slice none 0 0, .int .i64 p, .int .i64 t, .bool true]) := Lib.hid (by simpa using H1.out.1)
  go_loopw [7, 8] (fun d i wr => ∃ (k : Nat) (u : Value), k ≤ 4 ∧ i = .int .i64 k ∧ d = .int .i64 (dotTo (inp xs) (W p) k) ∧ Blk wr g 112 #[.slice (some ⟨b, 0, none⟩) n cap, u, .int .i64 p, .int .i64 t, .bool true] ∧
    Own wr 3 .i64 u ((List.range k).map (inp xs)) ∧ (∀ b, u.ownBlock = some b → w'.heap.size ≤ b) ∧ Kept (fun j => j = g) w' wr) (fun _ i _ => (4 - intOf i).toNat)
  case atStart => exact ⟨0, .slice none 0 0, by omega, rfl, rfl, H2.out, Own.nil _ _ _, (fun k h => by cases h), H1.out.2⟩
  case round =>
    obtain ⟨k, u, hk, rfl, rfl, hbk, ho, hu, hkp⟩ := hrel
    clear H1 H2
    have hd := dotTo_bd HI.out HWb.out k
    by_cases hlt : k < 4
    · have hst : dotTo (inp xs) (W p) (k + 1) = dotTo (inp xs) (W p) k + inp xs k * W p k := rfl
      have hl : ((List.range k).map (inp xs)).length = k := by simp
      have hti := upI_succ (inp xs) k
      have HS := Lib.hid (And.intro hbk (And.intro ho (And.intro hu hkp)))
      have c0 : wr.cell? ⟨g, 1, none⟩ = some u := hbk.cell 1
      have hd1 : -1000000000000 ≤ dotTo (inp xs) (W p) k := by omega
      have hd2 : dotTo (inp xs) (W p) k ≤ 1000000000000 := by omega
      have HL := Lib.hid (And.intro hl (And.intro hti hst))
      have k0 : (0 : Int) ≤ (k : Int) := by omega
      have k1 : (k : Int) < 4 := by omega
      clear hbk ho hu hkp hl hti hst hd
      generalize (List.range k).map (inp xs) = X at *
      generalize dotTo (inp xs) (W p) k = D at *
      by_cases hin : k < m
      · obtain ⟨b1, o1, rfl, hb1, hc1'⟩ := HR.out.1.at_ k hin
        have hc1 : wr.cell? ⟨b1, o1 + k, none⟩ = some (.int .i64 (xs.getD k 0)) := (HS.out.2.2.2.cell (p := ⟨b1, o1 + k, none⟩) hb1 (HR.out.2 b1 o1 rfl (by omega))).trans hc1'
        have hcl : max (-2047) (min (xs.getD k 0) 2047) = inp xs k := cl_int2 (by omega)
        have k2 : (k : Int) < (m : Int) := by omega
        clear hc1'
        generalize xs.getD k 0 = y at *
        obtain ⟨x, hx⟩ : ∃ x, inp xs k = x := ⟨_, rfl⟩
        rw [hx] at hcl
        have Hx := Lib.hid hx
        clear hx
        go_wp2_with (at_builtin; refine wpList_append_lies _ rfl (.tmp 44) (.tmp 46) 110 rfl 0 3 j0 (.int .i64 0) 1 8 Tryd.underlying110 ki kz0 kz1 kz2 rfl (by decide) _ X.length (ivs .i64 X) rfl (World.ownsRow.alloc HS.out.2.1 _) ⟨wr.heap.size, 0, none⟩ 1 1 (ivs .i64 [x]) rfl rfl (cell_one_new _ _ _) (ivs_one _ _) (by decide) (by have := HL.out.1; unfold maxLen; omega) (by have := HL.out.1; omega) (by omega) (wr.heap.size + 1) (by simp) ?_)
        intro q cp w4 hown4 hgrow hat hlt4
        have ho4 : Own w4 3 .i64 (.slice (some ⟨q, 0, none⟩) (X.length + 1) cp) (X ++ [x]) := Own.of_append hown4 rfl
        have hq : w'.heap.size ≤ q := by
          rcases hat with e | e
          · exact HS.out.2.2.1 q e
          · have := HS.out.2.2.2.size; omega
        have hug : u.ownBlock ≠ some g := HS.out.2.1.ne_blk HS.out.1 (by decide)
        have hb4 := (HS.out.1.alloc (.cells #[.int .i64 x] 3)).grown hgrow (fun e => hug e.symm)
        have hk4 : Kept (fun j => j = g) w' w4 := Kept.grown (HS.out.2.2.2.alloc _) hgrow fun k e hlt' => by have := HS.out.2.2.1 k e; omega
        have hgq : g ≠ q := by
          have hl := HH.out.blk.lt
          rcases hat with e | e
          · rintro rfl; exact hug e
          · have := HS.out.2.2.2.size; omega
        have d1 : w4.cell? ⟨g, 1, none⟩ = some u := hb4.cell 1
        have g1 := hb4.frozen 1
        have hb5 := hb4.set_ 1 (.slice (some ⟨q, 0, none⟩) (X.length + 1) cp)
        have ho5 := ho4.setFar (p := ⟨g, 1, none⟩) (fun e => hgq (by simpa [Value.ownBlock] using e.symm)) (.slice (some ⟨q, 0, none⟩) (X.length + 1) cp)
        have hk5 : Kept (fun j => j = g) w' (w4.setCell ⟨g, 1, none⟩ (.slice (some ⟨q, 0, none⟩) (X.length + 1) cp)) := hk4.setCell (p := ⟨g, 1, none⟩) (fun _ => rfl) _
        have H5 := Lib.hid (And.intro hb5 (And.intro ho5 (And.intro hq hk5)))
        clear hb5 ho5 hq hk5 hown4 hgrow hat ho4 hb4 hk4
        go_wp2_with fail
        have hrw := HRW.out _ H5.out.2.2.2
        have e0 := H5.out.1.cell 0
        have e2 := H5.out.1.cell 2
        simp only [List.setIfInBounds_toArray, List.set_cons_zero, List.set_cons_succ, List.getElem?_toArray, List.getElem?_cons_succ, List.getElem?_cons_zero] at e0 e2
        have e3 := (HC5.out _ H5.out.2.2.2)
        have e4 := hrw.cell hp hlt
        have hpr := prod_bd (HI.out k) (HWb.out k)
        have HRW5 := Lib.hid hrw
        clear hrw c0 d1 g1
        generalize w4.setCell ⟨g, 1, none⟩ (.slice (some ⟨q, 0, none⟩) (X.length + 1) cp) = w5 at *
        rw [Hx.out] at HL hpr
        generalize W p k = y2 at *
        have p0 : (0 : Int) ≤ (p : Int) := by omega
        have p1 : (p : Int) < (n : Int) := by omega
        obtain ⟨hp1, hp2⟩ := hpr
        have e5 : IntKind.i64.wrap (x * y2) = x * y2 := IntWalk.i64_in _ (by omega)
        have e6 : IntKind.i64.wrap (D + x * y2) = D + x * y2 := IntWalk.i64_in _ (by omega)
        clear hp1 hp2
        go_quiet (fail)
        clear e5 e6
        go_wp2_with fail
        go_roundw
        case rel => exact ⟨k + 1, _, by omega, by go_num, by rw [HL.out.2.2], by simpa using H5.out.1.drewN _, by rw [HL.out.2.1]; exact H5.out.2.1.drewN _, fun bb hbb => by
          have : q = bb := by simpa [Value.ownBlock] using hbb
          have := H5.out.2.2.1; omega, H5.out.2.2.2.drewN _⟩
        case measure => simp [intOf]; omega
      · have k2 : ¬ (k : Int) < (m : Int) := by omega
        have hx : inp xs k = 0 := by
          unfold inp
          rw [show xs.getD k 0 = 0 from by
            have : xs.length ≤ k := by rw [HR.out.1.len]; omega
            simp [List.getD, this]]
          rfl
        have Hx := Lib.hid hx
        clear hx
        go_wp2_with (at_builtin; refine wpList_append_lies _ rfl (.tmp 44) (.tmp 46) 110 rfl 0 3 j0 (.int .i64 0) 1 8 Tryd.underlying110 ki kz0 kz1 kz2 rfl (by decide) _ X.length (ivs .i64 X) rfl (World.ownsRow.alloc HS.out.2.1 _) ⟨wr.heap.size, 0, none⟩ 1 1 (ivs .i64 [0]) rfl rfl (cell_one_new _ _ _) (ivs_one _ _) (by decide) (by have := HL.out.1; unfold maxLen; omega) (by have := HL.out.1; omega) (by omega) (wr.heap.size + 1) (by simp) ?_)
        intro q cp w4 hown4 hgrow hat hlt4
        have ho4 : Own w4 3 .i64 (.slice (some ⟨q, 0, none⟩) (X.length + 1) cp) (X ++ [0]) := Own.of_append hown4 rfl
        have hq : w'.heap.size ≤ q := by
          rcases hat with e | e
          · exact HS.out.2.2.1 q e
          · have := HS.out.2.2.2.size; omega
        have hug : u.ownBlock ≠ some g := HS.out.2.1.ne_blk HS.out.1 (by decide)
        have hb4 := (HS.out.1.alloc (.cells #[.int .i64 0] 3)).grown hgrow (fun e => hug e.symm)
        have hk4 : Kept (fun j => j = g) w' w4 := Kept.grown (HS.out.2.2.2.alloc _) hgrow fun k e hlt' => by have := HS.out.2.2.1 k e; omega
        have hgq : g ≠ q := by
          have hl := HH.out.blk.lt
          rcases hat with e | e
          · rintro rfl; exact hug e
          · have := HS.out.2.2.2.size; omega
        have d1 : w4.cell? ⟨g, 1, none⟩ = some u := hb4.cell 1
        have g1 := hb4.frozen 1
        have hb5 := hb4.set_ 1 (.slice (some ⟨q, 0, none⟩) (X.length + 1) cp)
        have ho5 := ho4.setFar (p := ⟨g, 1, none⟩) (fun e => hgq (by simpa [Value.ownBlock] using e.symm)) (.slice (some ⟨q, 0, none⟩) (X.length + 1) cp)
        have hk5 : Kept (fun j => j = g) w' (w4.setCell ⟨g, 1, none⟩ (.slice (some ⟨q, 0, none⟩) (X.length + 1) cp)) := hk4.setCell (p := ⟨g, 1, none⟩) (fun _ => rfl) _
        have H5 := Lib.hid (And.intro hb5 (And.intro ho5 (And.intro hq hk5)))
        clear hb5 ho5 hq hk5 hown4 hgrow hat ho4 hb4 hk4
        go_wp2_with fail
        have hrw := HRW.out _ H5.out.2.2.2
        have e0 := H5.out.1.cell 0
        have e2 := H5.out.1.cell 2
        simp only [List.setIfInBounds_toArray, List.set_cons_zero, List.set_cons_succ, List.getElem?_toArray, List.getElem?_cons_succ, List.getElem?_cons_zero] at e0 e2
        have e3 := (HC5.out _ H5.out.2.2.2)
        have e4 := hrw.cell hp hlt
        have hpr := prod_bd (HI.out k) (HWb.out k)
        have HRW5 := Lib.hid hrw
        clear hrw c0 d1 g1
        generalize w4.setCell ⟨g, 1, none⟩ (.slice (some ⟨q, 0, none⟩) (X.length + 1) cp) = w5 at *
        rw [Hx.out] at HL hpr
        generalize W p k = y2 at *
        have p0 : (0 : Int) ≤ (p : Int) := by omega
        have p1 : (p : Int) < (n : Int) := by omega
        obtain ⟨hp1, hp2⟩ := hpr
        have e5 : IntKind.i64.wrap 0 = 0 := IntWalk.i64_in _ (by omega)
        have e6 : IntKind.i64.wrap D = D := IntWalk.i64_in _ (by omega)
        clear hp1 hp2
        go_quiet (fail)
        clear e5 e6
        go_wp2_with fail
        go_roundw
        case rel => exact ⟨k + 1, _, by omega, by go_num, by rw [HL.out.2.2]; simp, by simpa using H5.out.1.drewN _, by rw [HL.out.2.1]; exact H5.out.2.1.drewN _, fun bb hbb => by
          have : q = bb := by simpa [Value.ownBlock] using hbb
          have := H5.out.2.2.1; omega, H5.out.2.2.2.drewN _⟩
        case measure => simp [intOf]; omega
    · obtain rfl : k = 4 := by omega
      have HS := Lib.hid (And.intro hbk (And.intro ho (And.intro hu hkp)))
      clear hbk ho hu hkp
      go_wp2_with fail
      have d3 : wr.cell? ⟨g, 3, none⟩ = some (.int .i64 t) := HS.out.1.cell 3
      have g3 := HS.out.1.frozen 3
      have htb := tl_bd0 (inp xs) (W p)
      have HSq : Hid (∀ V, Calls Tryd.prog 64 #[.int .i64 (dotTo (inp xs) (W p) 4 / 65536)] V fun e w' => e = .returned (.int .i64 (tl (inp xs) (W p))) ∧ w' = V) := Lib.hid fun V => qSquash_any _ V
      have hb6 := HS.out.1.set_ 3 (.int .i64 (tl (inp xs) (W p)))
      have ho6 := HS.out.2.1.setFar (p := ⟨g, 3, none⟩) (HS.out.2.1.ne_blk HS.out.1 (by decide)) (.int .i64 (tl (inp xs) (W p)))
      have hk6 : Kept (fun j => j = g) w' (wr.setCell ⟨g, 3, none⟩ (.int .i64 (tl (inp xs) (W p)))) := HS.out.2.2.2.setCell (p := ⟨g, 3, none⟩) (fun _ => rfl) _
      have H6 := Lib.hid (And.intro hb6 (And.intro ho6 hk6))
      have Htb : Hid (0 ≤ tl (inp xs) (W p) ∧ tl (inp xs) (W p) ≤ 4095) := Lib.hid htb
      clear hb6 ho6 hk6 htb
      generalize dotTo (inp xs) (W p) 4 = D4 at *
      refine (HSq.out _).mono ?_
      rintro e w2 ⟨rfl, rfl⟩
      go_wp2_with fail
      go_ret
      refine ⟨rfl, H6.out.2.2, u, HS.out.2.2.1, ⟨by simpa using H6.out.1, HRW.out _ H6.out.2.2, H6.out.2.1, fun i hi e => ?_, fun k e => ?_, HH.out.glo, HH.out.pos, HH.out.le, hp, HH.out.bd, HI.out, Htb.out⟩⟩
      · have := HS.out.2.2.1 _ e
        have := HH.out.rws.lt hi
        omega
      · have h1 := HS.out.2.2.1 _ e
        have h2 := HH.out.blk.lt
        have h3 := HH.out.glo
        omega

theorem Rws.stored {w : World} {B : Nat} {v : Value} {n : Nat} {Q C : Nat → Nat} {W : Nat → Nat → Int} (h : Rws w B v n Q C W) {s k : Nat} (hs : s < n) (hk : k < 4) (x : Int) :
    Rws (w.setCell ⟨Q s, k, none⟩ (.int .i64 x)) B v n Q C (put1 W s k x) := by
  have hkp : Kept (fun i => i = Q s) w (w.setCell ⟨Q s, k, none⟩ (.int .i64 x)) := (Kept.refl (fun i => i = Q s) w).setCell (p := ⟨Q s, k, none⟩) (fun _ => rfl) _
  refine ⟨owns_kept h.own hkp (fun g hg e => h.apart hs (by rw [hg, e])), fun i hi => ?_, h.inj, h.lo, h.vlo⟩
  by_cases e : i = s
  · subst e
    have ho : Own w 3 .i64 (.slice (some ⟨Q i, 0, none⟩) (l4 (W i)).length (C i)) (l4 (W i)) := h.row i hi
    have := Own.stored ho k x
    rw [l4_set hk] at this
    rw [show put1 W i k x i = fun j => if j = k then x else W i j from by funext j; simp [put1]]
    exact this
  · rw [show put1 W s k x i = W i from by funext j; simp [put1, e]]
    exact (h.row i hi).kept hkp (fun g hg e' => by
      have : Q i = g := by simpa [Value.ownBlock] using hg
      exact e (h.inj i s hi hs (by omega)))

set_option maxHeartbeats 3200000 in
/-- Learn: P6.2. -/
theorem qmLearn_any (B g : Nat) (vW vI : Value) (n : Nat) (Q C : Nat → Nat) (W : Nat → Nat → Int) (s : Nat) (I : Nat → Int) (t b : Int) (w : World) (h : MxR w B g vW vI n Q C W s I t true) :
    Calls Tryd.prog 52 #[.pointer (some ⟨g, 0, none⟩), .int .i64 b] w fun e w' => e = .returned (.tuple #[]) ∧
      MxR w' B g vW vI n Q C (learnt W s I (er (b != 0) t)) s I t true ∧ Kept (fun j => j = Q s) w w' := by
  obtain ⟨bw, cap, rfl, hcs⟩ := h.rws.form h.pos
  have hin : Own w 3 .i64 vI (l4 I) := by simpa using h.inp
  obtain ⟨q, cq, rfl, _⟩ := hin.form (by simp [l4])
  have hqs := h.apart s h.lt
  have c0 : w.cell? ⟨g, 0, none⟩ = some (.slice (some ⟨bw, 0, none⟩) n cap) := h.blk.cell 0
  have c2 : w.cell? ⟨g, 2, none⟩ = some (.int .i64 s) := h.blk.cell 2
  have c3 : w.cell? ⟨g, 3, none⟩ = some (.int .i64 t) := h.blk.cell 3
  have c4 : w.cell? ⟨g, 4, none⟩ = some (.bool true) := h.blk.cell 4
  have cs := hcs s h.lt
  have s0 : (0 : Int) ≤ (s : Int) := by omega
  have s1 : (s : Int) < (n : Int) := by have := h.lt; omega
  have ht0 := h.tb.1
  have ht1 := h.tb.2
  have hbnd : -28665 ≤ er (b != 0) t ∧ er (b != 0) t ≤ 28665 := by unfold er; split <;> omega
  have he0 : er false t = -t * 7 := by unfold er; simp; omega
  have he1 : er true t = (4095 - t) * 7 := by unfold er; simp; omega
  have HH := Lib.hid (And.intro h (And.intro hin hqs))
  obtain ⟨one, hone⟩ : ∃ one, (b != 0) = one := ⟨_, rfl⟩
  rw [hone]
  clear h hin hqs hcs hbnd
  cases one
  · have He := Lib.hid he0
    clear he0 he1
    go_enter Tryd.func52, Tryd.ntmps52
    go_wp2_with fail
    go_quiet (fail)
    go_wp2_with fail
    generalize hE : -t * 7 = E at *
    have hbe : -28665 ≤ E ∧ E ≤ 28665 := by omega
    clear hE
    go_loopw [6] (fun i wr => ∃ k : Nat, k ≤ 4 ∧ i = .int .i64 k ∧ Rws wr B (.slice (some ⟨bw, 0, none⟩) n cap) n Q C (upTo W s I E k) ∧ Kept (fun j => j = Q s) w wr) (fun i _ => (4 - intOf i).toNat)
    case atStart => exact ⟨0, by omega, rfl, by rw [upTo_zero]; exact HH.out.1.rws.kept ((Kept.refl (fun _ => False) w).drewN _) (fun _ _ => id) (fun _ _ => id), (Kept.refl _ w).drewN _⟩
    case round =>
      obtain ⟨k, hk, rfl, hrw, hkp⟩ := hrel
      by_cases hlt : k < 4
      · have hgq : Q s ≠ g := by
          obtain ⟨cs', hb⟩ := HH.out.1.rws.blk HH.out.1.lt
          exact Blk.ne_ hb HH.out.1.blk (by decide)
        have d1 : wr.cell? ⟨g, 1, none⟩ = some (.slice (some ⟨q, 0, none⟩) 4 cq) := (hkp.cell (p := ⟨g, 1, none⟩) HH.out.1.blk.lt (fun e => hgq e.symm)).trans (HH.out.1.blk.cell 1)
        have d2 : wr.cell? ⟨q, k, none⟩ = some (.int .i64 (I k)) := by
          have hc := Own.cell (xs := l4 I) HH.out.2.1 (j := k) hlt
          rw [l4_get hlt] at hc
          exact (hkp.cell (p := ⟨q, k, none⟩) (World.block_lt_of_cell? w _ hc) (fun e => HH.out.2.2 (by rw [show q = Q s from e]; rfl))).trans hc
        have d3 := hrw.cell HH.out.1.lt hlt
        rw [upTo_at] at d3
        have d4 := hrw.frozen HH.out.1.lt k
        have hst := hrw.stored HH.out.1.lt hlt (lw (W s k) (I k) E)
        rw [upTo_put] at hst
        have hk2 : Kept (fun j => j = Q s) w (wr.setCell ⟨Q s, k, none⟩ (.int .i64 (lw (W s k) (I k) E))) := hkp.setCell (p := ⟨Q s, k, none⟩) (fun _ => rfl) _
        have hcl : max (-16777216) (min (W s k + (I k * E + 32768) / 65536) 16777216) = lw (W s k) (I k) E := cl_int2 (by omega)
        have HS := Lib.hid (And.intro hst hk2)
        have hp := mul_bd (a := I k) (b := E) (A := 2047) (B := 28665) (HH.out.1.ib k) ⟨by omega, by omega⟩
        have hw := HH.out.1.bd s k
        have hlb := lw_bd (W s k) (I k) E
        obtain ⟨h3, h4⟩ := hw
        have h5 : -58677255 ≤ I k * E := by omega
        have h6 : I k * E ≤ 58677255 := by omega
        have k0 : (0 : Int) ≤ (k : Int) := by omega
        have k1 : (k : Int) < 4 := by omega
        clear hst hk2 hrw hkp hp c0 c2 c3 c4 cs
        generalize lw (W s k) (I k) E = L at *
        generalize W s k = y at *
        generalize I k = x at *
        have e1 : IntKind.i64.wrap (x * E) = x * E := IntWalk.i64_in _ (by omega)
        have e2 : IntKind.i64.wrap (x * E + 32768) = x * E + 32768 := IntWalk.i64_in _ (by omega)
        have e3 : IntKind.i64.wrap (y + (x * E + 32768) / 65536) = y + (x * E + 32768) / 65536 := IntWalk.i64_in _ (by omega)
        go_wp2_with fail
        go_still_tail 21, (by kernel_rfl)
        change wpList _ _ _ _ _ wr.drew
        clear e1 e2 e3
        go_wp2_with fail
        go_roundw
        case rel => exact ⟨k + 1, by omega, by go_num, HS.out.1.kept ((Kept.refl (fun _ => False) _).drew) (fun _ _ => id) (fun _ _ => id), HS.out.2.drew⟩
        case measure => simp [intOf]; omega
      · obtain rfl : k = 4 := by omega
        have HB := Lib.hid (And.intro hrw hkp)
        clear hrw hkp
        go_wp2_with fail
        go_end0
        refine ⟨rfl, ?_, HB.out.2⟩
        rw [He.out]
        obtain ⟨cs', hb⟩ := HH.out.1.rws.blk HH.out.1.lt
        have hgq : Q s ≠ g := Blk.ne_ hb HH.out.1.blk (by decide)
        exact ⟨HH.out.1.blk.kept HB.out.2 (fun e => hgq e.symm), HB.out.1, by simpa using HH.out.2.1.kept HB.out.2 (fun k hk e => HH.out.2.2 (by rw [hk, e])), HH.out.1.apart, HH.out.1.ilo, HH.out.1.glo, HH.out.1.pos, HH.out.1.le, HH.out.1.lt, upTo_bd HH.out.1.bd, HH.out.1.ib, HH.out.1.tb⟩
  · have He := Lib.hid he1
    clear he0 he1
    go_enter Tryd.func52, Tryd.ntmps52
    go_wp2_with fail
    go_quiet (fail)
    go_wp2_with fail
    generalize hE : (4095 - t) * 7 = E at *
    have hbe : -28665 ≤ E ∧ E ≤ 28665 := by omega
    clear hE
    go_loopw [6] (fun i wr => ∃ k : Nat, k ≤ 4 ∧ i = .int .i64 k ∧ Rws wr B (.slice (some ⟨bw, 0, none⟩) n cap) n Q C (upTo W s I E k) ∧ Kept (fun j => j = Q s) w wr) (fun i _ => (4 - intOf i).toNat)
    case atStart => exact ⟨0, by omega, rfl, by rw [upTo_zero]; exact HH.out.1.rws.kept ((Kept.refl (fun _ => False) w).drewN _) (fun _ _ => id) (fun _ _ => id), (Kept.refl _ w).drewN _⟩
    case round =>
      obtain ⟨k, hk, rfl, hrw, hkp⟩ := hrel
      by_cases hlt : k < 4
      · have hgq : Q s ≠ g := by
          obtain ⟨cs', hb⟩ := HH.out.1.rws.blk HH.out.1.lt
          exact Blk.ne_ hb HH.out.1.blk (by decide)
        have d1 : wr.cell? ⟨g, 1, none⟩ = some (.slice (some ⟨q, 0, none⟩) 4 cq) := (hkp.cell (p := ⟨g, 1, none⟩) HH.out.1.blk.lt (fun e => hgq e.symm)).trans (HH.out.1.blk.cell 1)
        have d2 : wr.cell? ⟨q, k, none⟩ = some (.int .i64 (I k)) := by
          have hc := Own.cell (xs := l4 I) HH.out.2.1 (j := k) hlt
          rw [l4_get hlt] at hc
          exact (hkp.cell (p := ⟨q, k, none⟩) (World.block_lt_of_cell? w _ hc) (fun e => HH.out.2.2 (by rw [show q = Q s from e]; rfl))).trans hc
        have d3 := hrw.cell HH.out.1.lt hlt
        rw [upTo_at] at d3
        have d4 := hrw.frozen HH.out.1.lt k
        have hst := hrw.stored HH.out.1.lt hlt (lw (W s k) (I k) E)
        rw [upTo_put] at hst
        have hk2 : Kept (fun j => j = Q s) w (wr.setCell ⟨Q s, k, none⟩ (.int .i64 (lw (W s k) (I k) E))) := hkp.setCell (p := ⟨Q s, k, none⟩) (fun _ => rfl) _
        have hcl : max (-16777216) (min (W s k + (I k * E + 32768) / 65536) 16777216) = lw (W s k) (I k) E := cl_int2 (by omega)
        have HS := Lib.hid (And.intro hst hk2)
        have hp := mul_bd (a := I k) (b := E) (A := 2047) (B := 28665) (HH.out.1.ib k) ⟨by omega, by omega⟩
        have hw := HH.out.1.bd s k
        have hlb := lw_bd (W s k) (I k) E
        obtain ⟨h3, h4⟩ := hw
        have h5 : -58677255 ≤ I k * E := by omega
        have h6 : I k * E ≤ 58677255 := by omega
        have k0 : (0 : Int) ≤ (k : Int) := by omega
        have k1 : (k : Int) < 4 := by omega
        clear hst hk2 hrw hkp hp c0 c2 c3 c4 cs
        generalize lw (W s k) (I k) E = L at *
        generalize W s k = y at *
        generalize I k = x at *
        have e1 : IntKind.i64.wrap (x * E) = x * E := IntWalk.i64_in _ (by omega)
        have e2 : IntKind.i64.wrap (x * E + 32768) = x * E + 32768 := IntWalk.i64_in _ (by omega)
        have e3 : IntKind.i64.wrap (y + (x * E + 32768) / 65536) = y + (x * E + 32768) / 65536 := IntWalk.i64_in _ (by omega)
        go_wp2_with fail
        go_still_tail 21, (by kernel_rfl)
        change wpList _ _ _ _ _ wr.drew
        clear e1 e2 e3
        go_wp2_with fail
        go_roundw
        case rel => exact ⟨k + 1, by omega, by go_num, HS.out.1.kept ((Kept.refl (fun _ => False) _).drew) (fun _ _ => id) (fun _ _ => id), HS.out.2.drew⟩
        case measure => simp [intOf]; omega
      · obtain rfl : k = 4 := by omega
        have HB := Lib.hid (And.intro hrw hkp)
        clear hrw hkp
        go_wp2_with fail
        go_end0
        refine ⟨rfl, ?_, HB.out.2⟩
        rw [He.out]
        obtain ⟨cs', hb⟩ := HH.out.1.rws.blk HH.out.1.lt
        have hgq : Q s ≠ g := Blk.ne_ hb HH.out.1.blk (by decide)
        exact ⟨HH.out.1.blk.kept HB.out.2 (fun e => hgq e.symm), HB.out.1, by simpa using HH.out.2.1.kept HB.out.2 (fun k hk e => HH.out.2.2 (by rw [hk, e])), HH.out.1.apart, HH.out.1.ilo, HH.out.1.glo, HH.out.1.pos, HH.out.1.le, HH.out.1.lt, upTo_bd HH.out.1.bd, HH.out.1.ib, HH.out.1.tb⟩

section
variable {w wr w1 : World} {g2 : Nat} {vW vI : Value} {n : Nat} {Q C : Nat → Nat} {W : Nat → Nat → Int} {s : Nat} {I : Nat → Int} {t : Int} {has : Bool}
theorem MxR.kept {B : Nat} {S : Nat → Prop} (m : MxR wr B g2 vW vI n Q C W s I t has) (hk : Kept S wr w1) (h1 : ¬ S g2) (h2 : ∀ k, vW.ownBlock = some k → ¬ S k) (h3 : ∀ i, i < n → ¬ S (Q i)) (h4 : ∀ k, vI.ownBlock = some k → ¬ S k) : MxR w1 B g2 vW vI n Q C W s I t has :=
  ⟨m.blk.kept hk h1, m.rws.kept hk h2 h3, m.inp.kept hk h4, m.apart, m.ilo, m.glo, m.pos, m.le, m.lt, m.bd, m.ib, m.tb⟩
/-- The document's stands as it stood, where a block of another type turns. -/
theorem MxR.far {B b : Nat} {ty : TypeId} {cs : Array Value} (m : MxR wr B g2 vW vI n Q C W s I t has) (hk : Kept (fun k => k = b) wr w1) (hb : Blk wr b ty cs) (h1 : 112 ≠ ty) (h2 : 110 ≠ ty) (h3 : 3 ≠ ty) : MxR w1 B g2 vW vI n Q C W s I t has :=
  m.kept hk (Blk.ne_ m.blk hb h1) (fun k e e' => owns_ne m.rws.own hb h2 (by rw [e, e'])) (fun i hi e => by
    obtain ⟨cs', hq⟩ := m.rws.blk hi
    exact Blk.ne_ hq hb h3 e) (fun k e e' => m.inp.ne_blk hb h3 (by rw [e, e']))
theorem MxR.drewN {B : Nat} (m : MxR wr B g2 vW vI n Q C W s I t has) (k : Nat) : MxR (wr.drewN k) B g2 vW vI n Q C W s I t has :=
  m.kept ((Kept.refl (fun _ => False) wr).drewN k) id (fun _ _ => id) (fun _ _ => id) (fun _ _ => id)
end

end Go.Proofs.YtpknbfkknnaajaaDoor
