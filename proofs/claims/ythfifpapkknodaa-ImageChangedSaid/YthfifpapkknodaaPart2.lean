/- Texts of this proof, one behind the other: PicM, PicPn, PicBi, PicC, PicG, PicSy, Texts, NumW, NumR. -/
import Derived.Test.YthfifpapkknodaaPart1
import Derived.BigRegion
import Derived.Lib.MinMax
import Derived.Laws.BitsAllLaws
import Derived.Deep.QuietTactic
import Derived.BigQuiet

/- The document's Pnm. -/
namespace Go.Proofs.Ythfifpapkknodaa
open Go.RowKit
set_option maxRecDepth 100000

attribute [local go_sem ↓] Go.wp_at_zero Go.wp_at_succ

theorem chn_none {l : List Int} {k : Nat} (h : chn l k = none) : ∀ m, k ≤ m → chn l m = none
  | 0, hm => by rw [← show k = 0 by omega]; exact h
  | m + 1, hm => by
    by_cases e : k = m + 1
    · rw [← e]; exact h
    · have ih := chn_none h m (by omega)
      rw [chn, ih]
/-- The three numbers' cells. -/
def c3 (vs : List Nat) : Array Value := #[.int .i64 (vs.getD 0 0 : Nat), .int .i64 (vs.getD 1 0 : Nat), .int .i64 (vs.getD 2 0 : Nat)]
theorem c3_set {vs : List Nat} {k v : Nat} (hl : vs.length = k) (hk : k < 3) : (c3 vs).setIfInBounds k (.int .i64 (v : Nat)) = c3 (vs ++ [v]) := by
  subst hl
  rcases vs with _ | ⟨a, _ | ⟨b, _ | ⟨c, r⟩⟩⟩
  · rfl
  · rfl
  · rfl
  · simp at hk; omega
/-- Amid the head. -/
structure PnS (w : World) (vs : List Nat) (pl : Nat) (wr : World) : Prop where
  res : Blk wr w.heap.size 28 #[.int .i64 0, .int .i64 0, .int .i64 0, .int .i64 0, .int .i64 0]
  pic : Blk wr (w.heap.size + 1) 28 #[.int .i64 0, .int .i64 0, .int .i64 pl, .int .i64 0, .int .i64 0]
  arr : Blk wr (w.heap.size + 2) 66 (c3 vs)
  fr : Fresh w wr
structure PnS' (w : World) (_ : Nat) (wr : World) : Prop where
  res : Blk wr w.heap.size 28 #[.int .i64 0, .int .i64 0, .int .i64 0, .int .i64 0, .int .i64 0]
  fr : Fresh w wr
theorem PnS.fresh {w wr V : World} {vs : List Nat} {pl : Nat} (h : PnS w vs pl wr) (hf : Fresh wr V) : PnS w vs pl V := ⟨h.res.kept hf id, h.pic.kept hf id, h.arr.kept hf id, h.fr.trans hf fun _ _ e => e⟩

theorem pns1 (w : World) (pl : Nat) : PnS w [] pl (((w.alloc (.cells #[.int .i64 0, .int .i64 0, .int .i64 0, .int .i64 0, .int .i64 0] 28)).alloc (.cells #[.int .i64 0, .int .i64 0, .int .i64 pl, .int .i64 0, .int .i64 0] 28)).alloc (.cells #[.int .i64 0, .int .i64 0, .int .i64 0] 66)) := by
  refine ⟨((Blk.new _ _ _).alloc _).alloc _, ?_, ?_, (((Kept.refl _ _).alloc _).alloc _).alloc _⟩
  · have := Blk.new (w.alloc (.cells #[.int .i64 0, .int .i64 0, .int .i64 0, .int .i64 0, .int .i64 0] 28)) 28 #[.int .i64 0, .int .i64 0, .int .i64 pl, .int .i64 0, .int .i64 0]
    rw [World.size_alloc] at this
    exact this.alloc _
  · have := Blk.new ((w.alloc (.cells #[.int .i64 0, .int .i64 0, .int .i64 0, .int .i64 0, .int .i64 0] 28)).alloc (.cells #[.int .i64 0, .int .i64 0, .int .i64 pl, .int .i64 0, .int .i64 0] 28)) 66 #[.int .i64 0, .int .i64 0, .int .i64 0]
    rw [World.size_alloc, World.size_alloc] at this
    exact this

/-- At the end of the head. -/
structure PnF (w : World) (a b pl s f : Nat) (W : World) : Prop where
  res : Blk W w.heap.size 28 #[.int .i64 0, .int .i64 0, .int .i64 0, .int .i64 0, .int .i64 0]
  pic : Blk W (w.heap.size + 1) 28 #[.int .i64 a, .int .i64 b, .int .i64 pl, .int .i64 s, .int .i64 f]
  fr : Fresh w W
theorem set5 {w W : World} (h : Fresh w W) (a b c d e : Value) : Fresh w (((((W.setCell ⟨w.heap.size, 0, none⟩ a).setCell ⟨w.heap.size, 1, none⟩ b).setCell ⟨w.heap.size, 2, none⟩ c).setCell ⟨w.heap.size, 3, none⟩ d).setCell ⟨w.heap.size, 4, none⟩ e) :=
  ((((h.setCell (p := ⟨w.heap.size, 0, none⟩) (fun e => absurd e (Nat.lt_irrefl _)) a).setCell (p := ⟨w.heap.size, 1, none⟩) (fun e => absurd e (Nat.lt_irrefl _)) b).setCell (p := ⟨w.heap.size, 2, none⟩) (fun e => absurd e (Nat.lt_irrefl _)) c).setCell (p := ⟨w.heap.size, 3, none⟩) (fun e => absurd e (Nat.lt_irrefl _)) d).setCell (p := ⟨w.heap.size, 4, none⟩) (fun e => absurd e (Nat.lt_irrefl _)) e
theorem c3_get (vs : List Nat) {k : Nat} (hk : k < 3) : (c3 vs)[k]? = some (.int .i64 (vs.getD k 0 : Nat)) := by
  rcases (show k = 0 ∨ k = 1 ∨ k = 2 by omega) with rfl | rfl | rfl <;> rfl

set_option maxHeartbeats 6400000 in
theorem qPnmIn_any (A : Option Addr) (n c : Nat) (l : List Int) (w : World) (hr : Row w .u8 A n l) (h8 : B8 l) (hn : n ≤ 1000000000) (hh : hdP l) :
    Calls Try.prog 21 #[.slice A n c] w fun e w' => e = .returned (.tuple #[pval (pnmP l), .bool (pnmP l).isSome]) ∧ Fresh w w' := by
  obtain rfl := hr.len
  obtain ⟨hl2, h0, h1⟩ := hh
  obtain ⟨b, o, rfl, hb, hc⟩ := hr.at_ 0 (by omega)
  obtain ⟨b', o', eA, _, hc1⟩ := hr.at_ 1 (by omega)
  injection eA with eA
  injection eA with e1 e2
  subst e1 e2
  rw [h0, Nat.add_zero] at hc
  have l0 : ¬ (l.length : Int) < 2 := by omega
  have i0 : (0 : Int) < (l.length : Int) := by omega
  have i1 : (1 : Int) < (l.length : Int) := by omega
  obtain ⟨pl, hpl⟩ : ∃ pl, pl = plnP l := ⟨_, rfl⟩
  have hpc : (l.getD 1 0 = 53 ∧ pl = 1) ∨ (l.getD 1 0 = 54 ∧ pl = 3) := by
    unfold plnP at hpl
    rcases h1 with h | h
    · rw [h] at hpl; exact .inl ⟨h, hpl⟩
    · rw [h] at hpl; exact .inr ⟨h, hpl⟩
  have HP : Hid (pnmP l = match chn l 3 with
    | none => none
    | some r => if r.2 < l.length ∧ blk (l.getD r.2 0) ∧ 1 ≤ r.1.getD 2 0 ∧ r.1.getD 2 0 ≤ 255 then pnmR (r.1.getD 0 0) (r.1.getD 1 0) pl (r.2 + 1) l.length else none) := Lib.hid (by rw [hpl]; unfold pnmP; rw [if_pos ⟨hl2, h0, h1⟩]; rfl)
  have HR := Lib.hid (And.intro hr h8)
  have hc0' : ∀ V, Fresh w V → V.cell? ⟨b, o + 1, none⟩ = some (.int .u8 (l.getD 1 0)) := fun V hV => (hV.cell (p := ⟨b, o + 1, none⟩) hb id).trans hc1
  clear hr h8 hpl h1
  rcases hpc with ⟨hx, hp3⟩ | ⟨hx, hp3⟩
  all_goals
    rw [hx] at hc1 hc0'
    go_enter Try.func21, Try.ntmps21
    go_wp2_with fail
    have Hp3 := Lib.hid hp3
    clear hp3
    go_loopw [6, 7] (fun a i wr => ∃ k : Nat, ∃ r : List Nat × Nat, k ≤ 3 ∧ i = .int .i64 (k : Int) ∧ a = .int .i64 (r.2 : Int) ∧ chn l k = some r ∧ PnS w r.1 pl wr) (fun _ i _ => (3 - intOf i).toNat)
    case atStart => exact ⟨0, ([], 2), by omega, rfl, rfl, rfl, by have hp3 := Hp3.out; subst hp3; exact pns1 w _⟩
    case round =>
      obtain ⟨k, r, hk, rfl, rfl, hch, hS⟩ := hrel
      obtain ⟨vs, j⟩ := r
      simp only [] at *
      obtain ⟨hvl, hv5, hj2, hjl⟩ := chn_len hch
      have hjl : j ≤ l.length := by
        rcases Nat.eq_zero_or_pos k with e | e
        · subst e
          injection hch with hch
          injection hch with _ e2
          omega
        · exact hjl e
      have HW := Lib.hid (qWhite_any (some ⟨b, o, none⟩) l.length c l j wr (HR.out.1.kept hS.fr (fun _ _ _ _ => id)) HR.out.2 hn hjl)
      have HS := Lib.hid (And.intro hS hch)
      by_cases hlt : k < 3
      · have ik : (k : Int) < 3 := by omega
        have hck : chn l (k + 1) = match tok l j with
          | none => none
          | some t => some (vs ++ [t.1], t.2) := by rw [chn, hch]; rfl
        have Hck := Lib.hid hck
        clear hS hch hck
        go_wp2_with fail
        refine HW.out.mono ?_
        rintro e w1 ⟨rfl, hf1⟩
        have h1S := HS.out.1.fresh hf1
        by_cases hw0 : whi l j j < 0
        · have hno : chn l (k + 1) = none := by rw [Hck.out]; unfold tok; rw [if_pos hw0]
          have HQ : Hid (pnmP l = none) := Lib.hid (by rw [HP.out, chn_none hno 3 (by omega)])
          have H1 := Lib.hid h1S
          clear h1S hf1 HW
          generalize whi l j j = wj at *
          have rz0 : w1.cell? ⟨w.heap.size, 0, none⟩ = some (.int .i64 0) := (H1.out.res.cell 0).trans rfl
          have rzf0 : w1.frozen? ⟨w.heap.size, 0, none⟩ = false := H1.out.res.frozen 0
          have rz1 : w1.cell? ⟨w.heap.size, 1, none⟩ = some (.int .i64 0) := (H1.out.res.cell 1).trans rfl
          have rzf1 : w1.frozen? ⟨w.heap.size, 1, none⟩ = false := H1.out.res.frozen 1
          have rz2 : w1.cell? ⟨w.heap.size, 2, none⟩ = some (.int .i64 0) := (H1.out.res.cell 2).trans rfl
          have rzf2 : w1.frozen? ⟨w.heap.size, 2, none⟩ = false := H1.out.res.frozen 2
          have rz3 : w1.cell? ⟨w.heap.size, 3, none⟩ = some (.int .i64 0) := (H1.out.res.cell 3).trans rfl
          have rzf3 : w1.frozen? ⟨w.heap.size, 3, none⟩ = false := H1.out.res.frozen 3
          have rz4 : w1.cell? ⟨w.heap.size, 4, none⟩ = some (.int .i64 0) := (H1.out.res.cell 4).trans rfl
          have rzf4 : w1.frozen? ⟨w.heap.size, 4, none⟩ = false := H1.out.res.frozen 4
          go_wp2_with fail
          refine bodyPost_ret (v := .tuple #[pval none, .bool false]) (by simp [results, Try.f21, go_sem, pval, rz0, rz1, rz2, rz3, rz4]) rfl ?_
          exact ⟨by rw [HQ.out]; rfl, set5 H1.out.fr _ _ _ _ _⟩
        · obtain ⟨jw, hjw⟩ : ∃ jw : Nat, whi l j j = jw := ⟨(whi l j j).toNat, by omega⟩
          have hwin := whi_in l j j (Nat.le_refl _)
          have hjl2 : j ≤ jw ∧ jw < l.length := by omega
          have HN := Lib.hid (qNumber_any (some ⟨b, o, none⟩) l.length c l jw w1 (HR.out.1.kept h1S.fr (fun _ _ _ _ => id)) HR.out.2 hn (by omega))
          have Htk : Hid (tok l j = if (numP l jw).2 < 0 then none else some ((numP l jw).1.toNat, (numP l jw).2.toNat)) := Lib.hid (by unfold tok; rw [if_neg hw0, hjw, Int.toNat_natCast])
          have hnin := fun h => numP_in (l := l) (i := jw) (by omega) h
          have jw0 : ¬ (jw : Int) < 0 := by omega
          have H1 := Lib.hid h1S
          rw [hjw]
          clear h1S hf1 HW hw0 hjw hwin
          go_wp2_with fail
          refine HN.out.mono ?_
          rintro e w2 ⟨rfl, hf2⟩
          have h2S := H1.out.fresh hf2
          have ca : w2.cell? ⟨w.heap.size + 1 + 1, k, none⟩ = some (.int .i64 (vs.getD k 0 : Nat)) := (h2S.arr.cell k).trans (c3_get vs hlt)
          have fa : w2.frozen? ⟨w.heap.size + 1 + 1, k, none⟩ = false := h2S.arr.frozen k
          have H2 := Lib.hid h2S
          clear h2S hf2 HN H1
          by_cases hn0 : (numP l jw).2 < 0
          · have hno : chn l (k + 1) = none := by rw [Hck.out, Htk.out, if_pos hn0]
            have HQ : Hid (pnmP l = none) := Lib.hid (by rw [HP.out, chn_none hno 3 (by omega)])
            have H3 : Hid (∀ v : Value, PnS' w pl (w2.setCell ⟨w.heap.size + 1 + 1, k, none⟩ v)) := Lib.hid fun v => ⟨H2.out.res.far (p := ⟨w.heap.size + 1 + 1, k, none⟩) (show w.heap.size ≠ w.heap.size + 1 + 1 by omega) v, H2.out.fr.setCell (p := ⟨w.heap.size + 1 + 1, k, none⟩) (fun e => by simp at e; omega) v⟩
            clear hnin
            generalize (numP l jw).2 = n2 at *
            generalize (numP l jw).1 = n1 at *
            have rz0 : (w2.setCell ⟨w.heap.size + 1 + 1, k, none⟩ (.int .i64 n1)).cell? ⟨w.heap.size, 0, none⟩ = some (.int .i64 0) := ((H3.out (.int .i64 n1)).res.cell 0).trans rfl
            have rzf0 : (w2.setCell ⟨w.heap.size + 1 + 1, k, none⟩ (.int .i64 n1)).frozen? ⟨w.heap.size, 0, none⟩ = false := (H3.out (.int .i64 n1)).res.frozen 0
            have rz1 : (w2.setCell ⟨w.heap.size + 1 + 1, k, none⟩ (.int .i64 n1)).cell? ⟨w.heap.size, 1, none⟩ = some (.int .i64 0) := ((H3.out (.int .i64 n1)).res.cell 1).trans rfl
            have rzf1 : (w2.setCell ⟨w.heap.size + 1 + 1, k, none⟩ (.int .i64 n1)).frozen? ⟨w.heap.size, 1, none⟩ = false := (H3.out (.int .i64 n1)).res.frozen 1
            have rz2 : (w2.setCell ⟨w.heap.size + 1 + 1, k, none⟩ (.int .i64 n1)).cell? ⟨w.heap.size, 2, none⟩ = some (.int .i64 0) := ((H3.out (.int .i64 n1)).res.cell 2).trans rfl
            have rzf2 : (w2.setCell ⟨w.heap.size + 1 + 1, k, none⟩ (.int .i64 n1)).frozen? ⟨w.heap.size, 2, none⟩ = false := (H3.out (.int .i64 n1)).res.frozen 2
            have rz3 : (w2.setCell ⟨w.heap.size + 1 + 1, k, none⟩ (.int .i64 n1)).cell? ⟨w.heap.size, 3, none⟩ = some (.int .i64 0) := ((H3.out (.int .i64 n1)).res.cell 3).trans rfl
            have rzf3 : (w2.setCell ⟨w.heap.size + 1 + 1, k, none⟩ (.int .i64 n1)).frozen? ⟨w.heap.size, 3, none⟩ = false := (H3.out (.int .i64 n1)).res.frozen 3
            have rz4 : (w2.setCell ⟨w.heap.size + 1 + 1, k, none⟩ (.int .i64 n1)).cell? ⟨w.heap.size, 4, none⟩ = some (.int .i64 0) := ((H3.out (.int .i64 n1)).res.cell 4).trans rfl
            have rzf4 : (w2.setCell ⟨w.heap.size + 1 + 1, k, none⟩ (.int .i64 n1)).frozen? ⟨w.heap.size, 4, none⟩ = false := (H3.out (.int .i64 n1)).res.frozen 4
            go_wp2_with fail
            refine bodyPost_ret (v := .tuple #[pval none, .bool false]) (by simp [results, Try.f21, go_sem, pval, rz0, rz1, rz2, rz3, rz4]) rfl ?_
            exact ⟨by rw [HQ.out]; rfl, set5 (H3.out (.int .i64 n1)).fr _ _ _ _ _⟩
          · obtain ⟨p1, p2, p3, p4⟩ := hnin (by omega)
            obtain ⟨v, hv⟩ : ∃ v : Nat, (numP l jw).1 = v := ⟨(numP l jw).1.toNat, by omega⟩
            obtain ⟨z, hz⟩ : ∃ z : Nat, (numP l jw).2 = z := ⟨(numP l jw).2.toNat, by omega⟩
            have hnx : chn l (k + 1) = some (vs ++ [v], z) := by rw [Hck.out, Htk.out, if_neg hn0, hv, hz, Int.toNat_natCast, Int.toNat_natCast]
            have z0 : ¬ (z : Int) < 0 := by omega
            rw [hv, hz]
            have H3 : Hid (PnS w (vs ++ [v]) pl (w2.setCell ⟨w.heap.size + 1 + 1, k, none⟩ (.int .i64 v))) := Lib.hid ⟨H2.out.res.far (p := ⟨w.heap.size + 1 + 1, k, none⟩) (show w.heap.size ≠ w.heap.size + 1 + 1 by omega) _, H2.out.pic.far (p := ⟨w.heap.size + 1 + 1, k, none⟩) (show w.heap.size + 1 ≠ w.heap.size + 1 + 1 by omega) _, by
              have := H2.out.arr.set_ k (.int .i64 (v : Nat))
              rw [c3_set hvl hlt] at this
              exact this, H2.out.fr.setCell (p := ⟨w.heap.size + 1 + 1, k, none⟩) (fun e => by simp at e; omega) _⟩
            have Hnx := Lib.hid hnx
            clear hnin hn0 hv hz p1 p2 p3 p4 hnx Htk
            go_wp2_with fail
            go_roundw
            case rel => exact ⟨k + 1, (vs ++ [v], z), by omega, by go_num, rfl, Hnx.out, H3.out⟩
            case measure => simp [intOf]; omega
      · obtain rfl : k = 3 := by omega
        obtain ⟨a0, a1, a2, rfl⟩ : ∃ a0 a1 a2, vs = [a0, a1, a2] := by
          rcases vs with _ | ⟨x, _ | ⟨y, _ | ⟨z, _ | ⟨q, r⟩⟩⟩⟩ <;> simp at hvl
          exact ⟨x, y, z, rfl⟩
        have ha0 := hv5 a0 (by simp)
        have ha1 := hv5 a1 (by simp)
        have ha2 := hv5 a2 (by simp)
        have HQ0 : Hid (pnmP l = if j < l.length ∧ blk (l.getD j 0) ∧ 1 ≤ a2 ∧ a2 ≤ 255 then pnmR a0 a1 pl (j + 1) l.length else none) := Lib.hid (by rw [HP.out, hch]; rfl)
        have ik : ¬ ((3 : Nat) : Int) < 3 := by omega
        have n2 : wr.cell? ⟨w.heap.size + 1 + 1, 2, none⟩ = some (.int .i64 a2) := (hS.arr.cell 2).trans rfl
        clear hlt HW hvl hv5 hk hch
        by_cases hjn : j < l.length
        · have g0 : ¬ (l.length : Int) ≤ (j : Int) := by omega
          have g1 : (j : Int) < (l.length : Int) := by omega
          obtain ⟨b2, o2, eB, _, hcj⟩ := HR.out.1.at_ j hjn
          injection eB with eB
          injection eB with eB1 eB2
          subst eB1 eB2
          have kj : wr.cell? ⟨b, o + j, none⟩ = some (.int .u8 (l.getD j 0)) := (HS.out.1.fr.cell (p := ⟨b, o + j, none⟩) hb id).trans hcj
          have HBl := Lib.hid (qBlank_any (l.getD j 0) wr (HR.out.2.at_ j))
          generalize l.getD j 0 = cj at *
          clear hcj
          by_cases hbk : blk cj
          · rw [decide_eq_true hbk] at HBl
            by_cases hg1 : 1 ≤ a2
            · have g2 : ¬ (a2 : Int) < 1 := by omega
              by_cases hg2 : a2 ≤ 255
              · have g3 : ¬ (255 : Int) < (a2 : Int) := by omega
                have HQ1 : Hid (pnmP l = pnmR a0 a1 pl (j + 1) l.length) := Lib.hid (by rw [HQ0.out, if_pos ⟨hjn, hbk, hg1, hg2⟩])
                clear hS
                go_wp2_with fail
                refine HBl.out.mono ?_
                rintro e w1 ⟨rfl, rfl⟩
                have n0 : wr.cell? ⟨w.heap.size + 1 + 1, 0, none⟩ = some (.int .i64 a0) := (HS.out.1.arr.cell 0).trans rfl
                have n1 : wr.cell? ⟨w.heap.size + 1 + 1, 1, none⟩ = some (.int .i64 a1) := (HS.out.1.arr.cell 1).trans rfl
                have n0d : wr.drew.cell? ⟨w.heap.size + 1 + 1, 0, none⟩ = some (.int .i64 a0) := n0
                have n1d : wr.drew.cell? ⟨w.heap.size + 1 + 1, 1, none⟩ = some (.int .i64 a1) := n1
                obtain ⟨s, hs⟩ : ∃ s, s = a0 * pl := ⟨_, rfl⟩
                obtain ⟨z1, hz1⟩ : ∃ z1, z1 = j + 1 := ⟨_, rfl⟩
                have wj : (j : Int) + 1 = (z1 : Int) := by omega
                have wm : (a0 : Int) * (pl : Int) = (s : Int) := by rw [hs]; simp
                have wb : s ≤ 300000 := by
                  rw [hs]
                  rcases (show pl = 1 ∨ pl = 3 by have := Hp3.out; omega) with e | e <;> rw [e] <;> omega
                have Hsz := Lib.hid (And.intro hs hz1)
                clear hs hz1
                have pz0 : wr.cell? ⟨w.heap.size + 1, 0, none⟩ = some (.int .i64 0) := (HS.out.1.pic.cell 0).trans rfl
                have pzf0 : wr.frozen? ⟨w.heap.size + 1, 0, none⟩ = false := HS.out.1.pic.frozen 0
                have pz1 : wr.cell? ⟨w.heap.size + 1, 1, none⟩ = some (.int .i64 0) := (HS.out.1.pic.cell 1).trans rfl
                have pzf1 : wr.frozen? ⟨w.heap.size + 1, 1, none⟩ = false := HS.out.1.pic.frozen 1
                have pz2 : wr.cell? ⟨w.heap.size + 1, 2, none⟩ = some (.int .i64 pl) := (HS.out.1.pic.cell 2).trans rfl
                have pzf2 : wr.frozen? ⟨w.heap.size + 1, 2, none⟩ = false := HS.out.1.pic.frozen 2
                have pz3 : wr.cell? ⟨w.heap.size + 1, 3, none⟩ = some (.int .i64 0) := (HS.out.1.pic.cell 3).trans rfl
                have pzf3 : wr.frozen? ⟨w.heap.size + 1, 3, none⟩ = false := HS.out.1.pic.frozen 3
                have pz4 : wr.cell? ⟨w.heap.size + 1, 4, none⟩ = some (.int .i64 0) := (HS.out.1.pic.cell 4).trans rfl
                have pzf4 : wr.frozen? ⟨w.heap.size + 1, 4, none⟩ = false := HS.out.1.pic.frozen 4
                have pd0 : wr.drew.cell? ⟨w.heap.size + 1, 0, none⟩ = some (.int .i64 0) := (HS.out.1.pic.drew.cell 0).trans rfl
                have pdf0 : wr.drew.frozen? ⟨w.heap.size + 1, 0, none⟩ = false := HS.out.1.pic.drew.frozen 0
                have pd1 : wr.drew.cell? ⟨w.heap.size + 1, 1, none⟩ = some (.int .i64 0) := (HS.out.1.pic.drew.cell 1).trans rfl
                have pdf1 : wr.drew.frozen? ⟨w.heap.size + 1, 1, none⟩ = false := HS.out.1.pic.drew.frozen 1
                have pd2 : wr.drew.cell? ⟨w.heap.size + 1, 2, none⟩ = some (.int .i64 pl) := (HS.out.1.pic.drew.cell 2).trans rfl
                have pdf2 : wr.drew.frozen? ⟨w.heap.size + 1, 2, none⟩ = false := HS.out.1.pic.drew.frozen 2
                have pd3 : wr.drew.cell? ⟨w.heap.size + 1, 3, none⟩ = some (.int .i64 0) := (HS.out.1.pic.drew.cell 3).trans rfl
                have pdf3 : wr.drew.frozen? ⟨w.heap.size + 1, 3, none⟩ = false := HS.out.1.pic.drew.frozen 3
                have pd4 : wr.drew.cell? ⟨w.heap.size + 1, 4, none⟩ = some (.int .i64 0) := (HS.out.1.pic.drew.cell 4).trans rfl
                have pdf4 : wr.drew.frozen? ⟨w.heap.size + 1, 4, none⟩ = false := HS.out.1.pic.drew.frozen 4
                go_wp2_with fail
                go_region
                have H5 : Hid (PnF w a0 a1 pl 0 z1 (((wr.setCell ⟨w.heap.size + 1, 0, none⟩ (.int .i64 a0)).setCell ⟨w.heap.size + 1, 1, none⟩ (.int .i64 a1)).setCell ⟨w.heap.size + 1, 4, none⟩ (.int .i64 (z1 : Int))).drew) := Lib.hid ⟨by
                  exact (((HS.out.1.res.far (p := ⟨w.heap.size + 1, 0, none⟩) (show w.heap.size ≠ w.heap.size + 1 by omega) _).far (p := ⟨w.heap.size + 1, 1, none⟩) (show w.heap.size ≠ w.heap.size + 1 by omega) _).far (p := ⟨w.heap.size + 1, 4, none⟩) (show w.heap.size ≠ w.heap.size + 1 by omega) _).drew, by
                  have := (((HS.out.1.pic.set_ 0 (.int .i64 (a0 : Nat))).set_ 1 (.int .i64 (a1 : Nat))).set_ 4 (.int .i64 (z1 : Int))).drew
                  simpa using this, (((HS.out.1.fr.setCell (p := ⟨w.heap.size + 1, 0, none⟩) (fun e => by simp at e; omega) _).setCell (p := ⟨w.heap.size + 1, 1, none⟩) (fun e => by simp at e; omega) _).setCell (p := ⟨w.heap.size + 1, 4, none⟩) (fun e => by simp at e; omega) _).drew⟩
                generalize (((wr.setCell ⟨w.heap.size + 1, 0, none⟩ (.int .i64 a0)).setCell ⟨w.heap.size + 1, 1, none⟩ (.int .i64 a1)).setCell ⟨w.heap.size + 1, 4, none⟩ (.int .i64 (z1 : Int))).drew = W5 at *
                have p50 : W5.cell? ⟨w.heap.size + 1, 0, none⟩ = some (.int .i64 a0) := (H5.out.pic.cell 0).trans rfl
                have p5f0 : W5.frozen? ⟨w.heap.size + 1, 0, none⟩ = false := H5.out.pic.frozen 0
                have p51 : W5.cell? ⟨w.heap.size + 1, 1, none⟩ = some (.int .i64 a1) := (H5.out.pic.cell 1).trans rfl
                have p5f1 : W5.frozen? ⟨w.heap.size + 1, 1, none⟩ = false := H5.out.pic.frozen 1
                have p52 : W5.cell? ⟨w.heap.size + 1, 2, none⟩ = some (.int .i64 pl) := (H5.out.pic.cell 2).trans rfl
                have p5f2 : W5.frozen? ⟨w.heap.size + 1, 2, none⟩ = false := H5.out.pic.frozen 2
                have p53 : W5.cell? ⟨w.heap.size + 1, 3, none⟩ = some (.int .i64 0) := (H5.out.pic.cell 3).trans rfl
                have p5f3 : W5.frozen? ⟨w.heap.size + 1, 3, none⟩ = false := H5.out.pic.frozen 3
                have p54 : W5.cell? ⟨w.heap.size + 1, 4, none⟩ = some (.int .i64 (z1 : Int)) := (H5.out.pic.cell 4).trans rfl
                have p5f4 : W5.frozen? ⟨w.heap.size + 1, 4, none⟩ = false := H5.out.pic.frozen 4
                have H6 : Hid (PnF w a0 a1 pl s z1 (W5.setCell ⟨w.heap.size + 1, 3, none⟩ (.int .i64 (s : Int)))) := Lib.hid ⟨H5.out.res.far (p := ⟨w.heap.size + 1, 3, none⟩) (show w.heap.size ≠ w.heap.size + 1 by omega) _, by
                  have := H5.out.pic.set_ 3 (.int .i64 (s : Int))
                  simpa using this, H5.out.fr.setCell (p := ⟨w.heap.size + 1, 3, none⟩) (fun e => by simp at e; omega) _⟩
                have HFt := Lib.hid (qFits_any a0 a1 pl (s : Int) (z1 : Int) l.length (W5.setCell ⟨w.heap.size + 1, 3, none⟩ (.int .i64 (s : Int))) (by omega) (by omega) (by omega))
                go_wp2_with fail
                refine HFt.out.mono ?_
                rintro e w7 ⟨rfl, hf7⟩
                have h7res := H6.out.res.kept hf7 id
                have h7pic := H6.out.pic.kept hf7 id
                have H7 := Lib.hid (And.intro h7res (H6.out.fr.trans hf7 fun _ _ e => e))
                by_cases hfit : fitP a0 a1 (s : Int) (z1 : Int) l.length
                · rw [decide_eq_true hfit]
                  have HQ : Hid (pnmP l = some (a0, a1, pl, s, z1)) := Lib.hid (by rw [HQ1.out]; unfold pnmR; rw [← Hsz.out.1, ← Hsz.out.2, if_pos hfit])
                  have p70 : w7.cell? ⟨w.heap.size + 1, 0, none⟩ = some (.int .i64 a0) := (h7pic.cell 0).trans rfl
                  have p7f0 : w7.frozen? ⟨w.heap.size + 1, 0, none⟩ = false := h7pic.frozen 0
                  have p71 : w7.cell? ⟨w.heap.size + 1, 1, none⟩ = some (.int .i64 a1) := (h7pic.cell 1).trans rfl
                  have p7f1 : w7.frozen? ⟨w.heap.size + 1, 1, none⟩ = false := h7pic.frozen 1
                  have p72 : w7.cell? ⟨w.heap.size + 1, 2, none⟩ = some (.int .i64 pl) := (h7pic.cell 2).trans rfl
                  have p7f2 : w7.frozen? ⟨w.heap.size + 1, 2, none⟩ = false := h7pic.frozen 2
                  have p73 : w7.cell? ⟨w.heap.size + 1, 3, none⟩ = some (.int .i64 (s : Int)) := (h7pic.cell 3).trans rfl
                  have p7f3 : w7.frozen? ⟨w.heap.size + 1, 3, none⟩ = false := h7pic.frozen 3
                  have p74 : w7.cell? ⟨w.heap.size + 1, 4, none⟩ = some (.int .i64 (z1 : Int)) := (h7pic.cell 4).trans rfl
                  have p7f4 : w7.frozen? ⟨w.heap.size + 1, 4, none⟩ = false := h7pic.frozen 4
                  have rz0 : w7.cell? ⟨w.heap.size, 0, none⟩ = some (.int .i64 0) := (h7res.cell 0).trans rfl
                  have rzf0 : w7.frozen? ⟨w.heap.size, 0, none⟩ = false := h7res.frozen 0
                  have rz1 : w7.cell? ⟨w.heap.size, 1, none⟩ = some (.int .i64 0) := (h7res.cell 1).trans rfl
                  have rzf1 : w7.frozen? ⟨w.heap.size, 1, none⟩ = false := h7res.frozen 1
                  have rz2 : w7.cell? ⟨w.heap.size, 2, none⟩ = some (.int .i64 0) := (h7res.cell 2).trans rfl
                  have rzf2 : w7.frozen? ⟨w.heap.size, 2, none⟩ = false := h7res.frozen 2
                  have rz3 : w7.cell? ⟨w.heap.size, 3, none⟩ = some (.int .i64 0) := (h7res.cell 3).trans rfl
                  have rzf3 : w7.frozen? ⟨w.heap.size, 3, none⟩ = false := h7res.frozen 3
                  have rz4 : w7.cell? ⟨w.heap.size, 4, none⟩ = some (.int .i64 0) := (h7res.cell 4).trans rfl
                  have rzf4 : w7.frozen? ⟨w.heap.size, 4, none⟩ = false := h7res.frozen 4
                  clear h7res h7pic hf7 HFt hfit
                  go_wp2_with fail
                  refine bodyPost_ret (v := .tuple #[pval (some (a0, a1, pl, s, z1)), .bool true]) (by simp [results, Try.f21, go_sem, pval, rz0, rz1, rz2, rz3, rz4]) rfl ?_
                  exact ⟨by rw [HQ.out]; rfl, set5 H7.out.2 _ _ _ _ _⟩
                · rw [decide_eq_false hfit]
                  have HQ : Hid (pnmP l = none) := Lib.hid (by rw [HQ1.out]; unfold pnmR; rw [← Hsz.out.1, ← Hsz.out.2, if_neg hfit])
                  clear h7res h7pic hf7 HFt hfit
                  have rz0 : w7.cell? ⟨w.heap.size, 0, none⟩ = some (.int .i64 0) := (H7.out.1.cell 0).trans rfl
                  have rzf0 : w7.frozen? ⟨w.heap.size, 0, none⟩ = false := H7.out.1.frozen 0
                  have rz1 : w7.cell? ⟨w.heap.size, 1, none⟩ = some (.int .i64 0) := (H7.out.1.cell 1).trans rfl
                  have rzf1 : w7.frozen? ⟨w.heap.size, 1, none⟩ = false := H7.out.1.frozen 1
                  have rz2 : w7.cell? ⟨w.heap.size, 2, none⟩ = some (.int .i64 0) := (H7.out.1.cell 2).trans rfl
                  have rzf2 : w7.frozen? ⟨w.heap.size, 2, none⟩ = false := H7.out.1.frozen 2
                  have rz3 : w7.cell? ⟨w.heap.size, 3, none⟩ = some (.int .i64 0) := (H7.out.1.cell 3).trans rfl
                  have rzf3 : w7.frozen? ⟨w.heap.size, 3, none⟩ = false := H7.out.1.frozen 3
                  have rz4 : w7.cell? ⟨w.heap.size, 4, none⟩ = some (.int .i64 0) := (H7.out.1.cell 4).trans rfl
                  have rzf4 : w7.frozen? ⟨w.heap.size, 4, none⟩ = false := H7.out.1.frozen 4
                  go_wp2_with fail
                  refine bodyPost_ret (v := .tuple #[pval none, .bool false]) (by simp [results, Try.f21, go_sem, pval, rz0, rz1, rz2, rz3, rz4]) rfl ?_
                  exact ⟨by rw [HQ.out]; rfl, set5 H7.out.2 _ _ _ _ _⟩
              · have g3 : (255 : Int) < (a2 : Int) := by omega
                have HQ : Hid (pnmP l = none) := Lib.hid (by rw [HQ0.out, if_neg (fun h => hg2 h.2.2.2)])
                clear hS
                go_wp2_with fail
                refine HBl.out.mono ?_
                rintro e w1 ⟨rfl, rfl⟩
                have rz0 : wr.cell? ⟨w.heap.size, 0, none⟩ = some (.int .i64 0) := (HS.out.1.res.cell 0).trans rfl
                have rzf0 : wr.frozen? ⟨w.heap.size, 0, none⟩ = false := HS.out.1.res.frozen 0
                have rz1 : wr.cell? ⟨w.heap.size, 1, none⟩ = some (.int .i64 0) := (HS.out.1.res.cell 1).trans rfl
                have rzf1 : wr.frozen? ⟨w.heap.size, 1, none⟩ = false := HS.out.1.res.frozen 1
                have rz2 : wr.cell? ⟨w.heap.size, 2, none⟩ = some (.int .i64 0) := (HS.out.1.res.cell 2).trans rfl
                have rzf2 : wr.frozen? ⟨w.heap.size, 2, none⟩ = false := HS.out.1.res.frozen 2
                have rz3 : wr.cell? ⟨w.heap.size, 3, none⟩ = some (.int .i64 0) := (HS.out.1.res.cell 3).trans rfl
                have rzf3 : wr.frozen? ⟨w.heap.size, 3, none⟩ = false := HS.out.1.res.frozen 3
                have rz4 : wr.cell? ⟨w.heap.size, 4, none⟩ = some (.int .i64 0) := (HS.out.1.res.cell 4).trans rfl
                have rzf4 : wr.frozen? ⟨w.heap.size, 4, none⟩ = false := HS.out.1.res.frozen 4
                go_wp2_with fail
                refine bodyPost_ret (v := .tuple #[pval none, .bool false]) (by simp [results, Try.f21, go_sem, pval, rz0, rz1, rz2, rz3, rz4]) rfl ?_
                exact ⟨by rw [HQ.out]; rfl, set5 HS.out.1.fr _ _ _ _ _⟩
            · have g2 : (a2 : Int) < 1 := by omega
              have HQ : Hid (pnmP l = none) := Lib.hid (by rw [HQ0.out, if_neg (fun h => hg1 h.2.2.1)])
              clear hS
              go_wp2_with fail
              refine HBl.out.mono ?_
              rintro e w1 ⟨rfl, rfl⟩
              have rz0 : wr.cell? ⟨w.heap.size, 0, none⟩ = some (.int .i64 0) := (HS.out.1.res.cell 0).trans rfl
              have rzf0 : wr.frozen? ⟨w.heap.size, 0, none⟩ = false := HS.out.1.res.frozen 0
              have rz1 : wr.cell? ⟨w.heap.size, 1, none⟩ = some (.int .i64 0) := (HS.out.1.res.cell 1).trans rfl
              have rzf1 : wr.frozen? ⟨w.heap.size, 1, none⟩ = false := HS.out.1.res.frozen 1
              have rz2 : wr.cell? ⟨w.heap.size, 2, none⟩ = some (.int .i64 0) := (HS.out.1.res.cell 2).trans rfl
              have rzf2 : wr.frozen? ⟨w.heap.size, 2, none⟩ = false := HS.out.1.res.frozen 2
              have rz3 : wr.cell? ⟨w.heap.size, 3, none⟩ = some (.int .i64 0) := (HS.out.1.res.cell 3).trans rfl
              have rzf3 : wr.frozen? ⟨w.heap.size, 3, none⟩ = false := HS.out.1.res.frozen 3
              have rz4 : wr.cell? ⟨w.heap.size, 4, none⟩ = some (.int .i64 0) := (HS.out.1.res.cell 4).trans rfl
              have rzf4 : wr.frozen? ⟨w.heap.size, 4, none⟩ = false := HS.out.1.res.frozen 4
              go_wp2_with fail
              refine bodyPost_ret (v := .tuple #[pval none, .bool false]) (by simp [results, Try.f21, go_sem, pval, rz0, rz1, rz2, rz3, rz4]) rfl ?_
              exact ⟨by rw [HQ.out]; rfl, set5 HS.out.1.fr _ _ _ _ _⟩
          · rw [decide_eq_false hbk] at HBl
            have HQ : Hid (pnmP l = none) := Lib.hid (by rw [HQ0.out, if_neg (fun h => hbk h.2.1)])
            clear hS
            go_wp2_with fail
            refine HBl.out.mono ?_
            rintro e w1 ⟨rfl, rfl⟩
            have rz0 : wr.cell? ⟨w.heap.size, 0, none⟩ = some (.int .i64 0) := (HS.out.1.res.cell 0).trans rfl
            have rzf0 : wr.frozen? ⟨w.heap.size, 0, none⟩ = false := HS.out.1.res.frozen 0
            have rz1 : wr.cell? ⟨w.heap.size, 1, none⟩ = some (.int .i64 0) := (HS.out.1.res.cell 1).trans rfl
            have rzf1 : wr.frozen? ⟨w.heap.size, 1, none⟩ = false := HS.out.1.res.frozen 1
            have rz2 : wr.cell? ⟨w.heap.size, 2, none⟩ = some (.int .i64 0) := (HS.out.1.res.cell 2).trans rfl
            have rzf2 : wr.frozen? ⟨w.heap.size, 2, none⟩ = false := HS.out.1.res.frozen 2
            have rz3 : wr.cell? ⟨w.heap.size, 3, none⟩ = some (.int .i64 0) := (HS.out.1.res.cell 3).trans rfl
            have rzf3 : wr.frozen? ⟨w.heap.size, 3, none⟩ = false := HS.out.1.res.frozen 3
            have rz4 : wr.cell? ⟨w.heap.size, 4, none⟩ = some (.int .i64 0) := (HS.out.1.res.cell 4).trans rfl
            have rzf4 : wr.frozen? ⟨w.heap.size, 4, none⟩ = false := HS.out.1.res.frozen 4
            go_wp2_with fail
            refine bodyPost_ret (v := .tuple #[pval none, .bool false]) (by simp [results, Try.f21, go_sem, pval, rz0, rz1, rz2, rz3, rz4]) rfl ?_
            exact ⟨by rw [HQ.out]; rfl, set5 HS.out.1.fr _ _ _ _ _⟩
        · have g0 : (l.length : Int) ≤ (j : Int) := by omega
          have HQ : Hid (pnmP l = none) := Lib.hid (by rw [HQ0.out, if_neg (fun h => hjn h.1)])
          clear hS
          have rz0 : wr.cell? ⟨w.heap.size, 0, none⟩ = some (.int .i64 0) := (HS.out.1.res.cell 0).trans rfl
          have rzf0 : wr.frozen? ⟨w.heap.size, 0, none⟩ = false := HS.out.1.res.frozen 0
          have rz1 : wr.cell? ⟨w.heap.size, 1, none⟩ = some (.int .i64 0) := (HS.out.1.res.cell 1).trans rfl
          have rzf1 : wr.frozen? ⟨w.heap.size, 1, none⟩ = false := HS.out.1.res.frozen 1
          have rz2 : wr.cell? ⟨w.heap.size, 2, none⟩ = some (.int .i64 0) := (HS.out.1.res.cell 2).trans rfl
          have rzf2 : wr.frozen? ⟨w.heap.size, 2, none⟩ = false := HS.out.1.res.frozen 2
          have rz3 : wr.cell? ⟨w.heap.size, 3, none⟩ = some (.int .i64 0) := (HS.out.1.res.cell 3).trans rfl
          have rzf3 : wr.frozen? ⟨w.heap.size, 3, none⟩ = false := HS.out.1.res.frozen 3
          have rz4 : wr.cell? ⟨w.heap.size, 4, none⟩ = some (.int .i64 0) := (HS.out.1.res.cell 4).trans rfl
          have rzf4 : wr.frozen? ⟨w.heap.size, 4, none⟩ = false := HS.out.1.res.frozen 4
          go_wp2_with fail
          refine bodyPost_ret (v := .tuple #[pval none, .bool false]) (by simp [results, Try.f21, go_sem, pval, rz0, rz1, rz2, rz3, rz4]) rfl ?_
          exact ⟨by rw [HQ.out]; rfl, set5 HS.out.1.fr _ _ _ _ _⟩
end Go.Proofs.Ythfifpapkknodaa

/- The document's Pnm, where it has no head. -/
namespace Go.Proofs.Ythfifpapkknodaa
open Go.RowKit
set_option maxRecDepth 100000

attribute [local go_sem ↓] Go.wp_at_zero Go.wp_at_succ

set_option maxHeartbeats 6400000 in
theorem qPnmNo_any (A : Option Addr) (n c : Nat) (l : List Int) (w : World) (hr : Row w .u8 A n l) (h8 : B8 l) (hn : n ≤ 1000000000) (hno : ¬ hdP l) :
    Calls Try.prog 21 #[.slice A n c] w fun e w' => e = .returned (.tuple #[pval none, .bool false]) ∧ Fresh w w' := by
  obtain rfl := hr.len
  have hcs : l.length < 2 ∨ (¬ l.length < 2 ∧ l.getD 0 0 ≠ 80) ∨ (¬ l.length < 2 ∧ l.getD 0 0 = 80 ∧ l.getD 1 0 ≠ 53 ∧ l.getD 1 0 ≠ 54) := by
    unfold hdP at hno
    omega
  clear hno
  rcases hcs with h1 | ⟨h1, h2⟩ | ⟨h1, h2, h3, h4⟩
  · clear hr
    have l0 : (l.length : Int) < 2 := by omega
    go_enter Try.func21, Try.ntmps21
    go_wp2_with fail
    refine bodyPost_ret (v := .tuple #[pval none, .bool false]) (by simp [results, Try.f21, go_sem, pval]) rfl ?_
    exact ⟨rfl, (Kept.refl _ _).alloc _⟩
  · obtain ⟨b, o, rfl, hb, hc⟩ := hr.at_ 0 (by omega)
    rw [Nat.add_zero] at hc
    have hx := h8.at_ 0
    generalize l.getD 0 0 = x at *
    have bx : (x != 80) = true := by simp [h2]
    have l0 : ¬ (l.length : Int) < 2 := by omega
    have i0 : (0 : Int) < (l.length : Int) := by omega
    clear hr
    go_enter Try.func21, Try.ntmps21
    go_wp2_with fail
    refine bodyPost_ret (v := .tuple #[pval none, .bool false]) (by simp [results, Try.f21, go_sem, pval]) rfl ?_
    exact ⟨rfl, (Kept.refl _ _).alloc _⟩
  · obtain ⟨b, o, rfl, hb, hc⟩ := hr.at_ 0 (by omega)
    obtain ⟨b', o', eA, hb', hc'⟩ := hr.at_ 1 (by omega)
    injection eA with eA
    injection eA with e1 e2
    subst e1 e2
    rw [h2, Nat.add_zero] at hc
    have hx := h8.at_ 1
    generalize l.getD 1 0 = x at *
    have bx : (x != 53) = true := by simp [h3]
    have by_ : (x != 54) = true := by simp [h4]
    have l0 : ¬ (l.length : Int) < 2 := by omega
    have i0 : (0 : Int) < (l.length : Int) := by omega
    have i1 : (1 : Int) < (l.length : Int) := by omega
    clear hr
    go_enter Try.func21, Try.ntmps21
    go_wp2_with fail
    refine bodyPost_ret (v := .tuple #[pval none, .bool false]) (by simp [results, Try.f21, go_sem, pval]) rfl ?_
    exact ⟨rfl, (Kept.refl _ _).alloc _⟩

/-- Pnm: P16.2. -/
theorem qPnm_any (A : Option Addr) (n c : Nat) (l : List Int) (w : World) (hr : Row w .u8 A n l) (h8 : B8 l) (hn : n ≤ 1000000000) :
    Calls Try.prog 21 #[.slice A n c] w fun e w' => e = .returned (.tuple #[pval (pnmP l), .bool (pnmP l).isSome]) ∧ Fresh w w' := by
  by_cases hh : hdP l
  · exact qPnmIn_any A n c l w hr h8 hn hh
  · have hq : pnmP l = none := if_neg hh
    rw [hq]
    exact qPnmNo_any A n c l w hr h8 hn hh

end Go.Proofs.Ythfifpapkknodaa

/- The document's Bmp, where it has a head; Parse. -/
namespace Go.Proofs.Ythfifpapkknodaa
open Go.RowKit
set_option maxRecDepth 100000

attribute [local go_sem ↓] Go.wp_at_zero Go.wp_at_succ

/-- A number of four bytes, with its sign. -/
def sg4 (v : Nat) : Int := if v < 2147483648 then (v : Int) else (v : Int) - 4294967296
theorem sg4_u {v : Nat} (h : v < 4294967296) : IntKind.u32.wrap (v : Int) = (v : Int) := IntWalk.u32_in _ (by omega)
theorem sg4_i {v : Nat} (h : v < 4294967296) : IntKind.i32.wrap (v : Int) = sg4 v := by
  rw [IntKind.wrap_i32]
  unfold sg4
  split
  · omega
  · omega
theorem sg4_in {v : Nat} (h : v < 4294967296) : -2147483648 ≤ sg4 v ∧ sg4 v < 2147483648 := by unfold sg4; split <;> omega
theorem sg4_max {v : Nat} (h : v < 4294967296) : max (sg4 v) (-(sg4 v)) = (amt4 v : Nat) := by
  unfold sg4 amt4
  by_cases h1 : v < 2147483648
  · rw [if_pos h1, if_pos h1]; omega
  · rw [if_neg h1, if_neg h1]; omega
/-- The record and what is told. -/
structure BmS (w : World) (q : Nat) (a b p s f : Nat) (W : World) : Prop where
  res : Blk W w.heap.size 28 #[.int .i64 0, .int .i64 0, .int .i64 0, .int .i64 0, .int .i64 0]
  pic : Blk W q 28 #[.int .i64 a, .int .i64 b, .int .i64 p, .int .i64 s, .int .i64 f]
  fr : Fresh w W
  lt : w.heap.size < q
theorem BmS.fresh {w W V : World} {q a b p s f : Nat} (h : BmS w q a b p s f W) (hf : Fresh W V) : BmS w q a b p s f V := ⟨h.res.kept hf id, h.pic.kept hf id, h.fr.trans hf fun _ _ e => e, h.lt⟩

/-- The document's Bmp behind the two letters, by what its numbers are. -/
def bmpQ (x10 x14 x18 x22 x26 x28 x30 n : Nat) : Option (Nat × Nat × Nat × Nat × Nat) := if okB x10 x14 x26 x28 x30 then bmpR x18 (amt4 x22) (plnB x28) x10 n else none
theorem amt4_le {v : Nat} (h : v < 4294967296) : amt4 v ≤ 2147483648 := by unfold amt4; split <;> omega
theorem bms1 {w W : World} (hr : Blk W w.heap.size 28 #[.int .i64 0, .int .i64 0, .int .i64 0, .int .i64 0, .int .i64 0]) (hf : Fresh w W) (a b f : Nat) (u : Int) (hu : u = b) :
    BmS w W.heap.size a b 3 0 f (W.alloc (.cells #[.int .i64 a, .int .i64 u, .int .i64 3, .int .i64 0, .int .i64 f] 28)) := by
  subst hu
  exact ⟨hr.alloc _, Blk.new W 28 _, hf.alloc _, hr.lt⟩
theorem BmS.planes {w W : World} {q a b p s f : Nat} (h : BmS w q a b p s f W) (p' : Nat) : BmS w q a b p' s f (W.setCell ⟨q, 2, none⟩ (.int .i64 p')) :=
  ⟨h.res.far (p := ⟨q, 2, none⟩) (Nat.ne_of_lt h.lt) _, by simpa using h.pic.set_ 2 (.int .i64 p'), h.fr.setCell (p := ⟨q, 2, none⟩) (fun e => absurd h.lt (Nat.lt_asymm e)) _, h.lt⟩
theorem BmS.stride {w W : World} {q a b p s f : Nat} (h : BmS w q a b p s f W) (s' : Nat) (u : Int) (hu : u = s') : BmS w q a b p s' f (W.setCell ⟨q, 3, none⟩ (.int .i64 u)) := by
  subst hu
  exact ⟨h.res.far (p := ⟨q, 3, none⟩) (Nat.ne_of_lt h.lt) _, by simpa using h.pic.set_ 3 (.int .i64 s'), h.fr.setCell (p := ⟨q, 3, none⟩) (fun e => absurd h.lt (Nat.lt_asymm e)) _, h.lt⟩

theorem strB_w (a p : Nat) (h : a * p ≤ 100000000000) : wrap64 (wrap64 ((wrap64 (wrap64 ((a : Int) * (p : Int)) + 3)).tdiv 4) * 4) = ((strB a p : Nat) : Int) := by
  obtain ⟨m, hm⟩ : ∃ m, m = a * p := ⟨_, rfl⟩
  have e : (a : Int) * (p : Int) = (m : Int) := by rw [hm]; simp
  unfold strB
  rw [← hm] at h ⊢
  rw [e, IntWalk.wrap64_in (m : Int) (by omega), IntWalk.wrap64_in ((m : Int) + 3) (by omega), Int.tdiv_eq_ediv_of_nonneg (by omega), IntWalk.wrap64_in (((m : Int) + 3) / 4) (by omega), IntWalk.wrap64_in _ (by omega)]
  omega

set_option maxHeartbeats 12800000 in
theorem qBmpGo_any (b o c n x10 x14 x18 x22 x26 x28 x30 : Nat) (w : World) (hn : n ≤ 1000000000) (h54 : 54 ≤ n) (hb : b < w.heap.size)
    (hc : w.cell? ⟨b, o, none⟩ = some (.int .u8 66)) (hc1 : w.cell? ⟨b, o + 1, none⟩ = some (.int .u8 77))
    (b10 : x10 < 4294967296) (b18 : x18 < 4294967296) (b22 : x22 < 4294967296)
    (L10 : Hid (∀ V, Fresh w V → Calls Try.prog 35 #[.slice (some ⟨b, o, none⟩) n c, .int .i64 10, .int .i64 4] V fun e w' => e = .returned (.int .i64 x10) ∧ Fresh V w'))
    (L14 : Hid (∀ V, Fresh w V → Calls Try.prog 35 #[.slice (some ⟨b, o, none⟩) n c, .int .i64 14, .int .i64 4] V fun e w' => e = .returned (.int .i64 x14) ∧ Fresh V w'))
    (L18 : Hid (∀ V, Fresh w V → Calls Try.prog 35 #[.slice (some ⟨b, o, none⟩) n c, .int .i64 18, .int .i64 4] V fun e w' => e = .returned (.int .i64 x18) ∧ Fresh V w'))
    (L22 : Hid (∀ V, Fresh w V → Calls Try.prog 35 #[.slice (some ⟨b, o, none⟩) n c, .int .i64 22, .int .i64 4] V fun e w' => e = .returned (.int .i64 x22) ∧ Fresh V w'))
    (L26 : Hid (∀ V, Fresh w V → Calls Try.prog 35 #[.slice (some ⟨b, o, none⟩) n c, .int .i64 26, .int .i64 2] V fun e w' => e = .returned (.int .i64 x26) ∧ Fresh V w'))
    (L28 : Hid (∀ V, Fresh w V → Calls Try.prog 35 #[.slice (some ⟨b, o, none⟩) n c, .int .i64 28, .int .i64 2] V fun e w' => e = .returned (.int .i64 x28) ∧ Fresh V w'))
    (L30 : Hid (∀ V, Fresh w V → Calls Try.prog 35 #[.slice (some ⟨b, o, none⟩) n c, .int .i64 30, .int .i64 4] V fun e w' => e = .returned (.int .i64 x30) ∧ Fresh V w')) :
    Calls Try.prog 20 #[.slice (some ⟨b, o, none⟩) n c] w fun e w' => e = .returned (.tuple #[pval (bmpQ x10 x14 x18 x22 x26 x28 x30 n), .bool (bmpQ x10 x14 x18 x22 x26 x28 x30 n).isSome]) ∧ Fresh w w' := by
  have l0 : ¬ (n : Int) < 54 := by omega
  have i0 : (0 : Int) < (n : Int) := by omega
  have i1 : (1 : Int) < (n : Int) := by omega
  obtain ⟨s, hs⟩ : ∃ s, s = sg4 x22 := ⟨_, rfl⟩
  have u1 : IntKind.u32.wrap (x22 : Int) = (x22 : Int) := sg4_u b22
  have u2 : IntKind.i32.wrap (x22 : Int) = s := by rw [hs]; exact sg4_i b22
  obtain ⟨R, hR⟩ : ∃ R, R = bmpQ x10 x14 x18 x22 x26 x28 x30 n := ⟨_, rfl⟩
  rw [← hR]
  have U3 : Hid (max s (-s) = (amt4 x22 : Nat) ∧ amt4 x22 ≤ 2147483648) := Lib.hid (by rw [hs]; exact ⟨sg4_max b22, amt4_le b22⟩)
  have U4 : Hid (-2147483648 ≤ s ∧ s < 2147483648) := Lib.hid (by rw [hs]; exact sg4_in b22)
  have u4 := U4.out
  obtain ⟨ah, hah⟩ : ∃ ah, ah = amt4 x22 := ⟨_, rfl⟩
  rw [← hah] at U3
  have HR : Hid (R = if okB x10 x14 x26 x28 x30 then bmpR x18 ah (plnB x28) x10 n else none) := Lib.hid (by rw [hR, hah]; rfl)
  have HB := Lib.hid (And.intro b10 (And.intro b18 hn))
  clear hR hah hs hn h54
  go_enter Try.func20, Try.ntmps20
  go_wp2_with fail
  obtain ⟨W0, hW0⟩ : ∃ W0, W0 = w.alloc (.cells #[.int .i64 0, .int .i64 0, .int .i64 0, .int .i64 0, .int .i64 0] 28) := ⟨_, rfl⟩
  have hr0 : Blk W0 w.heap.size 28 #[.int .i64 0, .int .i64 0, .int .i64 0, .int .i64 0, .int .i64 0] := by rw [hW0]; exact Blk.new _ _ _
  have hf0 : Fresh w W0 := by rw [hW0]; exact (Kept.refl _ _).alloc _
  rw [← hW0]
  refine (L10.out _ hf0).mono ?_
  rintro e w1 ⟨rfl, hf1⟩
  have hr1 := hr0.kept hf1 id
  have hf01 := hf0.trans hf1 fun _ _ e => e
  clear hf0 hf1 hr0 hW0 L10
  go_wp2_with fail
  refine (L18.out _ hf01).mono ?_
  rintro e w2 ⟨rfl, hf2⟩
  have hr2 := hr1.kept hf2 id
  have hf02 := hf01.trans hf2 fun _ _ e => e
  clear hf01 hf2 hr1 L18
  go_wp2_with fail
  refine (L22.out _ hf02).mono ?_
  rintro e w3 ⟨rfl, hf3⟩
  have hr3 := hr2.kept hf3 id
  have hf03 := hf02.trans hf3 fun _ _ e => e
  clear hf02 hf3 hr2 L22
  have H4 := Lib.hid (bms1 hr3 hf03 x18 ah x10 (max s (-s)) U3.out.1)
  clear hr3 hf03
  go_wp2_with fail
  refine (L28.out _ H4.out.fr).mono ?_
  generalize w3.alloc (.cells #[.int .i64 x18, .int .i64 (max s (-s)), .int .i64 3, .int .i64 0, .int .i64 x10] 28) = W4 at *
  generalize w3.heap.size = q at *
  rintro e w5 ⟨rfl, hf5⟩
  have H5 := Lib.hid (H4.out.fresh hf5)
  clear hf5 H4 L28 u1 u2 u4 U4
  by_cases d8 : x28 = 8
  · have d8' : ((x28 : Int) == 8) = true := by simp; omega
    have d24 : ((x28 : Int) != 24) = true := by simp; omega
    have d8n : ((x28 : Int) != 8) = false := by simp; omega
    have c2 : w5.cell? ⟨q, 2, none⟩ = some (.int .i64 3) := (H5.out.pic.cell 2).trans rfl
    have c2f : w5.frozen? ⟨q, 2, none⟩ = false := H5.out.pic.frozen 2
    have HP := Lib.hid (H5.out.planes 1)
    have qn : w.heap.size ≠ q := Nat.ne_of_lt H5.out.lt
    have qn2 : q ≠ w.heap.size := fun e => qn e.symm
    have pc0 : w5.cell? ⟨q, 0, none⟩ = some (.int .i64 x18) := (H5.out.pic.cell 0).trans rfl
    have pcf0 : w5.frozen? ⟨q, 0, none⟩ = false := H5.out.pic.frozen 0
    have pc1 : w5.cell? ⟨q, 1, none⟩ = some (.int .i64 ah) := (H5.out.pic.cell 1).trans rfl
    have pcf1 : w5.frozen? ⟨q, 1, none⟩ = false := H5.out.pic.frozen 1
    have pc2 : w5.cell? ⟨q, 2, none⟩ = some (.int .i64 3) := (H5.out.pic.cell 2).trans rfl
    have pcf2 : w5.frozen? ⟨q, 2, none⟩ = false := H5.out.pic.frozen 2
    have pc3 : w5.cell? ⟨q, 3, none⟩ = some (.int .i64 0) := (H5.out.pic.cell 3).trans rfl
    have pcf3 : w5.frozen? ⟨q, 3, none⟩ = false := H5.out.pic.frozen 3
    have pc4 : w5.cell? ⟨q, 4, none⟩ = some (.int .i64 x10) := (H5.out.pic.cell 4).trans rfl
    have pcf4 : w5.frozen? ⟨q, 4, none⟩ = false := H5.out.pic.frozen 4
    by_cases g1 : 54 ≤ x10
    · have g1' : ¬ (x10 : Int) < 54 := by omega
      go_wp2_with fail
      refine (L14.out _ HP.out.fr).mono ?_
      rintro e w6 ⟨rfl, hf⟩
      have H6 := Lib.hid (HP.out.fresh hf)
      clear hf
      by_cases g2 : 40 ≤ x14
      · have g2' : ¬ (x14 : Int) < 40 := by omega
        go_wp2_with fail
        refine (L26.out _ H6.out.fr).mono ?_
        rintro e w7 ⟨rfl, hf⟩
        have H7 := Lib.hid (H6.out.fresh hf)
        clear hf
        by_cases g3 : x26 = 1
        · have g3' : ((x26 : Int) != 1) = false := by simp; omega
          go_wp2_with fail
          refine (L30.out _ H7.out.fr).mono ?_
          rintro e w8 ⟨rfl, hf⟩
          have H8 := Lib.hid (H7.out.fresh hf)
          clear hf
          by_cases g4 : x30 = 0
          · have g4' : ((x30 : Int) != 0) = false := by simp; omega
            have HQ0 : Hid (R = bmpR x18 ah 1 x10 n) := Lib.hid (by rw [HR.out, if_pos ⟨g1, g2, g3, by omega, g4⟩, show plnB x28 = 1 from by rw [show x28 = 8 from by omega]; rfl])
            obtain ⟨pl, hpl⟩ : ∃ pl : Nat, pl = 1 := ⟨_, rfl⟩
            obtain ⟨st, hst⟩ : ∃ st, st = strB x18 pl := ⟨_, rfl⟩
            have HW := Lib.hid (strB_w x18 pl (by rw [hpl]; have := HB.out.2.1; omega))
            rw [← hst] at HW
            have Hst : Hid (st = strB x18 1 ∧ st ≤ 100000000000) := Lib.hid ⟨by rw [hst, hpl], by rw [hst, hpl]; have := HB.out.2.1; unfold strB; omega⟩
            have pd0 : w8.cell? ⟨q, 0, none⟩ = some (.int .i64 x18) := (H8.out.pic.cell 0).trans rfl
            have pdf0 : w8.frozen? ⟨q, 0, none⟩ = false := H8.out.pic.frozen 0
            have pd1 : w8.cell? ⟨q, 1, none⟩ = some (.int .i64 ah) := (H8.out.pic.cell 1).trans rfl
            have pdf1 : w8.frozen? ⟨q, 1, none⟩ = false := H8.out.pic.frozen 1
            have pd2 : w8.cell? ⟨q, 2, none⟩ = some (.int .i64 (pl : Nat)) := by rw [hpl]; exact (H8.out.pic.cell 2).trans rfl
            have pdf2 : w8.frozen? ⟨q, 2, none⟩ = false := H8.out.pic.frozen 2
            have pd3 : w8.cell? ⟨q, 3, none⟩ = some (.int .i64 0) := (H8.out.pic.cell 3).trans rfl
            have pdf3 : w8.frozen? ⟨q, 3, none⟩ = false := H8.out.pic.frozen 3
            have pd4 : w8.cell? ⟨q, 4, none⟩ = some (.int .i64 x10) := (H8.out.pic.cell 4).trans rfl
            have pdf4 : w8.frozen? ⟨q, 4, none⟩ = false := H8.out.pic.frozen 4
            have H9 : Hid (BmS w q x18 ah pl st x10 (w8.setCell ⟨q, 3, none⟩ (.int .i64 (st : Int)))) := Lib.hid (by rw [hpl]; exact H8.out.stride st (st : Int) rfl)
            have HFt := Lib.hid (qFits_any x18 ah pl st x10 n (w8.setCell ⟨q, 3, none⟩ (.int .i64 (st : Int))) (by have := Hst.out.2; omega) (by have := HB.out.1; omega) (by have := HB.out.2.2; omega))
            have Hpl := Lib.hid hpl
            clear hst g1 g2 g3 g4 hpl
            go_wp2_with fail
            rw [HW.out]
            refine HFt.out.mono ?_
            generalize w8.setCell ⟨q, 3, none⟩ (.int .i64 (st : Int)) = W9 at *
            rintro e wa ⟨rfl, hfa⟩
            have HA := Lib.hid (H9.out.fresh hfa)
            clear hfa HFt
            by_cases hfit : fitP x18 ah st x10 n
            · rw [decide_eq_true hfit]
              have HQ : Hid (R = some (x18, ah, pl, st, x10)) := Lib.hid (by rw [HQ0.out]; unfold bmpR; rw [← Hst.out.1, if_pos hfit, Hpl.out])
              have pe0 : wa.cell? ⟨q, 0, none⟩ = some (.int .i64 x18) := (HA.out.pic.cell 0).trans rfl
              have pef0 : wa.frozen? ⟨q, 0, none⟩ = false := HA.out.pic.frozen 0
              have pe1 : wa.cell? ⟨q, 1, none⟩ = some (.int .i64 ah) := (HA.out.pic.cell 1).trans rfl
              have pef1 : wa.frozen? ⟨q, 1, none⟩ = false := HA.out.pic.frozen 1
              have pe2 : wa.cell? ⟨q, 2, none⟩ = some (.int .i64 (pl : Nat)) := (HA.out.pic.cell 2).trans rfl
              have pef2 : wa.frozen? ⟨q, 2, none⟩ = false := HA.out.pic.frozen 2
              have pe3 : wa.cell? ⟨q, 3, none⟩ = some (.int .i64 st) := (HA.out.pic.cell 3).trans rfl
              have pef3 : wa.frozen? ⟨q, 3, none⟩ = false := HA.out.pic.frozen 3
              have pe4 : wa.cell? ⟨q, 4, none⟩ = some (.int .i64 x10) := (HA.out.pic.cell 4).trans rfl
              have pef4 : wa.frozen? ⟨q, 4, none⟩ = false := HA.out.pic.frozen 4
              have rz0 : wa.cell? ⟨w.heap.size, 0, none⟩ = some (.int .i64 0) := (HA.out.res.cell 0).trans rfl
              have rzf0 : wa.frozen? ⟨w.heap.size, 0, none⟩ = false := HA.out.res.frozen 0
              have rz1 : wa.cell? ⟨w.heap.size, 1, none⟩ = some (.int .i64 0) := (HA.out.res.cell 1).trans rfl
              have rzf1 : wa.frozen? ⟨w.heap.size, 1, none⟩ = false := HA.out.res.frozen 1
              have rz2 : wa.cell? ⟨w.heap.size, 2, none⟩ = some (.int .i64 0) := (HA.out.res.cell 2).trans rfl
              have rzf2 : wa.frozen? ⟨w.heap.size, 2, none⟩ = false := HA.out.res.frozen 2
              have rz3 : wa.cell? ⟨w.heap.size, 3, none⟩ = some (.int .i64 0) := (HA.out.res.cell 3).trans rfl
              have rzf3 : wa.frozen? ⟨w.heap.size, 3, none⟩ = false := HA.out.res.frozen 3
              have rz4 : wa.cell? ⟨w.heap.size, 4, none⟩ = some (.int .i64 0) := (HA.out.res.cell 4).trans rfl
              have rzf4 : wa.frozen? ⟨w.heap.size, 4, none⟩ = false := HA.out.res.frozen 4
              clear hfit
              go_wp2_with fail
              refine bodyPost_ret (v := .tuple #[pval (some (x18, ah, pl, st, x10)), .bool true]) (by simp [results, Try.f20, go_sem, pval, rz0, rz1, rz2, rz3, rz4]) rfl ?_
              exact ⟨by rw [HQ.out]; rfl, set5 HA.out.fr _ _ _ _ _⟩
            · rw [decide_eq_false hfit]
              have HQ : Hid (R = none) := Lib.hid (by rw [HQ0.out]; unfold bmpR; rw [← Hst.out.1, if_neg hfit])
              clear hfit
              have rz0 : wa.cell? ⟨w.heap.size, 0, none⟩ = some (.int .i64 0) := (HA.out.res.cell 0).trans rfl
              have rzf0 : wa.frozen? ⟨w.heap.size, 0, none⟩ = false := HA.out.res.frozen 0
              have rz1 : wa.cell? ⟨w.heap.size, 1, none⟩ = some (.int .i64 0) := (HA.out.res.cell 1).trans rfl
              have rzf1 : wa.frozen? ⟨w.heap.size, 1, none⟩ = false := HA.out.res.frozen 1
              have rz2 : wa.cell? ⟨w.heap.size, 2, none⟩ = some (.int .i64 0) := (HA.out.res.cell 2).trans rfl
              have rzf2 : wa.frozen? ⟨w.heap.size, 2, none⟩ = false := HA.out.res.frozen 2
              have rz3 : wa.cell? ⟨w.heap.size, 3, none⟩ = some (.int .i64 0) := (HA.out.res.cell 3).trans rfl
              have rzf3 : wa.frozen? ⟨w.heap.size, 3, none⟩ = false := HA.out.res.frozen 3
              have rz4 : wa.cell? ⟨w.heap.size, 4, none⟩ = some (.int .i64 0) := (HA.out.res.cell 4).trans rfl
              have rzf4 : wa.frozen? ⟨w.heap.size, 4, none⟩ = false := HA.out.res.frozen 4
              go_wp2_with fail
              refine bodyPost_ret (v := .tuple #[pval none, .bool false]) (by simp [results, Try.f20, go_sem, pval, rz0, rz1, rz2, rz3, rz4]) rfl ?_
              exact ⟨by rw [HQ.out]; rfl, set5 HA.out.fr _ _ _ _ _⟩
          · have g4' : ((x30 : Int) != 0) = true := by simp; omega
            have HQ : Hid (R = none) := Lib.hid (by rw [HR.out, if_neg (fun h => g4 h.2.2.2.2)])
            have rz0 : w8.cell? ⟨w.heap.size, 0, none⟩ = some (.int .i64 0) := (H8.out.res.cell 0).trans rfl
            have rzf0 : w8.frozen? ⟨w.heap.size, 0, none⟩ = false := H8.out.res.frozen 0
            have rz1 : w8.cell? ⟨w.heap.size, 1, none⟩ = some (.int .i64 0) := (H8.out.res.cell 1).trans rfl
            have rzf1 : w8.frozen? ⟨w.heap.size, 1, none⟩ = false := H8.out.res.frozen 1
            have rz2 : w8.cell? ⟨w.heap.size, 2, none⟩ = some (.int .i64 0) := (H8.out.res.cell 2).trans rfl
            have rzf2 : w8.frozen? ⟨w.heap.size, 2, none⟩ = false := H8.out.res.frozen 2
            have rz3 : w8.cell? ⟨w.heap.size, 3, none⟩ = some (.int .i64 0) := (H8.out.res.cell 3).trans rfl
            have rzf3 : w8.frozen? ⟨w.heap.size, 3, none⟩ = false := H8.out.res.frozen 3
            have rz4 : w8.cell? ⟨w.heap.size, 4, none⟩ = some (.int .i64 0) := (H8.out.res.cell 4).trans rfl
            have rzf4 : w8.frozen? ⟨w.heap.size, 4, none⟩ = false := H8.out.res.frozen 4
            go_wp2_with fail
            refine bodyPost_ret (v := .tuple #[pval none, .bool false]) (by simp [results, Try.f20, go_sem, pval, rz0, rz1, rz2, rz3, rz4]) rfl ?_
            exact ⟨by rw [HQ.out]; rfl, set5 H8.out.fr _ _ _ _ _⟩
        · have g3' : ((x26 : Int) != 1) = true := by simp; omega
          have HQ : Hid (R = none) := Lib.hid (by rw [HR.out, if_neg (fun h => g3 h.2.2.1)])
          have rz0 : w7.cell? ⟨w.heap.size, 0, none⟩ = some (.int .i64 0) := (H7.out.res.cell 0).trans rfl
          have rzf0 : w7.frozen? ⟨w.heap.size, 0, none⟩ = false := H7.out.res.frozen 0
          have rz1 : w7.cell? ⟨w.heap.size, 1, none⟩ = some (.int .i64 0) := (H7.out.res.cell 1).trans rfl
          have rzf1 : w7.frozen? ⟨w.heap.size, 1, none⟩ = false := H7.out.res.frozen 1
          have rz2 : w7.cell? ⟨w.heap.size, 2, none⟩ = some (.int .i64 0) := (H7.out.res.cell 2).trans rfl
          have rzf2 : w7.frozen? ⟨w.heap.size, 2, none⟩ = false := H7.out.res.frozen 2
          have rz3 : w7.cell? ⟨w.heap.size, 3, none⟩ = some (.int .i64 0) := (H7.out.res.cell 3).trans rfl
          have rzf3 : w7.frozen? ⟨w.heap.size, 3, none⟩ = false := H7.out.res.frozen 3
          have rz4 : w7.cell? ⟨w.heap.size, 4, none⟩ = some (.int .i64 0) := (H7.out.res.cell 4).trans rfl
          have rzf4 : w7.frozen? ⟨w.heap.size, 4, none⟩ = false := H7.out.res.frozen 4
          go_wp2_with fail
          refine bodyPost_ret (v := .tuple #[pval none, .bool false]) (by simp [results, Try.f20, go_sem, pval, rz0, rz1, rz2, rz3, rz4]) rfl ?_
          exact ⟨by rw [HQ.out]; rfl, set5 H7.out.fr _ _ _ _ _⟩
      · have g2' : (x14 : Int) < 40 := by omega
        have HQ : Hid (R = none) := Lib.hid (by rw [HR.out, if_neg (fun h => g2 h.2.1)])
        have rz0 : w6.cell? ⟨w.heap.size, 0, none⟩ = some (.int .i64 0) := (H6.out.res.cell 0).trans rfl
        have rzf0 : w6.frozen? ⟨w.heap.size, 0, none⟩ = false := H6.out.res.frozen 0
        have rz1 : w6.cell? ⟨w.heap.size, 1, none⟩ = some (.int .i64 0) := (H6.out.res.cell 1).trans rfl
        have rzf1 : w6.frozen? ⟨w.heap.size, 1, none⟩ = false := H6.out.res.frozen 1
        have rz2 : w6.cell? ⟨w.heap.size, 2, none⟩ = some (.int .i64 0) := (H6.out.res.cell 2).trans rfl
        have rzf2 : w6.frozen? ⟨w.heap.size, 2, none⟩ = false := H6.out.res.frozen 2
        have rz3 : w6.cell? ⟨w.heap.size, 3, none⟩ = some (.int .i64 0) := (H6.out.res.cell 3).trans rfl
        have rzf3 : w6.frozen? ⟨w.heap.size, 3, none⟩ = false := H6.out.res.frozen 3
        have rz4 : w6.cell? ⟨w.heap.size, 4, none⟩ = some (.int .i64 0) := (H6.out.res.cell 4).trans rfl
        have rzf4 : w6.frozen? ⟨w.heap.size, 4, none⟩ = false := H6.out.res.frozen 4
        go_wp2_with fail
        refine bodyPost_ret (v := .tuple #[pval none, .bool false]) (by simp [results, Try.f20, go_sem, pval, rz0, rz1, rz2, rz3, rz4]) rfl ?_
        exact ⟨by rw [HQ.out]; rfl, set5 H6.out.fr _ _ _ _ _⟩
    · have g1' : (x10 : Int) < 54 := by omega
      have HQ : Hid (R = none) := Lib.hid (by rw [HR.out, if_neg (fun h => g1 h.1)])
      have rz0 : w5.cell? ⟨w.heap.size, 0, none⟩ = some (.int .i64 0) := (H5.out.res.cell 0).trans rfl
      have rzf0 : w5.frozen? ⟨w.heap.size, 0, none⟩ = false := H5.out.res.frozen 0
      have rz1 : w5.cell? ⟨w.heap.size, 1, none⟩ = some (.int .i64 0) := (H5.out.res.cell 1).trans rfl
      have rzf1 : w5.frozen? ⟨w.heap.size, 1, none⟩ = false := H5.out.res.frozen 1
      have rz2 : w5.cell? ⟨w.heap.size, 2, none⟩ = some (.int .i64 0) := (H5.out.res.cell 2).trans rfl
      have rzf2 : w5.frozen? ⟨w.heap.size, 2, none⟩ = false := H5.out.res.frozen 2
      have rz3 : w5.cell? ⟨w.heap.size, 3, none⟩ = some (.int .i64 0) := (H5.out.res.cell 3).trans rfl
      have rzf3 : w5.frozen? ⟨w.heap.size, 3, none⟩ = false := H5.out.res.frozen 3
      have rz4 : w5.cell? ⟨w.heap.size, 4, none⟩ = some (.int .i64 0) := (H5.out.res.cell 4).trans rfl
      have rzf4 : w5.frozen? ⟨w.heap.size, 4, none⟩ = false := H5.out.res.frozen 4
      go_wp2_with fail
      refine bodyPost_ret (v := .tuple #[pval none, .bool false]) (by simp [results, Try.f20, go_sem, pval, rz0, rz1, rz2, rz3, rz4]) rfl ?_
      exact ⟨by rw [HQ.out]; rfl, set5 HP.out.fr _ _ _ _ _⟩
  · have d8' : ((x28 : Int) == 8) = false := by simp; omega
    have d8n : ((x28 : Int) != 8) = true := by simp; omega
    by_cases e24 : x28 = 24
    · have d24 : ((x28 : Int) != 24) = false := by simp; omega
      have pc0 : w5.cell? ⟨q, 0, none⟩ = some (.int .i64 x18) := (H5.out.pic.cell 0).trans rfl
      have pcf0 : w5.frozen? ⟨q, 0, none⟩ = false := H5.out.pic.frozen 0
      have pc1 : w5.cell? ⟨q, 1, none⟩ = some (.int .i64 ah) := (H5.out.pic.cell 1).trans rfl
      have pcf1 : w5.frozen? ⟨q, 1, none⟩ = false := H5.out.pic.frozen 1
      have pc2 : w5.cell? ⟨q, 2, none⟩ = some (.int .i64 3) := (H5.out.pic.cell 2).trans rfl
      have pcf2 : w5.frozen? ⟨q, 2, none⟩ = false := H5.out.pic.frozen 2
      have pc3 : w5.cell? ⟨q, 3, none⟩ = some (.int .i64 0) := (H5.out.pic.cell 3).trans rfl
      have pcf3 : w5.frozen? ⟨q, 3, none⟩ = false := H5.out.pic.frozen 3
      have pc4 : w5.cell? ⟨q, 4, none⟩ = some (.int .i64 x10) := (H5.out.pic.cell 4).trans rfl
      have pcf4 : w5.frozen? ⟨q, 4, none⟩ = false := H5.out.pic.frozen 4
      by_cases g1 : 54 ≤ x10
      · have g1' : ¬ (x10 : Int) < 54 := by omega
        go_wp2_with fail
        refine (L14.out _ H5.out.fr).mono ?_
        rintro e w6 ⟨rfl, hf⟩
        have H6 := Lib.hid (H5.out.fresh hf)
        clear hf
        by_cases g2 : 40 ≤ x14
        · have g2' : ¬ (x14 : Int) < 40 := by omega
          go_wp2_with fail
          refine (L26.out _ H6.out.fr).mono ?_
          rintro e w7 ⟨rfl, hf⟩
          have H7 := Lib.hid (H6.out.fresh hf)
          clear hf
          by_cases g3 : x26 = 1
          · have g3' : ((x26 : Int) != 1) = false := by simp; omega
            go_wp2_with fail
            refine (L30.out _ H7.out.fr).mono ?_
            rintro e w8 ⟨rfl, hf⟩
            have H8 := Lib.hid (H7.out.fresh hf)
            clear hf
            by_cases g4 : x30 = 0
            · have g4' : ((x30 : Int) != 0) = false := by simp; omega
              have HQ0 : Hid (R = bmpR x18 ah 3 x10 n) := Lib.hid (by rw [HR.out, if_pos ⟨g1, g2, g3, by omega, g4⟩, show plnB x28 = 3 from by rw [show x28 = 24 from by omega]; rfl])
              obtain ⟨pl, hpl⟩ : ∃ pl : Nat, pl = 3 := ⟨_, rfl⟩
              obtain ⟨st, hst⟩ : ∃ st, st = strB x18 pl := ⟨_, rfl⟩
              have HW := Lib.hid (strB_w x18 pl (by rw [hpl]; have := HB.out.2.1; omega))
              rw [← hst] at HW
              have Hst : Hid (st = strB x18 3 ∧ st ≤ 100000000000) := Lib.hid ⟨by rw [hst, hpl], by rw [hst, hpl]; have := HB.out.2.1; unfold strB; omega⟩
              have pd0 : w8.cell? ⟨q, 0, none⟩ = some (.int .i64 x18) := (H8.out.pic.cell 0).trans rfl
              have pdf0 : w8.frozen? ⟨q, 0, none⟩ = false := H8.out.pic.frozen 0
              have pd1 : w8.cell? ⟨q, 1, none⟩ = some (.int .i64 ah) := (H8.out.pic.cell 1).trans rfl
              have pdf1 : w8.frozen? ⟨q, 1, none⟩ = false := H8.out.pic.frozen 1
              have pd2 : w8.cell? ⟨q, 2, none⟩ = some (.int .i64 (pl : Nat)) := by rw [hpl]; exact (H8.out.pic.cell 2).trans rfl
              have pdf2 : w8.frozen? ⟨q, 2, none⟩ = false := H8.out.pic.frozen 2
              have pd3 : w8.cell? ⟨q, 3, none⟩ = some (.int .i64 0) := (H8.out.pic.cell 3).trans rfl
              have pdf3 : w8.frozen? ⟨q, 3, none⟩ = false := H8.out.pic.frozen 3
              have pd4 : w8.cell? ⟨q, 4, none⟩ = some (.int .i64 x10) := (H8.out.pic.cell 4).trans rfl
              have pdf4 : w8.frozen? ⟨q, 4, none⟩ = false := H8.out.pic.frozen 4
              have H9 : Hid (BmS w q x18 ah pl st x10 (w8.setCell ⟨q, 3, none⟩ (.int .i64 (st : Int)))) := Lib.hid (by rw [hpl]; exact H8.out.stride st (st : Int) rfl)
              have HFt := Lib.hid (qFits_any x18 ah pl st x10 n (w8.setCell ⟨q, 3, none⟩ (.int .i64 (st : Int))) (by have := Hst.out.2; omega) (by have := HB.out.1; omega) (by have := HB.out.2.2; omega))
              have Hpl := Lib.hid hpl
              clear hst g1 g2 g3 g4 hpl
              go_wp2_with fail
              rw [HW.out]
              refine HFt.out.mono ?_
              generalize w8.setCell ⟨q, 3, none⟩ (.int .i64 (st : Int)) = W9 at *
              rintro e wa ⟨rfl, hfa⟩
              have HA := Lib.hid (H9.out.fresh hfa)
              clear hfa HFt
              by_cases hfit : fitP x18 ah st x10 n
              · rw [decide_eq_true hfit]
                have HQ : Hid (R = some (x18, ah, pl, st, x10)) := Lib.hid (by rw [HQ0.out]; unfold bmpR; rw [← Hst.out.1, if_pos hfit, Hpl.out])
                have pe0 : wa.cell? ⟨q, 0, none⟩ = some (.int .i64 x18) := (HA.out.pic.cell 0).trans rfl
                have pef0 : wa.frozen? ⟨q, 0, none⟩ = false := HA.out.pic.frozen 0
                have pe1 : wa.cell? ⟨q, 1, none⟩ = some (.int .i64 ah) := (HA.out.pic.cell 1).trans rfl
                have pef1 : wa.frozen? ⟨q, 1, none⟩ = false := HA.out.pic.frozen 1
                have pe2 : wa.cell? ⟨q, 2, none⟩ = some (.int .i64 (pl : Nat)) := (HA.out.pic.cell 2).trans rfl
                have pef2 : wa.frozen? ⟨q, 2, none⟩ = false := HA.out.pic.frozen 2
                have pe3 : wa.cell? ⟨q, 3, none⟩ = some (.int .i64 st) := (HA.out.pic.cell 3).trans rfl
                have pef3 : wa.frozen? ⟨q, 3, none⟩ = false := HA.out.pic.frozen 3
                have pe4 : wa.cell? ⟨q, 4, none⟩ = some (.int .i64 x10) := (HA.out.pic.cell 4).trans rfl
                have pef4 : wa.frozen? ⟨q, 4, none⟩ = false := HA.out.pic.frozen 4
                have rz0 : wa.cell? ⟨w.heap.size, 0, none⟩ = some (.int .i64 0) := (HA.out.res.cell 0).trans rfl
                have rzf0 : wa.frozen? ⟨w.heap.size, 0, none⟩ = false := HA.out.res.frozen 0
                have rz1 : wa.cell? ⟨w.heap.size, 1, none⟩ = some (.int .i64 0) := (HA.out.res.cell 1).trans rfl
                have rzf1 : wa.frozen? ⟨w.heap.size, 1, none⟩ = false := HA.out.res.frozen 1
                have rz2 : wa.cell? ⟨w.heap.size, 2, none⟩ = some (.int .i64 0) := (HA.out.res.cell 2).trans rfl
                have rzf2 : wa.frozen? ⟨w.heap.size, 2, none⟩ = false := HA.out.res.frozen 2
                have rz3 : wa.cell? ⟨w.heap.size, 3, none⟩ = some (.int .i64 0) := (HA.out.res.cell 3).trans rfl
                have rzf3 : wa.frozen? ⟨w.heap.size, 3, none⟩ = false := HA.out.res.frozen 3
                have rz4 : wa.cell? ⟨w.heap.size, 4, none⟩ = some (.int .i64 0) := (HA.out.res.cell 4).trans rfl
                have rzf4 : wa.frozen? ⟨w.heap.size, 4, none⟩ = false := HA.out.res.frozen 4
                clear hfit
                go_wp2_with fail
                refine bodyPost_ret (v := .tuple #[pval (some (x18, ah, pl, st, x10)), .bool true]) (by simp [results, Try.f20, go_sem, pval, rz0, rz1, rz2, rz3, rz4]) rfl ?_
                exact ⟨by rw [HQ.out]; rfl, set5 HA.out.fr _ _ _ _ _⟩
              · rw [decide_eq_false hfit]
                have HQ : Hid (R = none) := Lib.hid (by rw [HQ0.out]; unfold bmpR; rw [← Hst.out.1, if_neg hfit])
                clear hfit
                have rz0 : wa.cell? ⟨w.heap.size, 0, none⟩ = some (.int .i64 0) := (HA.out.res.cell 0).trans rfl
                have rzf0 : wa.frozen? ⟨w.heap.size, 0, none⟩ = false := HA.out.res.frozen 0
                have rz1 : wa.cell? ⟨w.heap.size, 1, none⟩ = some (.int .i64 0) := (HA.out.res.cell 1).trans rfl
                have rzf1 : wa.frozen? ⟨w.heap.size, 1, none⟩ = false := HA.out.res.frozen 1
                have rz2 : wa.cell? ⟨w.heap.size, 2, none⟩ = some (.int .i64 0) := (HA.out.res.cell 2).trans rfl
                have rzf2 : wa.frozen? ⟨w.heap.size, 2, none⟩ = false := HA.out.res.frozen 2
                have rz3 : wa.cell? ⟨w.heap.size, 3, none⟩ = some (.int .i64 0) := (HA.out.res.cell 3).trans rfl
                have rzf3 : wa.frozen? ⟨w.heap.size, 3, none⟩ = false := HA.out.res.frozen 3
                have rz4 : wa.cell? ⟨w.heap.size, 4, none⟩ = some (.int .i64 0) := (HA.out.res.cell 4).trans rfl
                have rzf4 : wa.frozen? ⟨w.heap.size, 4, none⟩ = false := HA.out.res.frozen 4
                go_wp2_with fail
                refine bodyPost_ret (v := .tuple #[pval none, .bool false]) (by simp [results, Try.f20, go_sem, pval, rz0, rz1, rz2, rz3, rz4]) rfl ?_
                exact ⟨by rw [HQ.out]; rfl, set5 HA.out.fr _ _ _ _ _⟩
            · have g4' : ((x30 : Int) != 0) = true := by simp; omega
              have HQ : Hid (R = none) := Lib.hid (by rw [HR.out, if_neg (fun h => g4 h.2.2.2.2)])
              have rz0 : w8.cell? ⟨w.heap.size, 0, none⟩ = some (.int .i64 0) := (H8.out.res.cell 0).trans rfl
              have rzf0 : w8.frozen? ⟨w.heap.size, 0, none⟩ = false := H8.out.res.frozen 0
              have rz1 : w8.cell? ⟨w.heap.size, 1, none⟩ = some (.int .i64 0) := (H8.out.res.cell 1).trans rfl
              have rzf1 : w8.frozen? ⟨w.heap.size, 1, none⟩ = false := H8.out.res.frozen 1
              have rz2 : w8.cell? ⟨w.heap.size, 2, none⟩ = some (.int .i64 0) := (H8.out.res.cell 2).trans rfl
              have rzf2 : w8.frozen? ⟨w.heap.size, 2, none⟩ = false := H8.out.res.frozen 2
              have rz3 : w8.cell? ⟨w.heap.size, 3, none⟩ = some (.int .i64 0) := (H8.out.res.cell 3).trans rfl
              have rzf3 : w8.frozen? ⟨w.heap.size, 3, none⟩ = false := H8.out.res.frozen 3
              have rz4 : w8.cell? ⟨w.heap.size, 4, none⟩ = some (.int .i64 0) := (H8.out.res.cell 4).trans rfl
              have rzf4 : w8.frozen? ⟨w.heap.size, 4, none⟩ = false := H8.out.res.frozen 4
              go_wp2_with fail
              refine bodyPost_ret (v := .tuple #[pval none, .bool false]) (by simp [results, Try.f20, go_sem, pval, rz0, rz1, rz2, rz3, rz4]) rfl ?_
              exact ⟨by rw [HQ.out]; rfl, set5 H8.out.fr _ _ _ _ _⟩
          · have g3' : ((x26 : Int) != 1) = true := by simp; omega
            have HQ : Hid (R = none) := Lib.hid (by rw [HR.out, if_neg (fun h => g3 h.2.2.1)])
            have rz0 : w7.cell? ⟨w.heap.size, 0, none⟩ = some (.int .i64 0) := (H7.out.res.cell 0).trans rfl
            have rzf0 : w7.frozen? ⟨w.heap.size, 0, none⟩ = false := H7.out.res.frozen 0
            have rz1 : w7.cell? ⟨w.heap.size, 1, none⟩ = some (.int .i64 0) := (H7.out.res.cell 1).trans rfl
            have rzf1 : w7.frozen? ⟨w.heap.size, 1, none⟩ = false := H7.out.res.frozen 1
            have rz2 : w7.cell? ⟨w.heap.size, 2, none⟩ = some (.int .i64 0) := (H7.out.res.cell 2).trans rfl
            have rzf2 : w7.frozen? ⟨w.heap.size, 2, none⟩ = false := H7.out.res.frozen 2
            have rz3 : w7.cell? ⟨w.heap.size, 3, none⟩ = some (.int .i64 0) := (H7.out.res.cell 3).trans rfl
            have rzf3 : w7.frozen? ⟨w.heap.size, 3, none⟩ = false := H7.out.res.frozen 3
            have rz4 : w7.cell? ⟨w.heap.size, 4, none⟩ = some (.int .i64 0) := (H7.out.res.cell 4).trans rfl
            have rzf4 : w7.frozen? ⟨w.heap.size, 4, none⟩ = false := H7.out.res.frozen 4
            go_wp2_with fail
            refine bodyPost_ret (v := .tuple #[pval none, .bool false]) (by simp [results, Try.f20, go_sem, pval, rz0, rz1, rz2, rz3, rz4]) rfl ?_
            exact ⟨by rw [HQ.out]; rfl, set5 H7.out.fr _ _ _ _ _⟩
        · have g2' : (x14 : Int) < 40 := by omega
          have HQ : Hid (R = none) := Lib.hid (by rw [HR.out, if_neg (fun h => g2 h.2.1)])
          have rz0 : w6.cell? ⟨w.heap.size, 0, none⟩ = some (.int .i64 0) := (H6.out.res.cell 0).trans rfl
          have rzf0 : w6.frozen? ⟨w.heap.size, 0, none⟩ = false := H6.out.res.frozen 0
          have rz1 : w6.cell? ⟨w.heap.size, 1, none⟩ = some (.int .i64 0) := (H6.out.res.cell 1).trans rfl
          have rzf1 : w6.frozen? ⟨w.heap.size, 1, none⟩ = false := H6.out.res.frozen 1
          have rz2 : w6.cell? ⟨w.heap.size, 2, none⟩ = some (.int .i64 0) := (H6.out.res.cell 2).trans rfl
          have rzf2 : w6.frozen? ⟨w.heap.size, 2, none⟩ = false := H6.out.res.frozen 2
          have rz3 : w6.cell? ⟨w.heap.size, 3, none⟩ = some (.int .i64 0) := (H6.out.res.cell 3).trans rfl
          have rzf3 : w6.frozen? ⟨w.heap.size, 3, none⟩ = false := H6.out.res.frozen 3
          have rz4 : w6.cell? ⟨w.heap.size, 4, none⟩ = some (.int .i64 0) := (H6.out.res.cell 4).trans rfl
          have rzf4 : w6.frozen? ⟨w.heap.size, 4, none⟩ = false := H6.out.res.frozen 4
          go_wp2_with fail
          refine bodyPost_ret (v := .tuple #[pval none, .bool false]) (by simp [results, Try.f20, go_sem, pval, rz0, rz1, rz2, rz3, rz4]) rfl ?_
          exact ⟨by rw [HQ.out]; rfl, set5 H6.out.fr _ _ _ _ _⟩
      · have g1' : (x10 : Int) < 54 := by omega
        have HQ : Hid (R = none) := Lib.hid (by rw [HR.out, if_neg (fun h => g1 h.1)])
        have rz0 : w5.cell? ⟨w.heap.size, 0, none⟩ = some (.int .i64 0) := (H5.out.res.cell 0).trans rfl
        have rzf0 : w5.frozen? ⟨w.heap.size, 0, none⟩ = false := H5.out.res.frozen 0
        have rz1 : w5.cell? ⟨w.heap.size, 1, none⟩ = some (.int .i64 0) := (H5.out.res.cell 1).trans rfl
        have rzf1 : w5.frozen? ⟨w.heap.size, 1, none⟩ = false := H5.out.res.frozen 1
        have rz2 : w5.cell? ⟨w.heap.size, 2, none⟩ = some (.int .i64 0) := (H5.out.res.cell 2).trans rfl
        have rzf2 : w5.frozen? ⟨w.heap.size, 2, none⟩ = false := H5.out.res.frozen 2
        have rz3 : w5.cell? ⟨w.heap.size, 3, none⟩ = some (.int .i64 0) := (H5.out.res.cell 3).trans rfl
        have rzf3 : w5.frozen? ⟨w.heap.size, 3, none⟩ = false := H5.out.res.frozen 3
        have rz4 : w5.cell? ⟨w.heap.size, 4, none⟩ = some (.int .i64 0) := (H5.out.res.cell 4).trans rfl
        have rzf4 : w5.frozen? ⟨w.heap.size, 4, none⟩ = false := H5.out.res.frozen 4
        go_wp2_with fail
        refine bodyPost_ret (v := .tuple #[pval none, .bool false]) (by simp [results, Try.f20, go_sem, pval, rz0, rz1, rz2, rz3, rz4]) rfl ?_
        exact ⟨by rw [HQ.out]; rfl, set5 H5.out.fr _ _ _ _ _⟩
    · have d24 : ((x28 : Int) != 24) = true := by simp; omega
      have pc0 : w5.cell? ⟨q, 0, none⟩ = some (.int .i64 x18) := (H5.out.pic.cell 0).trans rfl
      have pcf0 : w5.frozen? ⟨q, 0, none⟩ = false := H5.out.pic.frozen 0
      have pc1 : w5.cell? ⟨q, 1, none⟩ = some (.int .i64 ah) := (H5.out.pic.cell 1).trans rfl
      have pcf1 : w5.frozen? ⟨q, 1, none⟩ = false := H5.out.pic.frozen 1
      have pc2 : w5.cell? ⟨q, 2, none⟩ = some (.int .i64 3) := (H5.out.pic.cell 2).trans rfl
      have pcf2 : w5.frozen? ⟨q, 2, none⟩ = false := H5.out.pic.frozen 2
      have pc3 : w5.cell? ⟨q, 3, none⟩ = some (.int .i64 0) := (H5.out.pic.cell 3).trans rfl
      have pcf3 : w5.frozen? ⟨q, 3, none⟩ = false := H5.out.pic.frozen 3
      have pc4 : w5.cell? ⟨q, 4, none⟩ = some (.int .i64 x10) := (H5.out.pic.cell 4).trans rfl
      have pcf4 : w5.frozen? ⟨q, 4, none⟩ = false := H5.out.pic.frozen 4
      by_cases g1 : 54 ≤ x10
      · have g1' : ¬ (x10 : Int) < 54 := by omega
        go_wp2_with fail
        refine (L14.out _ H5.out.fr).mono ?_
        rintro e w6 ⟨rfl, hf⟩
        have H6 := Lib.hid (H5.out.fresh hf)
        clear hf
        by_cases g2 : 40 ≤ x14
        · have g2' : ¬ (x14 : Int) < 40 := by omega
          go_wp2_with fail
          refine (L26.out _ H6.out.fr).mono ?_
          rintro e w7 ⟨rfl, hf⟩
          have H7 := Lib.hid (H6.out.fresh hf)
          clear hf
          by_cases g3 : x26 = 1
          · have g3' : ((x26 : Int) != 1) = false := by simp; omega
            have HQ : Hid (R = none) := Lib.hid (by rw [HR.out, if_neg (fun h => absurd h.2.2.2.1 (by omega))])
            have rz0 : w7.cell? ⟨w.heap.size, 0, none⟩ = some (.int .i64 0) := (H7.out.res.cell 0).trans rfl
            have rzf0 : w7.frozen? ⟨w.heap.size, 0, none⟩ = false := H7.out.res.frozen 0
            have rz1 : w7.cell? ⟨w.heap.size, 1, none⟩ = some (.int .i64 0) := (H7.out.res.cell 1).trans rfl
            have rzf1 : w7.frozen? ⟨w.heap.size, 1, none⟩ = false := H7.out.res.frozen 1
            have rz2 : w7.cell? ⟨w.heap.size, 2, none⟩ = some (.int .i64 0) := (H7.out.res.cell 2).trans rfl
            have rzf2 : w7.frozen? ⟨w.heap.size, 2, none⟩ = false := H7.out.res.frozen 2
            have rz3 : w7.cell? ⟨w.heap.size, 3, none⟩ = some (.int .i64 0) := (H7.out.res.cell 3).trans rfl
            have rzf3 : w7.frozen? ⟨w.heap.size, 3, none⟩ = false := H7.out.res.frozen 3
            have rz4 : w7.cell? ⟨w.heap.size, 4, none⟩ = some (.int .i64 0) := (H7.out.res.cell 4).trans rfl
            have rzf4 : w7.frozen? ⟨w.heap.size, 4, none⟩ = false := H7.out.res.frozen 4
            go_wp2_with fail
            refine bodyPost_ret (v := .tuple #[pval none, .bool false]) (by simp [results, Try.f20, go_sem, pval, rz0, rz1, rz2, rz3, rz4]) rfl ?_
            exact ⟨by rw [HQ.out]; rfl, set5 H7.out.fr _ _ _ _ _⟩
          · have g3' : ((x26 : Int) != 1) = true := by simp; omega
            have HQ : Hid (R = none) := Lib.hid (by rw [HR.out, if_neg (fun h => g3 h.2.2.1)])
            have rz0 : w7.cell? ⟨w.heap.size, 0, none⟩ = some (.int .i64 0) := (H7.out.res.cell 0).trans rfl
            have rzf0 : w7.frozen? ⟨w.heap.size, 0, none⟩ = false := H7.out.res.frozen 0
            have rz1 : w7.cell? ⟨w.heap.size, 1, none⟩ = some (.int .i64 0) := (H7.out.res.cell 1).trans rfl
            have rzf1 : w7.frozen? ⟨w.heap.size, 1, none⟩ = false := H7.out.res.frozen 1
            have rz2 : w7.cell? ⟨w.heap.size, 2, none⟩ = some (.int .i64 0) := (H7.out.res.cell 2).trans rfl
            have rzf2 : w7.frozen? ⟨w.heap.size, 2, none⟩ = false := H7.out.res.frozen 2
            have rz3 : w7.cell? ⟨w.heap.size, 3, none⟩ = some (.int .i64 0) := (H7.out.res.cell 3).trans rfl
            have rzf3 : w7.frozen? ⟨w.heap.size, 3, none⟩ = false := H7.out.res.frozen 3
            have rz4 : w7.cell? ⟨w.heap.size, 4, none⟩ = some (.int .i64 0) := (H7.out.res.cell 4).trans rfl
            have rzf4 : w7.frozen? ⟨w.heap.size, 4, none⟩ = false := H7.out.res.frozen 4
            go_wp2_with fail
            refine bodyPost_ret (v := .tuple #[pval none, .bool false]) (by simp [results, Try.f20, go_sem, pval, rz0, rz1, rz2, rz3, rz4]) rfl ?_
            exact ⟨by rw [HQ.out]; rfl, set5 H7.out.fr _ _ _ _ _⟩
        · have g2' : (x14 : Int) < 40 := by omega
          have HQ : Hid (R = none) := Lib.hid (by rw [HR.out, if_neg (fun h => g2 h.2.1)])
          have rz0 : w6.cell? ⟨w.heap.size, 0, none⟩ = some (.int .i64 0) := (H6.out.res.cell 0).trans rfl
          have rzf0 : w6.frozen? ⟨w.heap.size, 0, none⟩ = false := H6.out.res.frozen 0
          have rz1 : w6.cell? ⟨w.heap.size, 1, none⟩ = some (.int .i64 0) := (H6.out.res.cell 1).trans rfl
          have rzf1 : w6.frozen? ⟨w.heap.size, 1, none⟩ = false := H6.out.res.frozen 1
          have rz2 : w6.cell? ⟨w.heap.size, 2, none⟩ = some (.int .i64 0) := (H6.out.res.cell 2).trans rfl
          have rzf2 : w6.frozen? ⟨w.heap.size, 2, none⟩ = false := H6.out.res.frozen 2
          have rz3 : w6.cell? ⟨w.heap.size, 3, none⟩ = some (.int .i64 0) := (H6.out.res.cell 3).trans rfl
          have rzf3 : w6.frozen? ⟨w.heap.size, 3, none⟩ = false := H6.out.res.frozen 3
          have rz4 : w6.cell? ⟨w.heap.size, 4, none⟩ = some (.int .i64 0) := (H6.out.res.cell 4).trans rfl
          have rzf4 : w6.frozen? ⟨w.heap.size, 4, none⟩ = false := H6.out.res.frozen 4
          go_wp2_with fail
          refine bodyPost_ret (v := .tuple #[pval none, .bool false]) (by simp [results, Try.f20, go_sem, pval, rz0, rz1, rz2, rz3, rz4]) rfl ?_
          exact ⟨by rw [HQ.out]; rfl, set5 H6.out.fr _ _ _ _ _⟩
      · have g1' : (x10 : Int) < 54 := by omega
        have HQ : Hid (R = none) := Lib.hid (by rw [HR.out, if_neg (fun h => g1 h.1)])
        have rz0 : w5.cell? ⟨w.heap.size, 0, none⟩ = some (.int .i64 0) := (H5.out.res.cell 0).trans rfl
        have rzf0 : w5.frozen? ⟨w.heap.size, 0, none⟩ = false := H5.out.res.frozen 0
        have rz1 : w5.cell? ⟨w.heap.size, 1, none⟩ = some (.int .i64 0) := (H5.out.res.cell 1).trans rfl
        have rzf1 : w5.frozen? ⟨w.heap.size, 1, none⟩ = false := H5.out.res.frozen 1
        have rz2 : w5.cell? ⟨w.heap.size, 2, none⟩ = some (.int .i64 0) := (H5.out.res.cell 2).trans rfl
        have rzf2 : w5.frozen? ⟨w.heap.size, 2, none⟩ = false := H5.out.res.frozen 2
        have rz3 : w5.cell? ⟨w.heap.size, 3, none⟩ = some (.int .i64 0) := (H5.out.res.cell 3).trans rfl
        have rzf3 : w5.frozen? ⟨w.heap.size, 3, none⟩ = false := H5.out.res.frozen 3
        have rz4 : w5.cell? ⟨w.heap.size, 4, none⟩ = some (.int .i64 0) := (H5.out.res.cell 4).trans rfl
        have rzf4 : w5.frozen? ⟨w.heap.size, 4, none⟩ = false := H5.out.res.frozen 4
        go_wp2_with fail
        refine bodyPost_ret (v := .tuple #[pval none, .bool false]) (by simp [results, Try.f20, go_sem, pval, rz0, rz1, rz2, rz3, rz4]) rfl ?_
        exact ⟨by rw [HQ.out]; rfl, set5 H5.out.fr _ _ _ _ _⟩

/-- Bmp: P16.1. -/
theorem qBmp_any (A : Option Addr) (n c : Nat) (l : List Int) (w : World) (hr : Row w .u8 A n l) (h8 : B8 l) (hn : n ≤ 1000000000) (hnc : n ≤ c) :
    Calls Try.prog 20 #[.slice A n c] w fun e w' => e = .returned (.tuple #[pval (bmpP l), .bool (bmpP l).isSome]) ∧ Fresh w w' := by
  by_cases hh : hdB l
  · obtain rfl := hr.len
    obtain ⟨hl, h0, h1⟩ := id hh
    obtain ⟨b, o, rfl, hb, hc⟩ := hr.at_ 0 (by omega)
    obtain ⟨b', o', eA, _, hc1⟩ := hr.at_ 1 (by omega)
    injection eA with eA
    injection eA with e1 e2
    subst e1 e2
    rw [h0, Nat.add_zero] at hc
    rw [h1] at hc1
    have HL : ∀ p k : Nat, p + k ≤ 54 → k ≤ 4 → Hid (∀ V, Fresh w V → Calls Try.prog 35 #[.slice (some ⟨b, o, none⟩) l.length c, .int .i64 (p : Int), .int .i64 (k : Int)] V fun e w' => e = .returned (.int .i64 (leAt l p k : Nat)) ∧ Fresh V w') := fun p k hp hk => Lib.hid fun V hV =>
      qPlittle_any (some ⟨b, o, none⟩) l.length c l p k V (hr.kept hV (fun _ _ _ _ => id)) h8 (by omega) hk hn hnc
    have hq : bmpP l = bmpQ (leAt l 10 4) (leAt l 14 4) (leAt l 18 4) (leAt l 22 4) (leAt l 26 2) (leAt l 28 2) (leAt l 30 4) l.length := by
      unfold bmpP bmpQ
      by_cases hk : okB (leAt l 10 4) (leAt l 14 4) (leAt l 26 2) (leAt l 28 2) (leAt l 30 4)
      · rw [if_pos ⟨hh, hk⟩, if_pos hk]
      · rw [if_neg (fun h => hk h.2), if_neg hk]
    rw [hq]
    exact qBmpGo_any b o c l.length _ _ _ _ _ _ _ w hn hl hb hc hc1 (leAt_lt h8 (p := 10) (k := 4) (by omega)) (leAt_lt h8 (p := 18) (k := 4) (by omega)) (leAt_lt h8 (p := 22) (k := 4) (by omega))
      (HL 10 4 (by omega) (by omega)) (HL 14 4 (by omega) (by omega)) (HL 18 4 (by omega) (by omega)) (HL 22 4 (by omega) (by omega)) (HL 26 2 (by omega) (by omega)) (HL 28 2 (by omega) (by omega)) (HL 30 4 (by omega) (by omega))
  · have hq : bmpP l = none := if_neg fun h => hh h.1
    rw [hq]
    exact qBmpNo_any A n c l w hr h8 hn hh

end Go.Proofs.Ythfifpapkknodaa

/- The code's small calls of a picture's head. -/
namespace Go.Proofs.Ythfifpapkknodaa
open Go.RowKit
set_option maxRecDepth 100000

attribute [local go_sem ↓] Go.wp_at_zero Go.wp_at_succ

set_option maxHeartbeats 800000 in
theorem cSide_any (v : Int) (w : World) : Calls Try.prog 68 #[.int .u64 v] w fun e w' => e = .returned (.bool (decide (1 ≤ v ∧ v ≤ 32768))) ∧ w = w' := by
  by_cases h1 : 1 ≤ v
  · by_cases h2 : v ≤ 32768
    · rw [decide_eq_true ⟨h1, h2⟩]
      go_enter Try.func68, Try.ntmps68
      go_wp2_with fail
      go_ret
      exact ⟨rfl, rfl⟩
    · rw [decide_eq_false (fun h => h2 h.2)]
      go_enter Try.func68, Try.ntmps68
      go_wp2_with fail
      go_ret
      exact ⟨rfl, rfl⟩
  · rw [decide_eq_false (fun h => h1 h.1)]
    go_enter Try.func68, Try.ntmps68
    go_wp2_with fail
    go_ret
    exact ⟨rfl, rfl⟩

set_option maxHeartbeats 800000 in
theorem cAmount_any (v : Nat) (w : World) (hv : v < 4294967296) : Calls Try.prog 66 #[.int .u64 v] w fun e w' => e = .returned (.int .u64 (amt4 v : Nat)) ∧ w = w' := by
  obtain ⟨s, hs⟩ : ∃ s, s = sg4 v := ⟨_, rfl⟩
  have u2 : IntKind.i32.wrap (v : Int) = s := by rw [hs]; exact sg4_i hv
  have u4 : -2147483648 ≤ s ∧ s < 2147483648 := by rw [hs]; exact sg4_in hv
  have U : Hid (max s (-s) = (amt4 v : Nat)) := Lib.hid (by rw [hs]; exact sg4_max hv)
  obtain ⟨m, hm⟩ : ∃ m, m = amt4 v := ⟨_, rfl⟩
  have hm1 : (m : Int) < 9000000000 := by have := amt4_le hv; rw [hm]; omega
  rw [← hm] at U ⊢
  clear hm hs hv
  go_enter Try.func66, Try.ntmps66
  go_wp2_with fail
  go_ret
  refine ⟨ret_int ?_, rfl⟩
  have h := U.out
  clear u2
  omega

/-- How many bytes a pixel of so many bits has. -/
def plnC (d : Int) : Int := if d = 24 then 3 else if d = 8 then 1 else 0
set_option maxHeartbeats 800000 in
theorem cPlanesOf_any (d : Int) (w : World) : Calls Try.prog 67 #[.int .u64 d] w fun e w' => e = .returned (.int .u64 (plnC d)) ∧ w = w' := by
  unfold plnC
  by_cases h1 : d = 24
  · subst h1
    rw [if_pos rfl]
    go_enter Try.func67, Try.ntmps67
    go_wp2_with fail
    go_ret
    exact ⟨rfl, rfl⟩
  · have b1 : (d == 24) = false := by simp [h1]
    rw [if_neg h1]
    clear h1
    by_cases h2 : d = 8
    · subst h2
      rw [if_pos rfl]
      go_enter Try.func67, Try.ntmps67
      go_wp2_with fail
      go_ret
      exact ⟨rfl, rfl⟩
    · have b2 : (d == 8) = false := by simp [h2]
      rw [if_neg h2]
      clear h2
      go_enter Try.func67, Try.ntmps67
      go_wp2_with fail
      go_ret
      exact ⟨rfl, rfl⟩

/-- What a head tells. -/
def hval : Option (Nat × Nat × Nat × Nat × Nat) → Value
  | none => .agg #[.int .u64 0, .int .u64 0, .int .u64 0, .int .u64 0, .int .u64 0]
  | some r => .agg #[.int .u64 (r.1 : Nat), .int .u64 (r.2.1 : Nat), .int .u64 (r.2.2.1 : Nat), .int .u64 (r.2.2.2.1 : Nat), .int .u64 (r.2.2.2.2 : Nat)]
/-- What is told of it, in a file of so many bytes. -/
def fitO (n : Nat) : Option (Nat × Nat × Nat × Nat × Nat) → Option (Nat × Nat × Nat × Nat × Nat)
  | none => none
  | some r => if fitP r.1 r.2.1 (r.2.2.2.1 : Nat) (r.2.2.2.2 : Nat) n then some r else none

set_option maxHeartbeats 3200000 in
theorem cWithin_some (a b p s f n : Nat) (w : World) (hp : p ≤ 3) (hs : s ≤ 1000000000000) (hf : f ≤ 10000000000) (hn : n ≤ 1000000000) :
    Calls Try.prog 46 #[.agg #[.int .u64 a, .int .u64 b, .int .u64 p, .int .u64 s, .int .u64 f], .int .i64 n] w
      fun e w' => e = .returned (.tuple #[pval (if fitP a b s f n then some (a, b, p, s, f) else none), .bool (if fitP a b s f n then some (a, b, p, s, f) else none).isSome]) ∧ Fresh w w' := by
  have HA := Lib.hid (cSide_any a)
  have HB := Lib.hid (cSide_any b)
  by_cases h1 : 1 ≤ (a : Int) ∧ (a : Int) ≤ 32768
  · rw [decide_eq_true h1] at HA
    by_cases h2 : 1 ≤ (b : Int) ∧ (b : Int) ≤ 32768
    · rw [decide_eq_true h2] at HB
      obtain ⟨m, hm⟩ : ∃ m, m = s * b := ⟨_, rfl⟩
      have hm1 : m ≤ 1000000000000 * 32768 := by rw [hm]; exact Nat.mul_le_mul hs (by omega)
      obtain ⟨t, ht⟩ : ∃ t, t = f + m := ⟨_, rfl⟩
      have e1 : (s : Int) * (b : Int) = (m : Int) := by rw [hm]; simp
      have w1 : IntKind.u64.wrap ((s : Int) * (b : Int)) = (m : Int) := by rw [e1]; exact IntWalk.u64_in _ (by omega)
      have w2 : IntKind.u64.wrap ((f : Int) + (m : Int)) = (t : Int) := by rw [IntWalk.u64_in _ (by omega)]; omega
      have w3 : IntKind.u64.wrap (n : Int) = (n : Int) := IntWalk.u64_in _ (by omega)
      have hfp : fitP a b s f n ↔ t ≤ n := by
        unfold fitP
        rw [e1]
        omega
      have a1 : (a : Int) ≤ 32768 := h1.2
      have a2 : (b : Int) ≤ 32768 := h2.2
      have a3 : (p : Int) ≤ 3 := by omega
      have a4 : (s : Int) ≤ 1000000000000 := by omega
      have a5 : (f : Int) ≤ 10000000000 := by omega
      clear hm hm1 ht e1 hp hs hf hn h1 h2
      by_cases h3 : t ≤ n
      · have h3' : ¬ (n : Int) < (t : Int) := by omega
        rw [if_pos (hfp.2 h3)]
        clear hfp h3
        go_enter Try.func46, Try.ntmps46
        go_wp2_with fail
        refine (HA.out _).mono ?_
        rintro e w1 ⟨rfl, rfl⟩
        go_wp2_with fail
        refine (HB.out _).mono ?_
        rintro e w1 ⟨rfl, rfl⟩
        go_wp2_with fail
        refine bodyPost_ret (v := .tuple #[pval (some (a, b, p, s, f)), .bool true]) (by simp [results, Try.f46, go_sem, pval]) rfl ?_
        exact ⟨rfl, ((Kept.refl _ _).alloc _).alloc _⟩
      · have h3' : (n : Int) < (t : Int) := by omega
        rw [if_neg (fun h => h3 (hfp.1 h))]
        clear hfp h3
        go_enter Try.func46, Try.ntmps46
        go_wp2_with fail
        refine (HA.out _).mono ?_
        rintro e w1 ⟨rfl, rfl⟩
        go_wp2_with fail
        refine (HB.out _).mono ?_
        rintro e w1 ⟨rfl, rfl⟩
        go_wp2_with fail
        refine bodyPost_ret (v := .tuple #[pval none, .bool false]) (by simp [results, Try.f46, go_sem, pval]) rfl ?_
        exact ⟨rfl, ((Kept.refl _ _).alloc _).alloc _⟩
    · rw [decide_eq_false h2] at HB
      rw [if_neg (fun h : fitP a b s f n => h2 ⟨h.2.2.1, h.2.2.2.1⟩)]
      clear h1 h2
      go_enter Try.func46, Try.ntmps46
      go_wp2_with fail
      refine (HA.out _).mono ?_
      rintro e w1 ⟨rfl, rfl⟩
      go_wp2_with fail
      refine (HB.out _).mono ?_
      rintro e w1 ⟨rfl, rfl⟩
      go_wp2_with fail
      refine bodyPost_ret (v := .tuple #[pval none, .bool false]) (by simp [results, Try.f46, go_sem, pval]) rfl ?_
      exact ⟨rfl, ((Kept.refl _ _).alloc _).alloc _⟩
  · rw [decide_eq_false h1] at HA
    rw [if_neg (fun h : fitP a b s f n => h1 ⟨h.1, h.2.1⟩)]
    clear h1 HB
    go_enter Try.func46, Try.ntmps46
    go_wp2_with fail
    refine (HA.out _).mono ?_
    rintro e w1 ⟨rfl, rfl⟩
    go_wp2_with fail
    refine bodyPost_ret (v := .tuple #[pval none, .bool false]) (by simp [results, Try.f46, go_sem, pval]) rfl ?_
    exact ⟨rfl, ((Kept.refl _ _).alloc _).alloc _⟩

/-- Within, of whatever a head tells. -/
def okH (r : Nat × Nat × Nat × Nat × Nat) : Prop := r.2.2.1 ≤ 3 ∧ r.2.2.2.1 ≤ 1000000000000 ∧ r.2.2.2.2 ≤ 10000000000
theorem cWithin_any (o : Option (Nat × Nat × Nat × Nat × Nat)) (n : Nat) (w : World) (ho : ∀ r, o = some r → okH r) (hn : n ≤ 1000000000) :
    Calls Try.prog 46 #[hval o, .int .i64 n] w fun e w' => e = .returned (.tuple #[pval (fitO n o), .bool (fitO n o).isSome]) ∧ Fresh w w' := by
  cases o with
  | some r =>
    obtain ⟨a, b, p, s, f⟩ := r
    obtain ⟨h1, h2, h3⟩ := ho _ rfl
    exact cWithin_some a b p s f n w h1 h2 h3 hn
  | none =>
    have h := cWithin_some 0 0 0 0 0 n w (by omega) (by omega) (by omega) hn
    have hf : ¬ fitP (0 : Nat) (0 : Nat) (0 : Nat) (0 : Nat) n := fun h => absurd h.1 (by decide)
    rw [if_neg hf] at h
    exact h

end Go.Proofs.Ythfifpapkknodaa

/- The code's head of a plain picture, as plain mathematics; it is the document's. -/
namespace Go.Proofs.Ythfifpapkknodaa
open Go.RowKit
set_option maxRecDepth 100000

/-- Behind a remark, if one begins here. -/
def rmk (l : List Int) (i : Nat) : Nat := if l.getD i 0 = 35 then eol l i else i
theorem rmk_ge (l : List Int) (i : Nat) : i ≤ rmk l i := by
  unfold rmk
  split
  · exact eol_ge l i
  · exact Nat.le_refl _
theorem rmk_le (l : List Int) (i : Nat) (h : i ≤ l.length) : rmk l i ≤ l.length := by
  unfold rmk
  split
  · exact eol_le l i h
  · exact h
theorem getD_past {l : List Int} {i : Nat} (h : l.length ≤ i) : l.getD i 0 = 0 := by
  rw [List.getD_eq_getElem?_getD, List.getElem?_eq_none h]; rfl
theorem blk_lt {l : List Int} {i : Nat} (h : blk (l.getD i 0)) : i < l.length := by
  rcases Nat.lt_or_ge i l.length with h1 | h1
  · exact h1
  · rw [getD_past h1] at h
    exact absurd h (by decide)
/-- Behind white, and whether there was some. -/
def cwh (l : List Int) (t : Bool) (i : Nat) : Bool × Nat := if blk (l.getD (rmk l i) 0) then cwh l true (rmk l i + 1) else (t, rmk l i)
termination_by l.length - i
decreasing_by
  rename_i h
  have h1 := blk_lt h
  have h2 := rmk_ge l i
  omega
theorem cwh_le (l : List Int) (t : Bool) (i : Nat) (h : i ≤ l.length) : (cwh l t i).2 ≤ l.length := by
  rw [cwh]
  split
  · rename_i hb
    exact cwh_le l true (rmk l i + 1) (blk_lt hb)
  · exact rmk_le l i h
termination_by l.length - i
decreasing_by
  rename_i h
  have h1 := blk_lt h
  have h2 := rmk_ge l i
  omega
/-- Is it a digit? -/
def dgt (x : Int) : Prop := 48 ≤ x ∧ x ≤ 57
instance (x : Int) : Decidable (dgt x) := by unfold dgt; infer_instance
theorem dgt_lt {l : List Int} {i : Nat} (h : dgt (l.getD i 0)) : i < l.length := by
  rcases Nat.lt_or_ge i l.length with h1 | h1
  · exact h1
  · rw [getD_past h1] at h
    exact absurd h (by decide)
/-- So many digits at most. -/
def dgs (l : List Int) : Nat → Nat → Nat → Nat × Nat
  | 0, i, v => (v, i)
  | f + 1, i, v => if dgt (l.getD i 0) then dgs l f (i + 1) (10 * v + (l.getD i 0 - 48).toNat) else (v, i)
theorem dgs_le (l : List Int) : ∀ f i v, i ≤ l.length → (dgs l f i v).2 ≤ l.length
  | 0, i, v, h => h
  | f + 1, i, v, h => by
    rw [dgs]
    split
    · rename_i hd
      exact dgs_le l f _ _ (dgt_lt hd)
    · exact h
theorem dgs_lt (l : List Int) : ∀ f i v k, v < 10 ^ k → (dgs l f i v).1 < 10 ^ (k + f)
  | 0, i, v, k, h => h
  | f + 1, i, v, k, h => by
    rw [dgs]
    split
    · rename_i hd
      have := dgs_lt l f (i + 1) (10 * v + (l.getD i 0 - 48).toNat) (k + 1) (by
        have h1 := hd.1
        have h2 := hd.2
        rw [Nat.pow_succ]
        omega)
      rwa [show k + 1 + f = k + (f + 1) by omega] at this
    · exact Nat.lt_of_lt_of_le h (Nat.pow_le_pow_right (by decide) (by omega))
/-- White, and a number. -/
def cnm (l : List Int) (i : Nat) : Nat × Nat := if (cwh l false i).1 then dgs l 5 (cwh l false i).2 0 else (0, (cwh l false i).2)
theorem cnm_le (l : List Int) (i : Nat) (h : i ≤ l.length) : (cnm l i).2 ≤ l.length := by
  unfold cnm
  split
  · exact dgs_le l 5 _ 0 (cwh_le l false i h)
  · exact cwh_le l false i h
theorem cnm_lt (l : List Int) (i : Nat) : (cnm l i).1 < 100000 := by
  unfold cnm
  split
  · exact dgs_lt l 5 _ 0 0 (by decide)
  · exact (by decide : 0 < 100000)

theorem eol_at (l : List Int) (i : Nat) (h : eol l i < l.length) : l.getD (eol l i) 0 = 10 := by
  rw [eol] at h ⊢
  split
  · split
    · assumption
    · rename_i h1 h2
      rw [if_pos h1, if_neg h2] at h
      exact eol_at l (i + 1) h
  · rename_i h1
    rw [if_neg h1] at h
    exact absurd h h1
termination_by l.length - i
/-- The document's white is the code's. -/
theorem whi_cwh (l : List Int) (f i : Nat) (t : Bool) (hf : f ≤ i) (hi : i ≤ l.length) (ht : t = decide (f < i)) :
    (∀ k : Nat, whi l f i = k → cwh l t i = (true, k)) ∧ (whi l f i = -1 → (cwh l t i).1 = false ∨ (cwh l t i).2 = l.length) := by
  rw [whi, cwh]
  by_cases h1 : i < l.length
  · rw [if_pos h1]
    by_cases h2 : blk (l.getD i 0)
    · have h3 : l.getD i 0 ≠ 35 := fun e => by rw [e] at h2; exact absurd h2 (by decide)
      rw [if_pos h2, show rmk l i = i from if_neg h3, if_pos h2]
      exact whi_cwh l f (i + 1) true (by omega) h1 (decide_eq_true (by omega)).symm
    · rw [if_neg h2]
      by_cases h3 : l.getD i 0 = 35
      · rw [if_pos h3, show rmk l i = eol l i from if_pos h3]
        have hg := eol_ge l i
        by_cases h4 : eol l i < l.length
        · rw [if_pos h4, if_pos (show blk (l.getD (eol l i) 0) by rw [eol_at l i h4]; decide)]
          exact whi_cwh l f (eol l i + 1) true (by omega) h4 (decide_eq_true (by omega)).symm
        · have hl := eol_le l i hi
          have he : eol l i = l.length := by omega
          rw [if_neg h4, if_neg (fun h => h4 (blk_lt h))]
          exact ⟨fun k e => by omega, fun _ => .inr he⟩
      · rw [if_neg h3, show rmk l i = i from if_neg h3, if_neg h2]
        by_cases h4 : i = f
        · rw [if_pos h4]
          refine ⟨fun k e => by omega, fun _ => .inl ?_⟩
          rw [ht]
          exact decide_eq_false (by omega)
        · rw [if_neg h4]
          refine ⟨fun k e => ?_, fun e => by omega⟩
          have : k = i := by omega
          rw [this, ht, decide_eq_true (by omega)]
  · have he : i = l.length := by omega
    have h0 : l.getD i 0 = 0 := getD_past (by omega)
    rw [if_neg h1, show rmk l i = i from if_neg (by rw [h0]; decide), if_neg (by rw [h0]; decide)]
    exact ⟨fun k e => by omega, fun _ => .inr he⟩
termination_by l.length - i
decreasing_by
  · omega
  · have := eol_ge l i
    omega
/-- Digits. -/
theorem numR_dgs (l : List Int) : ∀ (f i v : Nat), ((numR l (f + 1) i v).2.2 ≠ 0 → (numR l (f + 1) i v).1 = ((dgs l f i v).1 : Nat) ∧ (numR l (f + 1) i v).2.1 = (dgs l f i v).2) ∧ ((numR l (f + 1) i v).2.2 = 0 → dgt (l.getD (dgs l f i v).2 0))
  | 0, i, v => by
    rw [numR]
    split
    · rename_i h
      exact ⟨fun e => absurd rfl e, fun _ => h.2⟩
    · exact ⟨fun _ => ⟨rfl, rfl⟩, fun e => absurd e (by simp)⟩
  | f + 1, i, v => by
    rw [numR, dgs]
    by_cases h : dgt (l.getD i 0)
    · rw [if_pos ⟨dgt_lt h, h⟩, if_pos h]
      have := numR_dgs l f (i + 1) (10 * v + (l.getD i 0 - 48).toNat)
      rw [show ((10 * v + (l.getD i 0 - 48).toNat : Nat) : Int) = 10 * (v : Int) + (l.getD i 0 - 48) from by have := h.1; omega] at this
      exact this
    · rw [if_neg (fun e => h e.2), if_neg h]
      exact ⟨fun _ => ⟨rfl, rfl⟩, fun e => absurd e (by simp)⟩

theorem tok_cnm {l : List Int} {i : Nat} (hi : i ≤ l.length) {t : Nat × Nat} (h : tok l i = some t) : cnm l i = t := by
  obtain ⟨j, h1, _, _, h4, _⟩ := tok_some h
  have h5 := (whi_cwh l i i false (Nat.le_refl _) hi (decide_eq_false (Nat.lt_irrefl _)).symm).1 j h1
  unfold cnm
  rw [h5]
  simp only [if_true]
  unfold numP at h4
  split at h4
  · exact absurd (congrArg Prod.fst h4) (by simp only []; omega)
  · rename_i hc
    obtain ⟨h6, _⟩ := numR_dgs l 5 j 0
    obtain ⟨h7, h8⟩ := h6 (fun e => hc (.inr e))
    have e1 := congrArg Prod.fst h4
    have e2 := congrArg Prod.snd h4
    simp only [] at e1 e2
    rw [show ((0 : Nat) : Int) = 0 from rfl, show 5 + 1 = 6 from rfl] at h7 h8
    apply Prod.ext <;> omega
theorem tok_none {l : List Int} {i : Nat} (hi : i ≤ l.length) (h : tok l i = none) : (cnm l i).1 = 0 ∨ dgt (l.getD (cnm l i).2 0) := by
  have hw := whi_cwh l i i false (Nat.le_refl _) hi (decide_eq_false (Nat.lt_irrefl _)).symm
  rcases whi_in l i i (Nat.le_refl _) with e | e
  · rcases hw.2 e with h1 | h1
    · left
      unfold cnm
      rw [h1]
      rfl
    · left
      unfold cnm
      split
      · rw [h1, dgs, if_neg (fun hd => absurd (dgt_lt hd) (Nat.lt_irrefl _))]
      · rfl
  · obtain ⟨j, hj⟩ : ∃ j : Nat, whi l i i = j := ⟨(whi l i i).toNat, by omega⟩
    have h5 := hw.1 j hj
    unfold tok at h
    rw [hj, if_neg (by omega), Int.toNat_natCast] at h
    split at h
    · rename_i hn
      unfold cnm
      rw [h5]
      simp only [if_true]
      obtain ⟨h6, h7⟩ := numR_dgs l 5 j 0
      unfold numP at hn
      split at hn
      · rename_i hc
        rcases hc with hc | hc
        · left
          rw [dgs]
          split
          · rename_i hd
            exfalso
            rw [numR, if_pos ⟨dgt_lt hd, hd⟩] at hc
            have := (numR_in l 5 (j + 1) (10 * 0 + (l.getD j 0 - 48)) (by have := hd.1; omega) (dgt_lt hd)).2.2.2.1
            omega
          · rfl
        · right
          exact h7 hc
      · simp only [] at hn
        omega
    · cases h
theorem cnm_dgt {l : List Int} {i : Nat} (h : dgt (l.getD i 0)) : cnm l i = (0, i) := by
  have h1 : l.getD i 0 ≠ 35 := fun e => by rw [e] at h; exact absurd h (by decide)
  have h2 : ¬ blk (l.getD i 0) := fun e => by unfold blk at e; unfold dgt at h; omega
  have h3 : cwh l false i = (false, i) := by rw [cwh, show rmk l i = i from if_neg h1, if_neg h2]
  unfold cnm
  rw [h3]
  rfl

/-- What the head of a plain picture tells. -/
def pnmH (l : List Int) : Option (Nat × Nat × Nat × Nat × Nat) :=
  if hdP l ∧ (1 ≤ (cnm l (cnm l (cnm l 2).2).2).1 ∧ (cnm l (cnm l (cnm l 2).2).2).1 ≤ 255) ∧ blk (l.getD (cnm l (cnm l (cnm l 2).2).2).2 0) then
    some ((cnm l 2).1, (cnm l (cnm l 2).2).1, plnP l, (cnm l 2).1 * plnP l, (cnm l (cnm l (cnm l 2).2).2).2 + 1) else none
theorem pnmH_ok {l : List Int} (hl : l.length ≤ 1000000000) {r : Nat × Nat × Nat × Nat × Nat} (h : pnmH l = some r) : okH r := by
  unfold pnmH at h
  split at h
  · rename_i hc
    injection h with h
    subst h
    have hp : plnP l ≤ 3 := by unfold plnP; split <;> omega
    have h1 := blk_lt hc.2.2
    refine ⟨hp, ?_, by simp only []; omega⟩
    simp only []
    have := Nat.mul_le_mul (Nat.le_of_lt (cnm_lt l 2)) hp
    omega
  · cases h
theorem fitP_zero1 {b s f n : Int} : ¬ fitP (0 : Nat) b s f n := fun h => absurd h.1 (by decide)
theorem fitP_zero2 {a s f n : Int} : ¬ fitP a (0 : Nat) s f n := fun h => absurd h.2.2.1 (by decide)
theorem pnmP_fit (l : List Int) : pnmP l = fitO l.length (pnmH l) := by
  unfold pnmP pnmH
  by_cases hh : hdP l
  · rw [if_pos hh]
    have hl2 := hh.1
    have l1 := cnm_le l 2 hl2
    have l2 := cnm_le l _ l1
    have l3 := cnm_le l _ l2
    -- a head that is none
    have no : ∀ (P : Prop) [Decidable P] (r : Nat × Nat × Nat × Nat × Nat), (P → r.1 = 0 ∨ r.2.1 = 0) → fitO l.length (if P then some r else none) = none := fun P _ r hr => by
      by_cases hp : P
      · rw [if_pos hp]
        unfold fitO
        rcases hr hp with e | e
        · simp only [e, fitP_zero1, if_false]
        · simp only [e, fitP_zero2, if_false]
      · rw [if_neg hp]; rfl
    cases t1 : tok l 2 with
    | none =>
      have hc : chn l 3 = none := chn_none (k := 1) (by simp [chn, t1]) 3 (by omega)
      rw [hc]
      refine (no _ _ fun _ => ?_).symm
      rcases tok_none hl2 t1 with e | e
      · exact .inl e
      · right
        simp only []
        rw [cnm_dgt e]
    | some a =>
      have e1 := tok_cnm hl2 t1
      rw [e1] at l1 l2 l3 ⊢
      have c1 : chn l 1 = some ([a.1], a.2) := by simp [chn, t1]
      cases t2 : tok l a.2 with
      | none =>
        have hc : chn l 3 = none := chn_none (k := 2) (by rw [chn, c1]; simp only [t2]) 3 (by omega)
        rw [hc]
        refine (no _ _ fun hp => ?_).symm
        rcases tok_none l1 t2 with e | e
        · exact .inr e
        · exfalso
          have h1 := hp.2.1.1
          rw [cnm_dgt e] at h1
          exact absurd h1 (Nat.not_succ_le_zero 0)
      | some b =>
        have e2 := tok_cnm l1 t2
        rw [e2] at l2 l3 ⊢
        have c2 : chn l 2 = some ([a.1, b.1], b.2) := by rw [chn, c1]; simp only [t2]; rfl
        cases t3 : tok l b.2 with
        | none =>
          have hc : chn l 3 = none := by rw [chn, c2]; simp only [t3]
          rw [hc, if_neg]
          · rfl
          · intro hp
            rcases tok_none l2 t3 with e | e
            · have h1 := hp.2.1.1
              rw [e] at h1
              exact absurd h1 (by decide)
            · have h1 := hp.2.2
              unfold blk at h1
              unfold dgt at e
              omega
        | some c =>
          have e3 := tok_cnm l2 t3
          rw [e3] at l3 ⊢
          have c3 : chn l 3 = some ([a.1, b.1, c.1], c.2) := by rw [chn, c2]; simp only [t3]; rfl
          rw [c3]
          simp only [List.getD_cons_zero, List.getD_cons_succ]
          by_cases hp : 1 ≤ c.1 ∧ c.1 ≤ 255 ∧ blk (l.getD c.2 0)
          · rw [if_pos ⟨blk_lt hp.2.2, hp.2.2, hp.1, hp.2.1⟩, if_pos ⟨hh, ⟨hp.1, hp.2.1⟩, hp.2.2⟩]
            rfl
          · rw [if_neg (fun h => hp ⟨h.2.2.1, h.2.2.2, h.2.1⟩), if_neg (fun h => hp ⟨h.2.1.1, h.2.1.2, h.2.2⟩)]
            rfl
  · rw [if_neg hh, if_neg (fun h => hh h.1)]
    rfl

end Go.Proofs.Ythfifpapkknodaa

/- A file that says its width and height, in digits, with white and remarks between, as plain mathematics. -/
namespace Go.Proofs.Ythfifpapkknodaa
open Go.RowKit
set_option maxRecDepth 100000

/-- A list's place by what is left from there on. -/
theorem drop_at {l : List Int} {i : Nat} {c : Int} {r : List Int} (h : l.drop i = c :: r) : i < l.length ∧ l.getD i 0 = c ∧ l.drop (i + 1) = r := by
  have hi : i < l.length := by
    rcases Nat.lt_or_ge i l.length with h1 | h1
    · exact h1
    · rw [List.drop_eq_nil_of_le h1] at h; cases h
  have h2 := List.drop_eq_getElem_cons hi
  rw [h] at h2
  injection h2 with h2 h3
  refine ⟨hi, ?_, h3.symm⟩
  rw [List.getD_eq_getElem?_getD, List.getElem?_eq_getElem hi, h2]
  rfl
theorem drop_more {l : List Int} {i : Nat} {a r : List Int} (h : l.drop i = a ++ r) : l.drop (i + a.length) = r := by
  rw [← List.drop_drop, h, List.drop_left]
theorem whi_blks (l : List Int) (f : Nat) : ∀ (ws r : List Int) (i : Nat), (∀ c ∈ ws, blk c) → l.drop i = ws ++ r → whi l f i = whi l f (i + ws.length)
  | [], r, i, _, _ => rfl
  | c :: ws, r, i, hb, h => by
    obtain ⟨h1, h2, h3⟩ := drop_at h
    rw [whi, if_pos h1, h2, if_pos (hb c (List.mem_cons_self ..)), whi_blks l f ws r (i + 1) (fun c hc => hb c (List.mem_cons_of_mem _ hc)) h3, List.length_cons]
    congr 1
    omega
theorem eol_run (l : List Int) : ∀ (rs r : List Int) (i : Nat), (∀ c ∈ rs, c ≠ 10) → l.drop i = rs ++ 10 :: r → eol l i = i + rs.length
  | [], r, i, _, h => by
    obtain ⟨h1, h2, _⟩ := drop_at h
    rw [eol, if_pos h1, if_pos h2]
    rfl
  | c :: rs, r, i, hb, h => by
    obtain ⟨h1, h2, h3⟩ := drop_at h
    rw [eol, if_pos h1, h2, if_neg (hb c (List.mem_cons_self ..)), eol_run l rs r (i + 1) (fun c hc => hb c (List.mem_cons_of_mem _ hc)) h3, List.length_cons]
    omega
theorem whi_rmk (l : List Int) (f i : Nat) (rs r : List Int) (hb : ∀ c ∈ rs, c ≠ 10) (h : l.drop i = 35 :: (rs ++ 10 :: r)) : whi l f i = whi l f (i + (rs.length + 2)) := by
  obtain ⟨h1, h2, _⟩ := drop_at h
  have he := eol_run l (35 :: rs) r i (fun c hc => by
    rcases List.mem_cons.1 hc with e | e
    · rw [e]; decide
    · exact hb c e) h
  rw [List.length_cons] at he
  have hl : eol l i < l.length := by
    have h3 : l.drop (i + (35 :: rs).length) = 10 :: r := drop_more (a := 35 :: rs) h
    rw [List.length_cons] at h3
    rw [he]
    exact (drop_at h3).1
  rw [whi, if_pos h1, h2, if_neg (by decide), if_pos rfl, if_pos hl, he]
  rfl
theorem whi_stop (l : List Int) (f i : Nat) {c : Int} {r : List Int} (h : l.drop i = c :: r) (h1 : ¬ blk c) (h2 : c ≠ 35) (h3 : i ≠ f) : whi l f i = i := by
  obtain ⟨a, b, _⟩ := drop_at h
  rw [whi, if_pos a, b, if_neg h1, if_neg h2, if_neg h3]
/-- Digits' number. -/
def dnum (v : Int) (ds : List Int) : Int := ds.foldl (fun v d => 10 * v + (d - 48)) v
theorem numR_run (l : List Int) : ∀ (ds r : List Int) (f i : Nat) (v : Int), (∀ d ∈ ds, dgt d) → (∀ c r', r = c :: r' → ¬ dgt c) → l.drop i = ds ++ r → ds.length < f → numR l f i v = (dnum v ds, i + ds.length, f - ds.length)
  | [], r, 0, i, v, _, _, _, hf => absurd hf (Nat.not_lt_zero _)
  | d :: ds, r, 0, i, v, _, _, _, hf => absurd hf (Nat.not_lt_zero _)
  | [], r, f + 1, i, v, _, hr, h, _ => by
    rw [numR]
    cases r with
    | nil =>
      rw [List.append_nil] at h
      rw [if_neg]
      · rfl
      · intro e
        have := List.drop_eq_nil_iff.1 h
        omega
    | cons c r =>
      obtain ⟨_, h2, _⟩ := drop_at h
      rw [h2, if_neg (fun e => hr c r rfl e.2)]
      rfl
  | d :: ds, r, f + 1, i, v, hd, hr, h, hf => by
    obtain ⟨h1, h2, h3⟩ := drop_at h
    rw [numR, h2, if_pos ⟨h1, hd d (List.mem_cons_self ..)⟩, numR_run l ds r f (i + 1) _ (fun c hc => hd c (List.mem_cons_of_mem _ hc)) hr h3 (by rw [List.length_cons] at hf; omega), List.length_cons]
    refine Prod.ext rfl (Prod.ext ?_ ?_)
    · simp only []; omega
    · simp only []; omega
/-- White as it may be. -/
def gapL (g : List Int) : Prop := ∃ ws rs, (∀ c ∈ ws, blk c) ∧ ws ≠ [] ∧ (∀ c ∈ rs, c ≠ 10) ∧ (g = ws ∨ g = ws ++ 35 :: (rs ++ [10]))
theorem whi_gap {l g r : List Int} {i : Nat} {c : Int} (hg : gapL g) (h : l.drop i = g ++ c :: r) (h1 : ¬ blk c) (h2 : c ≠ 35) : whi l i i = ((i + g.length : Nat) : Int) ∧ l.drop (i + g.length) = c :: r := by
  obtain ⟨ws, rs, b1, b2, b3, b4⟩ := hg
  have hd := drop_more h
  refine ⟨?_, hd⟩
  have hw : 0 < ws.length := List.length_pos_iff.2 b2
  rcases b4 with rfl | rfl
  · rw [whi_blks l i g (c :: r) i b1 h]
    exact whi_stop l i _ hd h1 h2 (by omega)
  · rw [List.append_assoc] at h
    rw [whi_blks l i ws _ i b1 h]
    have h3 := drop_more h
    rw [List.cons_append, List.append_assoc] at h3
    rw [whi_rmk l i _ rs (c :: r) b3 h3]
    have e : i + (ws ++ 35 :: (rs ++ [10])).length = i + ws.length + (rs.length + 2) := by simp; omega
    rw [e] at hd ⊢
    exact whi_stop l i _ hd h1 h2 (by omega)
/-- White, digits, and white again. -/
theorem tok_gap {l g ds r : List Int} {i : Nat} {c : Int} (hg : gapL g) (hd : ∀ d ∈ ds, dgt d) (h0 : ds ≠ []) (h5 : ds.length ≤ 5) (hc : ¬ dgt c) (h : l.drop i = g ++ (ds ++ c :: r)) :
    tok l i = some ((dnum 0 ds).toNat, i + g.length + ds.length) ∧ l.drop (i + g.length + ds.length) = c :: r := by
  obtain ⟨d, ds', rfl⟩ := List.exists_cons_of_ne_nil h0
  have hd0 := hd d (List.mem_cons_self ..)
  obtain ⟨h1, h2⟩ := whi_gap hg h (fun e => by unfold blk at e; unfold dgt at hd0; omega) (fun e => by unfold dgt at hd0; omega)
  have h3 := drop_more (a := d :: ds') h2
  refine ⟨?_, h3⟩
  unfold tok
  rw [h1, if_neg (by omega), Int.toNat_natCast]
  have h4 := numR_run l (d :: ds') (c :: r) 6 (i + g.length) 0 hd (fun c' r' e => by injection e with e1 e2; rw [← e1]; exact hc) h2 (by omega)
  have h6 : numP l (i + g.length) = (dnum 0 (d :: ds'), ((i + g.length + (d :: ds').length : Nat) : Int)) := by
    unfold numP
    rw [h4, if_neg (by simp only [List.length_cons] at h5 ⊢; omega)]
  rw [h6, if_neg (by simp only []; omega)]
  simp only [Int.toNat_natCast]

/-- The head of such a file. -/
def sayH (s : Int) (g da db : List Int) : List Int := [80, s] ++ (g ++ (da ++ (g ++ (db ++ (g ++ [50, 53, 53, 32])))))
theorem gap_head {g : List Int} (hg : gapL g) : ∃ c r, g = c :: r ∧ ¬ dgt c := by
  obtain ⟨ws, rs, b1, b2, _, b4⟩ := hg
  obtain ⟨w, ws', rfl⟩ := List.exists_cons_of_ne_nil b2
  have hb := b1 w (List.mem_cons_self ..)
  have hn : ¬ dgt w := fun e => by unfold blk at hb; unfold dgt at e; omega
  rcases b4 with rfl | rfl
  · exact ⟨w, ws', rfl, hn⟩
  · exact ⟨w, _, rfl, hn⟩
theorem sayH_len (s : Int) (g da db : List Int) : (sayH s g da db).length = 6 + 3 * g.length + da.length + db.length := by
  simp [sayH]; omega
theorem say_pnm {s : Int} {g da db px : List Int} {a b : Nat} (hs : s = 53 ∨ s = 54) (hg : gapL g) (ha : ∀ d ∈ da, dgt d) (ha0 : da ≠ []) (ha5 : da.length ≤ 5) (hav : dnum 0 da = a) (hb : ∀ d ∈ db, dgt d) (hb0 : db ≠ []) (hb5 : db.length ≤ 5) (hbv : dnum 0 db = b) :
    pnmP (sayH s g da db ++ px) = pnmR a b (if s = 54 then 3 else 1) (sayH s g da db).length (sayH s g da db ++ px).length := by
  obtain ⟨l, hl⟩ : ∃ l, l = sayH s g da db ++ px := ⟨_, rfl⟩
  rw [← hl]
  obtain ⟨c, gr, hgc, hcn⟩ := gap_head hg
  have e0 : l = [80, s] ++ (g ++ (da ++ (g ++ (db ++ (g ++ ([50, 53, 53] ++ 32 :: px)))))) := by rw [hl]; simp [sayH]
  have d0 : l.drop 2 = g ++ (da ++ c :: (gr ++ (db ++ (g ++ ([50, 53, 53] ++ 32 :: px))))) := by
    rw [e0, show g ++ (db ++ (g ++ ([50, 53, 53] ++ 32 :: px))) = c :: (gr ++ (db ++ (g ++ ([50, 53, 53] ++ 32 :: px)))) from by rw [hgc]; rfl]
    rfl
  obtain ⟨t1, d1⟩ := tok_gap hg ha ha0 ha5 hcn d0
  have d1' : l.drop (2 + g.length + da.length) = g ++ (db ++ c :: (gr ++ ([50, 53, 53] ++ 32 :: px))) := by
    rw [d1, show c :: (gr ++ ([50, 53, 53] ++ 32 :: px)) = g ++ ([50, 53, 53] ++ 32 :: px) from by rw [hgc]; rfl, ← List.cons_append, ← hgc]
  obtain ⟨t2, d2⟩ := tok_gap hg hb hb0 hb5 hcn d1'
  have d2' : l.drop (2 + g.length + da.length + g.length + db.length) = g ++ ([50, 53, 53] ++ 32 :: px) := by
    rw [d2, ← List.cons_append, ← hgc]
  obtain ⟨t3, d3⟩ := tok_gap hg (by decide) (by decide) (by decide) (by decide) d2'
  obtain ⟨q1, q2, _⟩ := drop_at d3
  have hlen : (sayH s g da db).length = 2 + g.length + da.length + g.length + db.length + g.length + [(50 : Int), 53, 53].length + 1 := by rw [sayH_len]; simp; omega
  have hc : chn l 3 = some ([a, b, 255], (sayH s g da db).length - 1) := by
    have c1 : chn l 1 = some ([a], 2 + g.length + da.length) := by simp [chn, t1, hav]
    have c2 : chn l 2 = some ([a, b], 2 + g.length + da.length + g.length + db.length) := by rw [chn, c1]; simp only [t2, hbv]; rfl
    rw [chn, c2]
    simp only [t3]
    rw [hlen]
    rfl
  have hh : hdP l := by
    refine ⟨by rw [e0]; simp, by rw [e0]; rfl, ?_⟩
    rw [e0]
    exact hs
  unfold pnmP
  rw [if_pos hh, hc]
  simp only []
  have hq : (sayH s g da db).length - 1 = 2 + g.length + da.length + g.length + db.length + g.length + [(50 : Int), 53, 53].length := by omega
  rw [hq, if_pos ⟨q1, by rw [q2]; decide, by simp, by simp⟩]
  unfold plnP
  rw [show l.getD 1 0 = s from by rw [e0]; rfl, hlen]
  rfl

end Go.Proofs.Ythfifpapkknodaa

/- Lists of texts in memory. -/
namespace Go.Proofs.Ythfifpapkknodaa
open Go.RowKit

/-- Some texts; nothing of them lies in F. -/
structure Parts (w : World) (P : Option Addr) (m : Nat) (L : List (List Int)) (F : Nat → Prop) : Prop where
  len : L.length = m
  at_ : ∀ j, j < m → ∃ b o A n c, P = some ⟨b, o, none⟩ ∧ b < w.heap.size ∧ ¬ F b ∧ w.cell? ⟨b, o + j, none⟩ = some (.slice A n c) ∧ Row w .u8 A n (L.getD j []) ∧ (∀ b' o', A = some ⟨b', o', none⟩ → 0 < n → ¬ F b')

theorem Parts.kept {w w' : World} {P : Option Addr} {m : Nat} {L : List (List Int)} {F S : Nat → Prop} (h : Parts w P m L F) (hk : Kept S w w') (hs : ∀ b, b < w.heap.size → ¬ F b → ¬ S b) : Parts w' P m L F :=
  ⟨h.len, fun j hj => by
    obtain ⟨b, o, A, n, c, e, hb, hf, hc, hr, hA⟩ := h.at_ j hj
    refine ⟨b, o, A, n, c, e, Nat.lt_of_lt_of_le hb hk.size, hf, (hk.cell (p := ⟨b, o + j, none⟩) hb (hs b hb hf)).trans hc, hr.kept hk (fun b' o' e' hn => ?_), hA⟩
    obtain ⟨b2, o2, e2, hb2, _⟩ := hr.at_ 0 hn
    rw [e'] at e2
    injection e2 with e2
    injection e2 with e2
    subst e2
    exact hs _ hb2 (hA _ _ e' hn)⟩

theorem flat_take {L : List (List Int)} {j : Nat} (hj : j < L.length) : (L.take (j + 1)).flatten = (L.take j).flatten ++ L.getD j [] := by
  rw [List.take_succ_eq_append_getElem hj]; simp [hj, -List.take_append_getElem]
theorem flat_le {L : List (List Int)} {j : Nat} (hj : j < L.length) : (L.take j).flatten.length + (L.getD j []).length ≤ L.flatten.length := by
  have e := flat_take hj
  have : L.flatten = (L.take (j + 1)).flatten ++ (L.drop (j + 1)).flatten := by rw [← List.flatten_append, List.take_append_drop]
  rw [this, e]; simp

/-- One text, in a list of its own. -/
theorem Parts.one {w : World} {A : Option Addr} {n c : Nat} {xs : List Int} {F : Nat → Prop} {t : TypeId} (hr : Row w .u8 A n xs) (hA : ∀ b o, A = some ⟨b, o, none⟩ → 0 < n → ¬ F b) (hF : ¬ F w.heap.size) :
    Parts (w.alloc (.cells #[.slice A n c] t)) (some ⟨w.heap.size, 0, none⟩) 1 [xs] F :=
  ⟨rfl, fun j hj => by
    obtain rfl : j = 0 := by omega
    refine ⟨w.heap.size, 0, A, n, c, rfl, by simp, hF, (Blk.new w t #[.slice A n c]).cell 0, hr.kept ((Kept.refl (fun _ => False) w).alloc _) (fun _ _ _ _ => id), hA⟩⟩

end Go.Proofs.Ythfifpapkknodaa

/- The contracts of num.Writer, Fold, Unfold. -/
namespace Go.Proofs.Ythfifpapkknodaa
open Go.RowKit

theorem Try.infoByteN : (Try.prog.info? 5).map (fun i => (i.zero, i.size, i.bytes)) = some (some (.int .u8 0), 1, 1) := by kernel_rfl



/-- How many bytes a number has, if n are asked for. -/
def wid (n : Int) : Nat := (min (max n 0) 8).toNat
theorem wid_le (n : Int) : wid n ≤ 8 := by unfold wid; omega

set_option maxHeartbeats 400000 in
theorem nWidth_any (n : Int) (w : World) : Calls Try.prog 92 #[.int .i64 n] w fun e w' => e = .returned (.int .i64 (wid n)) ∧ w = w' := by
  go_enter Try.func92, Try.ntmps92
  go_wp2
  all_goals
    go_ret
    exact ⟨ret_int (by unfold wid; omega), rfl⟩

/-- A writer at block g (of any type: it may be embedded there): its bytes bs, owned by v. -/
structure NW (w : World) (g : Nat) (v : Value) (bs : List Int) : Prop where
  blk : ∃ t, 5 ≠ t ∧ Blk w g t #[v]
  own : Own w 5 .u8 v bs

/-- What a writer's call may turn. -/
def NFoot (g : Nat) (v : Value) (k : Nat) : Prop := k = g ∨ v.ownBlock = some k

/-- What a call of a writer leaves. -/
def NPost (w w' : World) (g : Nat) (v : Value) (bs' : List Int) : Prop :=
  ∃ v', NW w' g v' bs' ∧ (∀ k, v'.ownBlock = some k → v.ownBlock = some k ∨ w.heap.size ≤ k) ∧ Kept (NFoot g v) w w'

theorem NW.lt {w : World} {g : Nat} {v : Value} {bs : List Int} (h : NW w g v bs) : ∀ k, NFoot g v k → k < w.heap.size := by
  rintro k (rfl | hk)
  · obtain ⟨_, _, hb⟩ := h.blk; exact hb.lt
  · exact h.own.lt hk
theorem NW.kept {S : Nat → Prop} {w w' : World} {g : Nat} {v : Value} {bs : List Int} (h : NW w g v bs) (hk : Kept S w w') (hn : ∀ k, NFoot g v k → ¬ S k) : NW w' g v bs :=
  ⟨let ⟨t, ht, hb⟩ := h.blk; ⟨t, ht, hb.kept hk (hn g (.inl rfl))⟩, h.own.kept hk (fun k e => hn k (.inr e))⟩
theorem NW.new (w : World) : NW (w.alloc (.cells #[.slice none 0 0] 47)) w.heap.size (.slice none 0 0) [] := ⟨⟨_, by decide, Blk.new _ _ _⟩, Own.nil _ _ _⟩
/-- A writer that is embedded in a block of type t. -/
theorem NW.at_ (w : World) (t : TypeId) (ht : 5 ≠ t) : NW (w.alloc (.cells #[.slice none 0 0] t)) w.heap.size (.slice none 0 0) [] := ⟨⟨_, ht, Blk.new _ _ _⟩, Own.nil _ _ _⟩

theorem NPost.trans {w w1 w2 : World} {g : Nat} {v v1 : Value} {bs2 : List Int} (hv : ∀ k, v1.ownBlock = some k → v.ownBlock = some k ∨ w.heap.size ≤ k) (hk : Kept (NFoot g v) w w1)
    (h : NPost w1 w2 g v1 bs2) : NPost w w2 g v bs2 := by
  obtain ⟨v2, h2, hv2, hk2⟩ := h
  refine ⟨v2, h2, fun k hk' => ?_, hk.trans hk2 fun i hi hf => ?_⟩
  · rcases hv2 k hk' with e | e
    · exact hv k e
    · exact .inr (Nat.le_trans hk.size e)
  · rcases hf with rfl | hf
    · exact .inl rfl
    · rcases hv i hf with e | e
      · exact .inr e
      · omega
theorem NPost.refl {w : World} {g : Nat} {v : Value} {bs : List Int} (h : NW w g v bs) : NPost w w g v bs := ⟨v, h, fun _ hk => .inl hk, Kept.refl _ _⟩
theorem NPost.mid {w w1 : World} {g : Nat} {v : Value} {bs1 : List Int} (h : NPost w w1 g v bs1) : ∃ v1, NW w1 g v1 bs1 ∧ ∀ w2 bs2, NPost w1 w2 g v1 bs2 → NPost w w2 g v bs2 := by
  obtain ⟨v1, h1, hv, hk⟩ := h
  exact ⟨v1, h1, fun w2 bs2 h2 => NPost.trans hv hk h2⟩
/-- Ahead of a call, new memory was made. -/
theorem NPost.after {w w1 w2 : World} {g : Nat} {v : Value} {bs : List Int} (hf : Fresh w w1) (h : NPost w1 w2 g v bs) : NPost w w2 g v bs := by
  obtain ⟨v2, h2, hv2, hk2⟩ := h
  refine ⟨v2, h2, fun k hk => (hv2 k hk).imp id (fun e => Nat.le_trans hf.size e), ?_⟩
  exact Kept.trans (hf.mono (T := NFoot g v) fun _ _ h => h.elim) hk2 fun _ _ h => h

set_option maxHeartbeats 1600000 in
theorem nRaw_any (g : Nat) (v : Value) (bs : List Int) (P : Option Addr) (m c : Nat) (L : List (List Int)) (w : World) (h : NW w g v bs) (hp : Parts w P m L (NFoot g v)) (hm : m ≤ 4611686018427387904) (hl : bs.length + L.flatten.length ≤ 140737488355328) :
    Calls Try.prog 33 #[.pointer (some ⟨g, 0, none⟩), .slice P m c] w fun e w' => e = .returned (.tuple #[]) ∧ NPost w w' g v (bs ++ L.flatten) := by
  have Hlen := Lib.hid hp.len
  obtain ⟨i0, hi, hz0, hz1, hz2⟩ := info_parts Try.infoByteN
  go_enter Try.func33, Try.ntmps33
  go_wp2_with fail
  go_loopw [10] (fun i wr => ∃ j : Nat, j ≤ m ∧ i = .int .i64 j ∧ NPost w wr g v (bs ++ (L.take j).flatten)) (fun i _ => (m - intOf i).toNat)
  case atStart => exact ⟨0, by omega, by simp, by simpa using NPost.refl h⟩
  case round =>
    obtain ⟨j, hj, rfl, hn⟩ := hrel
    by_cases hlt : j < m
    · obtain ⟨v1, hw1, hv1, hk1⟩ := hn
      obtain ⟨b, o, A, n, cA, rfl, hb, hfb, hc', hr', hA⟩ := hp.at_ j hlt
      have hc := (hk1.cell (p := ⟨b, o + j, none⟩) hb hfb).trans hc'
      have hr := hr'.kept hk1 hA
      have hlj := flat_le (L := L) (j := j) (by rw [Hlen.out]; exact hlt)
      have hft := flat_take (L := L) (j := j) (by rw [Hlen.out]; exact hlt)
      have Hft := Lib.hid hft
      have hlr := hr.len
      have hbd : (bs ++ (L.take j).flatten).length + n ≤ 140737488355328 := by rw [List.length_append, ← hlr]; omega
      obtain ⟨tb, htb, hblk⟩ := hw1.blk
      have c0 := hblk.cell 0
      have f0 := hblk.frozen 0
      simp at c0
      have Hbd := Lib.hid hbd
      clear hc' hr' hft hlr hlj hbd
      go_wp2_with (at_builtin; refine wpList_app _ rfl (.tmp 18) (.tmp 19) 22 rfl 5 i0 .u8 1 Try.underlying22 hi hz0 hz1 hz2 _ _ rfl hw1.own A n cA _ rfl hr (by unfold maxLen; have := Hbd.out; omega) (by have := Hbd.out; omega) ?_)
      intro v2 w2 ho2 hg2 hat2
      have hne := hw1.own.ne_blk hblk htb
      have hb2 : Blk w2 g tb #[v1] := hblk.grown hg2 (fun e => hne e.symm)
      have hne2 : v2.ownBlock ≠ some g := by
        rcases hat2 with e | e
        · rw [e]; exact hne
        · rw [e]; intro e'; injection e' with e'; have := hblk.lt; omega
      have k0 := hb2.cell 0
      have l0 := hb2.frozen 0
      simp at k0
      have hk2 : Kept (NFoot g v1) wr (w2.setCell ⟨g, 0, none⟩ v2) := ((Kept.refl _ _).grown hg2 (fun k e _ => .inr e)).setCell (fun _ => .inl rfl) _
      have hp2 : NPost w (w2.setCell ⟨g, 0, none⟩ v2) g v (bs ++ (L.take (j + 1)).flatten) := by
        refine NPost.trans hv1 hk1 ⟨v2, ⟨⟨tb, htb, by simpa using hb2.set_ 0 v2⟩, ?_⟩, fun k hk => ?_, hk2⟩
        · rw [Hft.out, List.getD_eq_getElem?_getD]
          exact Own.setFar ho2 hne2 _
        · rcases hat2 with e | e
          · rw [e] at hk; exact .inl hk
          · rw [e] at hk; injection hk with hk; exact .inr (by omega)
      obtain ⟨A2, n2, c2, rfl⟩ : ∃ A n c, v2 = .slice A n c := by obtain ⟨A, c, e, _⟩ := ho2.row; exact ⟨A, _, c, e⟩
      have Hp2 := Lib.hid hp2
      clear hp2 hk2 ho2 hg2 hat2 hne hne2 hb2
      go_wp2_with fail
      go_roundw
      case rel => exact ⟨j + 1, by omega, by go_num, Hp2.out⟩
      case measure => simp [intOf]; omega
    · go_wp2_with fail
      obtain rfl : j = m := by omega
      go_end0
      rw [List.take_of_length_le (by rw [Hlen.out]; omega)] at hn
      exact ⟨rfl, hn⟩

set_option maxHeartbeats 400000 in
theorem nRaw_nil (P : Value) (w : World) : Calls Try.prog 33 #[.pointer none, P] w fun e w' => e = .returned (.tuple #[]) ∧ w = w' := by
  go_enter Try.func33, Try.ntmps33
  go_wp2
  refine bodyPost_ret (results_none rfl _ _ _) rfl ?_
  exact ⟨rfl, rfl⟩

/-- Num by sevens: what is left to do is one Raw of its bytes, which are new. -/
def LastRaw (r : Value) (xs : List Int) (w : World) (Q : World → Prop) : Prop :=
  ∀ P w2, Fresh w w2 → Parts w2 P 1 [xs] (fun b => b < w.heap.size) → Calls Try.prog 33 #[r, .slice P 1 1] w2 fun e w' => e = .returned (.tuple #[]) ∧ Q w'

theorem LastRaw.nil (xs : List Int) (w : World) : LastRaw (.pointer none) xs w (fun w' => Fresh w w') := fun P w2 hf _ =>
  (nRaw_nil _ w2).mono fun e w' ⟨he, hw⟩ => ⟨he, by rw [← hw]; exact hf⟩

theorem LastRaw.any (xs : List Int) (w : World) (g : Nat) (v : Value) (bs : List Int) (h : NW w g v bs) (hl : bs.length + xs.length ≤ 140737488355328) : LastRaw (.pointer (some ⟨g, 0, none⟩)) xs w (fun w' => NPost w w' g v (bs ++ xs)) := by
  intro P w2 hf hp
  have hp' : Parts w2 P 1 [xs] (NFoot g v) := ⟨hp.len, fun j hj => by
    obtain ⟨b, o, A, n, c, e, hb, hfb, hc, hr, hA⟩ := hp.at_ j hj
    exact ⟨b, o, A, n, c, e, hb, fun hh => hfb (h.lt _ hh), hc, hr, fun b' o' e' hn hh => hA b' o' e' hn (h.lt _ hh)⟩⟩
  refine (nRaw_any g v bs P 1 1 [xs] w2 (h.kept hf (fun _ _ => id)) hp' (by omega) (by simpa using hl)).mono ?_
  rintro e w' ⟨rfl, hn⟩
  exact ⟨rfl, by simpa using NPost.after hf hn⟩

/-- A slice of an array from its first place on. -/
theorem run_array_to {P : Program} (t e : TypeId) (N : Nat) (ht : P.underlying t = some (.array N e)) (hc : ∀ w, (sizeOf e).run P w = .ok 1 w) (a : Addr) (h : Nat) (k : Int) (hk : k = h) (hN : h ≤ N) (W : World) :
    (Instr.sliceAt t (.pointer (some a)) none (some (.int .i64 k)) none).run P W = .ok (.slice (some a) h N) W := by
  subst hk
  have hl : P.arrayLen t = N := by simp [Program.arrayLen, ht]
  have he : P.elem t = e := by simp [Program.elem, ht]
  rw [run_sliceAt_array_h W t a (by rw [hl, he]; exact ht) .i64 (h : Int) (by omega) (by rw [hl]; omega), he, hl, hc]
  simp [Result.andThen, slicedAt]
  intro e0
  simp [Addr.add]

theorem byte_size (w : World) : (sizeOf 5).run Try.prog w = .ok 1 w := by
  obtain ⟨i0, hi, _, hz1, _⟩ := info_parts Try.infoByteN
  simp [sizeOf, typeInfo, hi, hz1]

/-- The cells of a block, one more of them set. -/
theorem set_all {cs : Array Value} {k : Nat} {f : Nat → Value} {u : Value} (hk : k < cs.size) (h : ∀ i, i < k → cs[i]? = some (f i)) (hu : u = f k) : ∀ i, i < k + 1 → (cs.setIfInBounds k u)[i]? = some (f i) := by
  intro i hi
  by_cases e : i = k
  · subst e; subst hu; simp [hk]
  · rw [Array.getElem?_setIfInBounds_ne (by omega)]; exact h i (by omega)

/-- A block's first cells, as a row. -/
theorem Row.of_blk {w : World} {q : Nat} {t : TypeId} {cs : Array Value} {k : IntKind} {xs : List Int} (hb : Blk w q t cs) (h : ∀ i, i < xs.length → cs[i]? = some (.int k (xs.getD i 0))) : Row w k (some ⟨q, 0, none⟩) xs.length xs :=
  ⟨rfl, fun j hj => ⟨q, 0, rfl, hb.lt, by rw [Nat.zero_add, hb.cell j]; exact h j hj⟩⟩

theorem sev_byte (x : Nat) (hx : x < 18446744073709551616) : bits .or .u8 (bits .and .u64 (x : Int) 127 % 256) 128 = ((x % 128 + 128 : Nat) : Int) := by
  rw [show (127 : Int) = ((127 : Nat) : Int) from rfl, u64_and_nat _ _ hx (by omega), nat_mask7, show (((x % 128 : Nat) : Int) % 256) = ((x % 128 : Nat) : Int) from by omega, show (128 : Int) = ((128 : Nat) : Int) from rfl, u8_or_nat _ _ (by omega) (by omega), Nat.or_comm, nat_join 7 128 (x % 128) (by decide) (by omega), Nat.add_comm]

set_option maxRecDepth 100000 in
set_option maxHeartbeats 1600000 in
theorem nNum_raw (r : Value) (v : Nat) (w : World) (Q : World → Prop) (hv : v < 18446744073709551616) (h : LastRaw r (sv v) w Q) :
    Calls Try.prog 28 #[r, .int .u64 v] w fun e w' => e = .returned (.tuple #[]) ∧ Q w' := by
  have hsz1 := byte_size
  go_enter Try.func28, Try.ntmps28
  go_wp2_with fail
  have hb0 := Blk.new w 84 #[.int .u8 0, .int .u8 0, .int .u8 0, .int .u8 0, .int .u8 0, .int .u8 0, .int .u8 0, .int .u8 0, .int .u8 0, .int .u8 0]
  have hk0 : Fresh w (w.alloc (.cells #[.int .u8 0, .int .u8 0, .int .u8 0, .int .u8 0, .int .u8 0, .int .u8 0, .int .u8 0, .int .u8 0, .int .u8 0, .int .u8 0] 84)) := (Kept.refl _ _).alloc _
  generalize w.alloc (.cells #[.int .u8 0, .int .u8 0, .int .u8 0, .int .u8 0, .int .u8 0, .int .u8 0, .int .u8 0, .int .u8 0, .int .u8 0, .int .u8 0] 84) = w0 at *
  obtain ⟨q, hQ⟩ : ∃ q, q = w.heap.size := ⟨_, rfl⟩
  rw [← hQ] at hb0 ⊢
  have hq : w.heap.size ≤ q := by omega
  clear hQ
  go_loopw [1, 5] (fun x l wr => ∃ k : Nat, k ≤ 9 ∧ l = .int .i64 k ∧ x = .int .u64 (v / 128 ^ k : Nat) ∧ (k = 0 ∨ 128 ^ k ≤ v) ∧ Fresh w wr ∧ ∃ cs, Blk wr q 84 cs ∧ cs.size = 10 ∧ ∀ i, i < k → cs[i]? = some (.int .u8 ((sv v).getD i 0))) (fun x _ _ => (intOf x).toNat)
  case atStart => exact ⟨0, by omega, rfl, by simp, .inl rfl, hk0, _, hb0, rfl, fun i hi => by omega⟩
  case round =>
    obtain ⟨k, hk, rfl, rfl, hpos, hkr, cs, hb, hsz, hall⟩ := hrel
    have hx : v / 128 ^ k < 18446744073709551616 := Nat.lt_of_le_of_lt (Nat.div_le_self _ _) hv
    have hat := sv_at v k
    rw [if_pos (by omega)] at hat
    obtain ⟨u, hu⟩ : ∃ u, wr.cell? ⟨q, k, none⟩ = some u := by
      rw [hb.cell k]
      exact ⟨_, Array.getElem?_eq_getElem (by omega)⟩
    have hfr := hb.frozen k
    have hbyte := sev_byte (v / 128 ^ k) hx
    have hstep : v / 128 ^ (k + 1) = v / 128 ^ k / 128 := by rw [Nat.pow_succ, Nat.div_div_eq_div_mul]
    have h10 : ¬ v / 128 ^ k < 128 → k < 9 := by
      intro hlt
      by_cases e : k = 9
      · subst e; simp at hlt; omega
      · omega
    have Hall := Lib.hid hall
    have Hat := Lib.hid hat
    have Hbyte := Lib.hid hbyte
    have Hstep := Lib.hid hstep
    have Hpos := Lib.hid hpos
    have Hsz := Lib.hid hsz
    have H10 := Lib.hid h10
    clear hall hat hbyte hstep hpos hsz h10
    generalize hX : v / 128 ^ k = X at *
    have HX := Lib.hid hX
    clear hX
    by_cases hlt : X < 128
    · have hsl : ∀ W, (Instr.sliceAt 84 (.pointer (some ⟨q, 0, none⟩)) none (some (.int .i64 ((k : Int) + 1))) none).run Try.prog W = .ok (.slice (some ⟨q, 0, none⟩) (k + 1) 10) W := fun W =>
        run_array_to _ 5 10 Try.underlying84 hsz1 _ _ _ (by omega) (by omega) W
      have hcs := set_all (u := .int .u8 (X : Int)) (f := fun i => .int .u8 ((sv v).getD i 0)) (by rw [Hsz.out]; omega) Hall.out (by
        have := Hat.out
        rw [if_pos hlt] at this
        simp [List.getD, this])
      have hlen : (sv v).length = k + 1 := sv_length v k (by rw [HX.out]; exact hlt) Hpos.out
      have hrow := Row.of_blk (xs := sv v) (hb.set_ k (.int .u8 (X : Int))) (by rw [hlen]; exact hcs)
      rw [hlen] at hrow
      have hk1 : Fresh w (wr.setCell ⟨q, k, none⟩ (.int .u8 (X : Int))) := hkr.setCell (p := ⟨q, k, none⟩) (fun h => by simp at h; omega) _
      have hp := Parts.one (c := 10) (t := 22) (F := fun b => b < w.heap.size) hrow (fun b o e _ => by injection e with e; injection e with e; simp; omega) (by have := hk1.size; simp at this ⊢; omega)
      have hz : (wr.setCell ⟨q, k, none⟩ (.int .u8 (X : Int))).heap.size = wr.heap.size := by simp
      rw [hz] at hp
      have Hp := Lib.hid hp
      have Hk1 := Lib.hid hk1
      clear hp hk1 hz hrow hlen hcs
      go_wp2_with fail
      refine (h _ _ (Hk1.out.alloc _) Hp.out).mono ?_
      rintro e w' ⟨rfl, hQ⟩
      have HQ := Lib.hid hQ
      clear hQ
      go_wp2_with fail
      go_end0
      exact ⟨rfl, HQ.out⟩
    · have hk9 := H10.out hlt
      go_wp2_with fail
      go_roundw
      case rel =>
        refine ⟨k + 1, by omega, by go_num, by rw [Hstep.out]; rfl, .inr ?_, hkr.setCell (p := ⟨q, k, none⟩) (fun h => by simp at h; omega) _, _, hb.set_ k _, by simpa using Hsz.out, ?_⟩
        · have := HX.out
          rw [Nat.pow_succ, Nat.mul_comm]
          exact (Nat.le_div_iff_mul_le (Nat.pow_pos (by omega))).1 (by omega)
        · rw [Hbyte.out]
          exact set_all (f := fun i => .int .u8 ((sv v).getD i 0)) (by rw [Hsz.out]; omega) Hall.out (by
            have := Hat.out
            rw [if_neg hlt] at this
            simp [List.getD, this])
      case measure => simp [intOf]; omega


theorem low_byte (v i : Nat) (hv : v < 18446744073709551616) : bits .and .u64 ((v : Int) / 2 ^ (8 * i)) 255 % 256 = ((v / 256 ^ i % 256 : Nat) : Int) := by
  have e : ((v : Int) / 2 ^ (8 * i)) = ((v / 256 ^ i : Nat) : Int) := by rw [show (256 : Nat) = 2 ^ 8 from rfl, ← Nat.pow_mul]; simp
  have hd : v / 256 ^ i < 18446744073709551616 := Nat.lt_of_le_of_lt (Nat.div_le_self _ _) hv
  rw [e, show (255 : Int) = ((255 : Nat) : Int) from rfl, u64_and_nat _ _ hd (by omega), nat_mask8]
  omega




theorem leBytes_len8 (v : Nat) (n : Int) : (leBytes v (wid n)).length ≤ 8 := by rw [leBytes_length]; exact wid_le n
theorem beBytes_len8 (v : Nat) (n : Int) : (beBytes v (wid n)).length ≤ 8 := by rw [beBytes_length]; exact wid_le n

/- Num, Zig, Little, Big of a writer. -/
theorem nNum_any (g : Nat) (v : Value) (bs : List Int) (x : Nat) (w : World) (h : NW w g v bs) (hx : x < 18446744073709551616) (hl : bs.length ≤ 140000000000000) :
    Calls Try.prog 28 #[.pointer (some ⟨g, 0, none⟩), .int .u64 x] w fun e w' => e = .returned (.tuple #[]) ∧ NPost w w' g v (bs ++ sv x) :=
  nNum_raw _ x w _ hx (LastRaw.any _ w g v bs h (by have := sv_le10 x hx; omega))

set_option maxHeartbeats 800000 in
theorem nText_any (g : Nat) (v : Value) (bs : List Int) (A : Option Addr) (n c : Nat) (xs : List Int) (w : World) (h : NW w g v bs) (hr : Row w .u8 A n xs) (hA : ∀ b o, A = some ⟨b, o, none⟩ → 0 < n → ¬ NFoot g v b) (hl : bs.length + n ≤ 140000000000000) :
    Calls Try.prog 29 #[.pointer (some ⟨g, 0, none⟩), .slice A n c] w fun e w' => e = .returned (.tuple #[]) ∧ NPost w w' g v (bs ++ sv n ++ xs) := by
  go_enter Try.func29, Try.ntmps29
  go_wp2_with fail
  refine (nNum_any g v bs n _ h (by omega) (by omega)).mono ?_
  rintro e w1 ⟨rfl, v1, hw1, hv1, hk1⟩
  have hlr := hr.len
  have h10 := sv_le10 n (by omega)
  have hr1 := hr.kept hk1 hA
  have hbb : ∀ b o, A = some ⟨b, o, none⟩ → 0 < n → b < w.heap.size ∧ ¬ NFoot g v1 b := by
    intro b o e hn
    obtain ⟨b', o', e', hb, _⟩ := hr.at_ 0 hn
    rw [e] at e'
    injection e' with e'
    injection e' with e'
    subst e'
    refine ⟨hb, ?_⟩
    rintro (e' | e')
    · exact hA _ _ e hn (.inl e')
    · rcases hv1 _ e' with e2 | e2
      · exact hA _ _ e hn (.inr e2)
      · omega
  have hp := Parts.one (c := c) (t := 22) (F := NFoot g v1) hr1 (fun b o e hn => (hbb b o e hn).2) (fun hf => by have := hw1.lt _ hf; omega)
  have hkA : Fresh w1 (w1.alloc (.cells #[.slice A n c] 22)) := (Kept.refl _ _).alloc _
  have hraw := nRaw_any g v1 (bs ++ sv n) (some ⟨w1.heap.size, 0, none⟩) 1 1 [xs] _ (hw1.kept hkA (fun _ _ => id)) hp (by omega) (by simp; omega)
  have Hraw := Lib.hid hraw
  have HkA := Lib.hid hkA
  clear hraw hkA hp hbb hr1 h10 hlr
  go_wp2_with fail
  refine Hraw.out.mono ?_
  rintro e w2 ⟨rfl, hn⟩
  have hQ := NPost.trans hv1 hk1 (NPost.after HkA.out hn)
  have HQ := Lib.hid hQ
  clear hQ hn
  go_wp2_with fail
  go_end0
  exact ⟨rfl, by simpa using HQ.out⟩

set_option maxHeartbeats 800000 in
theorem nText_nil (A : Option Addr) (n c : Nat) (w : World) (hl : n ≤ maxLen) :
    Calls Try.prog 29 #[.pointer none, .slice A n c] w fun e w' => e = .returned (.tuple #[]) ∧ Fresh w w' := by
  unfold maxLen at hl
  go_enter Try.func29, Try.ntmps29
  go_wp2_with fail
  refine (nNum_raw _ n _ _ (by omega) (LastRaw.nil (sv n) w)).mono ?_
  rintro e w1 ⟨rfl, hf⟩
  go_wp2_with fail
  refine (nRaw_nil _ _).mono ?_
  rintro e w2 ⟨rfl, rfl⟩
  go_wp2_with fail
  go_end0
  exact ⟨rfl, hf.alloc _⟩

set_option maxHeartbeats 400000 in
theorem nBytes_nil (w : World) : Calls Try.prog 19 #[.pointer none] w fun e w' => e = .returned (.slice none 0 0) ∧ w = w' := by
  go_enter Try.func19, Try.ntmps19
  go_wp2
  go_ret
  exact ⟨rfl, rfl⟩

set_option maxHeartbeats 800000 in
theorem nBytes_any (g : Nat) (v : Value) (bs : List Int) (w : World) (h : NW w g v bs) (hn : bs.length ≤ 140737488355328) :
    Calls Try.prog 19 #[.pointer (some ⟨g, 0, none⟩)] w fun e w' => ∃ u, e = .returned u ∧ NewRow w w' 5 .u8 u bs := by
  obtain ⟨_, _, hblk⟩ := h.blk
  have c0 := hblk.cell 0
  simp at c0
  obtain ⟨A, c, rfl, hr, _⟩ := h.own.row
  obtain ⟨i0, hi, hz0, hz1, hz2⟩ := info_parts Try.infoByteN
  clear h
  go_enter Try.func19, Try.ntmps19
  go_wp2_with (at_builtin; refine wpList_app _ rfl _ _ 22 rfl 5 i0 .u8 1 Try.underlying22 hi hz0 hz1 hz2 (.slice none 0 0) [] rfl (Own.nil _ _ _) A bs.length c bs rfl hr (by unfold maxLen; simp; omega) (by simp; omega) ?_)
  intro v' w' hown hg hat
  go_wp2
  go_ret
  refine ⟨v', rfl, by simpa using hown, fun k hk => ?_, (Kept.refl _ _).grown hg (fun k e _ => by cases e)⟩
  rcases hat with e | e
  · rw [e] at hk; cases hk
  · rw [e] at hk; injection hk with hk; omega

end Go.Proofs.Ythfifpapkknodaa

/- The contracts of num.Reader. -/
namespace Go.Proofs.Ythfifpapkknodaa
open Go.RowKit

/-- A number joined by 'or' from sevens. -/
theorem or_seven (acc c i : Nat) (hi : i ≤ 9) (hc : c < 256) (ha : acc < 128 ^ i) (h9 : i = 9 → c ≤ 1) :
    bits .or .u64 (acc : Int) (IntKind.u64.wrap (IntKind.u64.wrap (bits .and .u8 (c : Int) 127) * 2 ^ (7 * i))) = ((acc + c % 128 * 128 ^ i : Nat) : Int) := by
  have e1 : IntKind.u64.wrap (bits .and .u8 (c : Int) 127) = ((c % 128 : Nat) : Int) := by
    rw [show (127 : Int) = ((127 : Nat) : Int) from rfl, u8_and_nat _ _ hc (by omega), nat_mask7, IntKind.wrap_u64]
    omega
  have e2 : (2 : Nat) ^ (7 * i) = 128 ^ i := by rw [Nat.pow_mul]
  have hlt : c % 128 * 128 ^ i < 18446744073709551616 := by
    by_cases e : i = 9
    · have := h9 e; subst e; simp; omega
    · have h8 : 128 ^ i ≤ 128 ^ 8 := Nat.pow_le_pow_right (by omega) (by omega)
      have := Nat.mul_le_mul (show c % 128 ≤ 127 by omega) h8
      omega
  have e3 : IntKind.u64.wrap (((c % 128 : Nat) : Int) * 2 ^ (7 * i)) = ((c % 128 * 128 ^ i : Nat) : Int) := by
    have : (((c % 128 : Nat) : Int) * 2 ^ (7 * i)) = ((c % 128 * 128 ^ i : Nat) : Int) := by rw [← e2]; simp
    rw [this, IntKind.wrap_u64]
    omega
  have ha2 : acc < 18446744073709551616 := Nat.lt_of_lt_of_le ha (Nat.le_trans (Nat.pow_le_pow_right (by omega) hi) (by decide))
  rw [e1, e3, u64_or_nat _ _ ha2 hlt, Nat.or_comm, nat_join (7 * i) (c % 128 * 128 ^ i) acc (by rw [e2]; exact Nat.mul_mod_left _ _) (by rw [e2]; exact ha), Nat.add_comm]

theorem rd_cons (i acc : Nat) (c : Int) (r : List Int) : rd i acc (c :: r) = if i = 9 ∧ 1 < c then (0, 0, 4) else if c = 0 ∧ 0 < i then (0, 0, 4) else
    if c < 128 then (acc + c.toNat % 128 * 128 ^ i, i + 1, 0) else rd (i + 1) (acc + c.toNat % 128 * 128 ^ i) r := rfl

/-- Behind the bytes that were read, the rest. -/
def RdEnd (w : World) (r : Nat × Nat × Int) (e : Ending) (w' : World) : Prop := e = .returned (.tuple #[.int .u64 r.1, .int .i64 r.2.1, .int .i64 r.2.2]) ∧ w = w'

theorem rd_take (xs : List Int) (h : ∀ c ∈ xs, 0 ≤ c ∧ c < 256) : ∀ (i acc : Nat), i ≤ 9 → rd i acc (xs.take (10 - i)) = rd i acc xs := by
  induction xs with
  | nil => intro i acc _; simp
  | cons c r ih =>
    intro i acc hi
    rw [show 10 - i = 9 - i + 1 from by omega, List.take_succ_cons, rd, rd]
    have hc := h c (by simp)
    split
    · rfl
    split
    · rfl
    split
    · rfl
    · rename_i h1 h2 h3
      have : i ≠ 9 := by rintro rfl; apply h1; omega
      have := ih (fun c hc => h c (by simp [hc])) (i + 1) (acc + c.toNat % 128 * 128 ^ i) (by omega)
      rw [show 9 - i = 10 - (i + 1) from by omega]
      exact this

theorem getD_mem {xs : List Int} {k : Nat} (h : k < xs.length) : xs.getD k 0 ∈ xs := by
  rw [List.getD_eq_getElem?_getD, List.getElem?_eq_getElem h]; exact List.getElem_mem _
theorem drop_cons {xs : List Int} {k : Nat} (h : k < xs.length) : xs.drop k = xs.getD k 0 :: xs.drop (k + 1) := by
  rw [List.drop_eq_getElem_cons h, List.getD_eq_getElem?_getD, List.getElem?_eq_getElem h]; rfl

/-- A slice's beginning. -/
theorem run_slice_to {P : Program} (t e : TypeId) (ht : P.underlying t = some (.slice e)) (hc : ∀ w, (sizeOf e).run P w = .ok 1 w) (A : Option Addr) (n c h : Nat) (k : Int) (hk : k = h) (hh : h ≤ c) (W : World) :
    (Instr.slice t (.slice A n c) none (some (.int .i64 k)) none).run P W = .ok (.slice A h c) W := by
  subst hk
  have he : P.elem t = e := by simp [Program.elem, ht]
  rw [run_slice_h W t A n c (by rw [he]; exact ht) .i64 (h : Int) (by omega) (by omega), he, hc]
  rcases A with _ | a
  · simp [Result.andThen, sliced]
  · simp [Result.andThen, sliced, Addr.add]

set_option maxRecDepth 100000 in
set_option maxHeartbeats 3200000 in
theorem nSevens_any (A : Option Addr) (n c : Nat) (xs : List Int) (w : World) (hr : Row w .u8 A n xs) (hb : ∀ c ∈ xs, 0 ≤ c ∧ c < 256) (hc : n ≤ c) (hn : n ≤ 140737488355328) :
    Calls Try.prog 84 #[.slice A n c] w (RdEnd w (rd 0 0 xs)) := by
  have Hr := Lib.hid hr
  have hlen := hr.len
  have Hlen := Lib.hid hlen
  obtain ⟨m, hm⟩ : ∃ m : Nat, min (n : Int) 10 = m := ⟨(min (n : Int) 10).toNat, by omega⟩
  have hmn : m ≤ n := by omega
  have hm10 : m ≤ 10 := by omega
  have hsl : ∀ W, (Instr.slice 22 (.slice A n c) none (some (.int .i64 (min (n : Int) 10))) none).run Try.prog W = .ok (.slice A m c) W := fun W =>
    run_slice_to _ _ Try.underlying22 byte_size A n c m _ hm (by omega) W
  obtain ⟨R, hR⟩ : ∃ R, R = rd 0 0 xs := ⟨_, rfl⟩
  rw [← hR]
  have HR := Lib.hid hR
  have Hm := Lib.hid hm
  have Hb := Lib.hid hb
  clear hm hr hlen hb hR
  go_enter Try.func84, Try.ntmps84
  go_wp2_with fail
  go_loop [2, 13] (fun v i => ∃ k acc : Nat, k ≤ m ∧ k ≤ 9 ∧ i = .int .i64 k ∧ v = .int .u64 acc ∧ acc < 128 ^ k ∧ R = rd k acc (xs.drop k)) (fun _ i => (m - intOf i).toNat)
  case atStart => exact ⟨0, 0, by omega, by omega, rfl, rfl, by simp, by simpa using HR.out⟩
  case round =>
    obtain ⟨k, acc, hkm, hk9, rfl, rfl, hacc, hrd⟩ := hrel
    by_cases hlt : k < m
    · obtain ⟨b, o, rfl, hbl, hcell⟩ := Hr.out.at_ k (by omega)
      have hdrop := drop_cons (xs := xs) (k := k) (by rw [Hlen.out]; omega)
      have hbd := Hb.out (xs.getD k 0) (getD_mem (by rw [Hlen.out]; omega))
      rw [hdrop] at hrd
      generalize xs.getD k 0 = cc at *
      obtain ⟨x, rfl⟩ := Int.eq_ofNat_of_zero_le hbd.1
      have hx : x < 256 := by omega
      rw [rd_cons, Int.toNat_natCast] at hrd
      have Hacc := Lib.hid hacc
      clear hdrop hbd hacc
      by_cases h1 : k = 9 ∧ (1 : Int) < (x : Int)
      · rw [if_pos h1] at hrd
        have Hrd := Lib.hid hrd
        clear hrd
        obtain ⟨rfl, h1x⟩ := h1
        go_wp2_with fail
        refine bodyPost_ret (v := .tuple #[.int .u64 0, .int .i64 0, .int .i64 4]) (by simp [results, Try.results84, go_sem]) rfl ?_
        rw [Hrd.out]
        exact ⟨rfl, rfl⟩
      · rw [if_neg h1] at hrd
        by_cases h2 : (x : Int) = 0 ∧ 0 < k
        · rw [if_pos h2] at hrd
          have Hrd := Lib.hid hrd
          have hx1 : ¬ (1 : Int) < (x : Int) := by omega
          have hx0 : ((x : Int) == 0) = true := by simp; omega
          have hk0 : (0 : Int) < k := by omega
          clear hrd h1 h2
          go_wp2_with fail
          all_goals
            refine bodyPost_ret (v := .tuple #[.int .u64 0, .int .i64 0, .int .i64 4]) (by simp [results, Try.results84, go_sem]) rfl ?_
            rw [Hrd.out]
            exact ⟨rfl, rfl⟩
        · rw [if_neg h2] at hrd
          have hor := or_seven acc x k hk9 hx Hacc.out (fun h => by omega)
          have Hor := Lib.hid hor
          have hbound : (x : Int) < 128 ∨ (k < 9 ∧ acc + x % 128 * 128 ^ k < 128 ^ (k + 1)) := by
            by_cases h3 : (x : Int) < 128
            · exact .inl h3
            · refine .inr ⟨by omega, ?_⟩
              have := Hacc.out
              have := Nat.mul_le_mul_right (128 ^ k) (show x % 128 ≤ 127 by omega)
              rw [Nat.pow_succ]; omega
          have Hbound := Lib.hid hbound
          have h9' : (((k : Int) == 9) = false) ∨ (((k : Int) == 9) = true ∧ ¬ (1 : Int) < (x : Int)) := by
            by_cases e : k = 9
            · exact .inr ⟨by simp; omega, by omega⟩
            · exact .inl (by simp; omega)
          have h0' : (((x : Int) == 0) = false) ∨ (((x : Int) == 0) = true ∧ ¬ (0 : Int) < (k : Int)) := by
            by_cases e : x = 0
            · exact .inr ⟨by simp; omega, by omega⟩
            · exact .inl (by simp; omega)
          clear hor hbound h1 h2
          by_cases h3 : (x : Int) < 128
          · rw [if_pos h3] at hrd
            have Hrd := Lib.hid hrd
            clear hrd
            rcases h9' with hb9 | ⟨hb9, hx1⟩ <;> rcases h0' with hx0 | ⟨hx0, hk0⟩
            all_goals
              go_wp2_with fail
              refine bodyPost_ret (v := .tuple #[.int .u64 (acc + x % 128 * 128 ^ k : Nat), .int .i64 (k + 1 : Nat), .int .i64 0]) (by simp only [results, Try.results84, go_sem, Hor.out]; simp) rfl ?_
              rw [Hrd.out]
              exact ⟨rfl, rfl⟩
          · rw [if_neg h3] at hrd
            have Hrd := Lib.hid hrd
            clear hrd
            have hb9 : ((k : Int) == 9) = false := by have := Hbound.out; simp; omega
            have hx0 : ((x : Int) == 0) = false := by simp; omega
            clear h9' h0'
            go_wp2_with fail
            go_round
            case rel => exact ⟨k + 1, acc + x % 128 * 128 ^ k, by omega, by have := Hbound.out; omega, by go_num, by rw [Hor.out], by have := Hbound.out; omega, Hrd.out⟩
            case measure => simp [intOf]; omega
    · obtain rfl : k = m := by omega
      have : xs.drop k = [] := List.drop_eq_nil_of_le (by rw [Hlen.out]; have := Hm.out; omega)
      rw [this] at hrd
      have Hrd := Lib.hid hrd
      clear hrd this
      go_wp2_with fail
      refine bodyPost_ret (v := .tuple #[.int .u64 0, .int .i64 0, .int .i64 3]) (by simp [results, Try.results84, go_sem]) rfl ?_
      rw [Hrd.out]
      exact ⟨rfl, rfl⟩

end Go.Proofs.Ythfifpapkknodaa
