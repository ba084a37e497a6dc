/- The document's Pnm. -/
import Derived.Test.YtlmhodkdcllcjaaPicP
import Derived.BigRegion
namespace Go.Proofs.Ytlmhodkdcllcjaa
open Go.RowKit
set_option maxRecDepth 100000

attribute [local go_sem ↓] Go.wp_at_zero Go.wp_at_succ

theorem chn_none {l : List Int} {k : Nat} (h : chn l k = none) : ∀ m, k ≤ m → chn l m = none
  | 0, hm => by rw [← show k = 0 by omega]; exact h
  | m + 1, hm => by
    by_cases e : k = m + 1
    · rw [← e]; exact h
    · have ih := chn_none h m (by omega)
      rw [chn, ih]
/-- The three numbers' cells. -/
def c3 (vs : List Nat) : Array Value := #[.int .i64 (vs.getD 0 0 : Nat), .int .i64 (vs.getD 1 0 : Nat), .int .i64 (vs.getD 2 0 : Nat)]
theorem c3_set {vs : List Nat} {k v : Nat} (hl : vs.length = k) (hk : k < 3) : (c3 vs).setIfInBounds k (.int .i64 (v : Nat)) = c3 (vs ++ [v]) := by
  subst hl
  rcases vs with _ | ⟨a, _ | ⟨b, _ | ⟨c, r⟩⟩⟩
  · rfl
  · rfl
  · rfl
  · simp at hk; omega
/-- Amid the head. -/
structure PnS (w : World) (vs : List Nat) (pl : Nat) (wr : World) : Prop where
  res : Blk wr w.heap.size 26 #[.int .i64 0, .int .i64 0, .int .i64 0, .int .i64 0, .int .i64 0]
  pic : Blk wr (w.heap.size + 1) 26 #[.int .i64 0, .int .i64 0, .int .i64 pl, .int .i64 0, .int .i64 0]
  arr : Blk wr (w.heap.size + 2) 48 (c3 vs)
  fr : Fresh w wr
structure PnS' (w : World) (_ : Nat) (wr : World) : Prop where
  res : Blk wr w.heap.size 26 #[.int .i64 0, .int .i64 0, .int .i64 0, .int .i64 0, .int .i64 0]
  fr : Fresh w wr
theorem PnS.fresh {w wr V : World} {vs : List Nat} {pl : Nat} (h : PnS w vs pl wr) (hf : Fresh wr V) : PnS w vs pl V := ⟨h.res.kept hf id, h.pic.kept hf id, h.arr.kept hf id, h.fr.trans hf fun _ _ e => e⟩

theorem pns1 (w : World) (pl : Nat) : PnS w [] pl (((w.alloc (.cells #[.int .i64 0, .int .i64 0, .int .i64 0, .int .i64 0, .int .i64 0] 26)).alloc (.cells #[.int .i64 0, .int .i64 0, .int .i64 pl, .int .i64 0, .int .i64 0] 26)).alloc (.cells #[.int .i64 0, .int .i64 0, .int .i64 0] 48)) := by
  refine ⟨((Blk.new _ _ _).alloc _).alloc _, ?_, ?_, (((Kept.refl _ _).alloc _).alloc _).alloc _⟩
  · have := Blk.new (w.alloc (.cells #[.int .i64 0, .int .i64 0, .int .i64 0, .int .i64 0, .int .i64 0] 26)) 26 #[.int .i64 0, .int .i64 0, .int .i64 pl, .int .i64 0, .int .i64 0]
    rw [World.size_alloc] at this
    exact this.alloc _
  · have := Blk.new ((w.alloc (.cells #[.int .i64 0, .int .i64 0, .int .i64 0, .int .i64 0, .int .i64 0] 26)).alloc (.cells #[.int .i64 0, .int .i64 0, .int .i64 pl, .int .i64 0, .int .i64 0] 26)) 48 #[.int .i64 0, .int .i64 0, .int .i64 0]
    rw [World.size_alloc, World.size_alloc] at this
    exact this

/-- At the end of the head. -/
structure PnF (w : World) (a b pl s f : Nat) (W : World) : Prop where
  res : Blk W w.heap.size 26 #[.int .i64 0, .int .i64 0, .int .i64 0, .int .i64 0, .int .i64 0]
  pic : Blk W (w.heap.size + 1) 26 #[.int .i64 a, .int .i64 b, .int .i64 pl, .int .i64 s, .int .i64 f]
  fr : Fresh w W
theorem set5 {w W : World} (h : Fresh w W) (a b c d e : Value) : Fresh w (((((W.setCell ⟨w.heap.size, 0, none⟩ a).setCell ⟨w.heap.size, 1, none⟩ b).setCell ⟨w.heap.size, 2, none⟩ c).setCell ⟨w.heap.size, 3, none⟩ d).setCell ⟨w.heap.size, 4, none⟩ e) :=
  ((((h.setCell (p := ⟨w.heap.size, 0, none⟩) (fun e => absurd e (Nat.lt_irrefl _)) a).setCell (p := ⟨w.heap.size, 1, none⟩) (fun e => absurd e (Nat.lt_irrefl _)) b).setCell (p := ⟨w.heap.size, 2, none⟩) (fun e => absurd e (Nat.lt_irrefl _)) c).setCell (p := ⟨w.heap.size, 3, none⟩) (fun e => absurd e (Nat.lt_irrefl _)) d).setCell (p := ⟨w.heap.size, 4, none⟩) (fun e => absurd e (Nat.lt_irrefl _)) e
theorem c3_get (vs : List Nat) {k : Nat} (hk : k < 3) : (c3 vs)[k]? = some (.int .i64 (vs.getD k 0 : Nat)) := by
  rcases (show k = 0 ∨ k = 1 ∨ k = 2 by omega) with rfl | rfl | rfl <;> rfl

set_option maxHeartbeats 6400000 in
theorem qPnmIn_any (A : Option Addr) (n c : Nat) (l : List Int) (w : World) (hr : Row w .u8 A n l) (h8 : B8 l) (hn : n ≤ 1000000000) (hh : hdP l) :
    Calls Try.prog 12 #[.slice A n c] w fun e w' => e = .returned (.tuple #[pval (pnmP l), .bool (pnmP l).isSome]) ∧ Fresh w w' := by
  obtain rfl := hr.len
  obtain ⟨hl2, h0, h1⟩ := hh
  obtain ⟨b, o, rfl, hb, hc⟩ := hr.at_ 0 (by omega)
  obtain ⟨b', o', eA, _, hc1⟩ := hr.at_ 1 (by omega)
  injection eA with eA
  injection eA with e1 e2
  subst e1 e2
  rw [h0, Nat.add_zero] at hc
  have l0 : ¬ (l.length : Int) < 2 := by omega
  have i0 : (0 : Int) < (l.length : Int) := by omega
  have i1 : (1 : Int) < (l.length : Int) := by omega
  obtain ⟨pl, hpl⟩ : ∃ pl, pl = plnP l := ⟨_, rfl⟩
  have hpc : (l.getD 1 0 = 53 ∧ pl = 1) ∨ (l.getD 1 0 = 54 ∧ pl = 3) := by
    unfold plnP at hpl
    rcases h1 with h | h
    · rw [h] at hpl; exact .inl ⟨h, hpl⟩
    · rw [h] at hpl; exact .inr ⟨h, hpl⟩
  have HP : Hid (pnmP l = match chn l 3 with
    | none => none
    | some r => if r.2 < l.length ∧ blk (l.getD r.2 0) ∧ 1 ≤ r.1.getD 2 0 ∧ r.1.getD 2 0 ≤ 255 then pnmR (r.1.getD 0 0) (r.1.getD 1 0) pl (r.2 + 1) l.length else none) := Lib.hid (by rw [hpl]; unfold pnmP; rw [if_pos ⟨hl2, h0, h1⟩]; rfl)
  have HR := Lib.hid (And.intro hr h8)
  have hc0' : ∀ V, Fresh w V → V.cell? ⟨b, o + 1, none⟩ = some (.int .u8 (l.getD 1 0)) := fun V hV => (hV.cell (p := ⟨b, o + 1, none⟩) hb id).trans hc1
  clear hr h8 hpl h1
  rcases hpc with ⟨hx, hp3⟩ | ⟨hx, hp3⟩
  all_goals
    rw [hx] at hc1 hc0'
    go_enter Try.func12, Try.ntmps12
    go_wp2_with fail
    have Hp3 := Lib.hid hp3
    clear hp3
    go_loopw [6, 7] (fun a i wr => ∃ k : Nat, ∃ r : List Nat × Nat, k ≤ 3 ∧ i = .int .i64 (k : Int) ∧ a = .int .i64 (r.2 : Int) ∧ chn l k = some r ∧ PnS w r.1 pl wr) (fun _ i _ => (3 - intOf i).toNat)
    case atStart => exact ⟨0, ([], 2), by omega, rfl, rfl, rfl, by have hp3 := Hp3.out; subst hp3; exact pns1 w _⟩
    case round =>
      obtain ⟨k, r, hk, rfl, rfl, hch, hS⟩ := hrel
      obtain ⟨vs, j⟩ := r
      simp only [] at *
      obtain ⟨hvl, hv5, hj2, hjl⟩ := chn_len hch
      have hjl : j ≤ l.length := by
        rcases Nat.eq_zero_or_pos k with e | e
        · subst e
          injection hch with hch
          injection hch with _ e2
          omega
        · exact hjl e
      have HW := Lib.hid (qWhite_any (some ⟨b, o, none⟩) l.length c l j wr (HR.out.1.kept hS.fr (fun _ _ _ _ => id)) HR.out.2 hn hjl)
      have HS := Lib.hid (And.intro hS hch)
      by_cases hlt : k < 3
      · have ik : (k : Int) < 3 := by omega
        have hck : chn l (k + 1) = match tok l j with
          | none => none
          | some t => some (vs ++ [t.1], t.2) := by rw [chn, hch]; rfl
        have Hck := Lib.hid hck
        clear hS hch hck
        go_wp2_with fail
        refine HW.out.mono ?_
        rintro e w1 ⟨rfl, hf1⟩
        have h1S := HS.out.1.fresh hf1
        by_cases hw0 : whi l j j < 0
        · have hno : chn l (k + 1) = none := by rw [Hck.out]; unfold tok; rw [if_pos hw0]
          have HQ : Hid (pnmP l = none) := Lib.hid (by rw [HP.out, chn_none hno 3 (by omega)])
          have H1 := Lib.hid h1S
          clear h1S hf1 HW
          generalize whi l j j = wj at *
          have rz0 : w1.cell? ⟨w.heap.size, 0, none⟩ = some (.int .i64 0) := (H1.out.res.cell 0).trans rfl
          have rzf0 : w1.frozen? ⟨w.heap.size, 0, none⟩ = false := H1.out.res.frozen 0
          have rz1 : w1.cell? ⟨w.heap.size, 1, none⟩ = some (.int .i64 0) := (H1.out.res.cell 1).trans rfl
          have rzf1 : w1.frozen? ⟨w.heap.size, 1, none⟩ = false := H1.out.res.frozen 1
          have rz2 : w1.cell? ⟨w.heap.size, 2, none⟩ = some (.int .i64 0) := (H1.out.res.cell 2).trans rfl
          have rzf2 : w1.frozen? ⟨w.heap.size, 2, none⟩ = false := H1.out.res.frozen 2
          have rz3 : w1.cell? ⟨w.heap.size, 3, none⟩ = some (.int .i64 0) := (H1.out.res.cell 3).trans rfl
          have rzf3 : w1.frozen? ⟨w.heap.size, 3, none⟩ = false := H1.out.res.frozen 3
          have rz4 : w1.cell? ⟨w.heap.size, 4, none⟩ = some (.int .i64 0) := (H1.out.res.cell 4).trans rfl
          have rzf4 : w1.frozen? ⟨w.heap.size, 4, none⟩ = false := H1.out.res.frozen 4
          go_wp2_with fail
          refine bodyPost_ret (v := .tuple #[pval none, .bool false]) (by simp [results, Try.f12, go_sem, pval, rz0, rz1, rz2, rz3, rz4]) rfl ?_
          exact ⟨by rw [HQ.out]; rfl, set5 H1.out.fr _ _ _ _ _⟩
        · obtain ⟨jw, hjw⟩ : ∃ jw : Nat, whi l j j = jw := ⟨(whi l j j).toNat, by omega⟩
          have hwin := whi_in l j j (Nat.le_refl _)
          have hjl2 : j ≤ jw ∧ jw < l.length := by omega
          have HN := Lib.hid (qNumber_any (some ⟨b, o, none⟩) l.length c l jw w1 (HR.out.1.kept h1S.fr (fun _ _ _ _ => id)) HR.out.2 hn (by omega))
          have Htk : Hid (tok l j = if (numP l jw).2 < 0 then none else some ((numP l jw).1.toNat, (numP l jw).2.toNat)) := Lib.hid (by unfold tok; rw [if_neg hw0, hjw, Int.toNat_natCast])
          have hnin := fun h => numP_in (l := l) (i := jw) (by omega) h
          have jw0 : ¬ (jw : Int) < 0 := by omega
          have H1 := Lib.hid h1S
          rw [hjw]
          clear h1S hf1 HW hw0 hjw hwin
          go_wp2_with fail
          refine HN.out.mono ?_
          rintro e w2 ⟨rfl, hf2⟩
          have h2S := H1.out.fresh hf2
          have ca : w2.cell? ⟨w.heap.size + 1 + 1, k, none⟩ = some (.int .i64 (vs.getD k 0 : Nat)) := (h2S.arr.cell k).trans (c3_get vs hlt)
          have fa : w2.frozen? ⟨w.heap.size + 1 + 1, k, none⟩ = false := h2S.arr.frozen k
          have H2 := Lib.hid h2S
          clear h2S hf2 HN H1
          by_cases hn0 : (numP l jw).2 < 0
          · have hno : chn l (k + 1) = none := by rw [Hck.out, Htk.out, if_pos hn0]
            have HQ : Hid (pnmP l = none) := Lib.hid (by rw [HP.out, chn_none hno 3 (by omega)])
            have H3 : Hid (∀ v : Value, PnS' w pl (w2.setCell ⟨w.heap.size + 1 + 1, k, none⟩ v)) := Lib.hid fun v => ⟨H2.out.res.far (p := ⟨w.heap.size + 1 + 1, k, none⟩) (show w.heap.size ≠ w.heap.size + 1 + 1 by omega) v, H2.out.fr.setCell (p := ⟨w.heap.size + 1 + 1, k, none⟩) (fun e => by simp at e; omega) v⟩
            clear hnin
            generalize (numP l jw).2 = n2 at *
            generalize (numP l jw).1 = n1 at *
            have rz0 : (w2.setCell ⟨w.heap.size + 1 + 1, k, none⟩ (.int .i64 n1)).cell? ⟨w.heap.size, 0, none⟩ = some (.int .i64 0) := ((H3.out (.int .i64 n1)).res.cell 0).trans rfl
            have rzf0 : (w2.setCell ⟨w.heap.size + 1 + 1, k, none⟩ (.int .i64 n1)).frozen? ⟨w.heap.size, 0, none⟩ = false := (H3.out (.int .i64 n1)).res.frozen 0
            have rz1 : (w2.setCell ⟨w.heap.size + 1 + 1, k, none⟩ (.int .i64 n1)).cell? ⟨w.heap.size, 1, none⟩ = some (.int .i64 0) := ((H3.out (.int .i64 n1)).res.cell 1).trans rfl
            have rzf1 : (w2.setCell ⟨w.heap.size + 1 + 1, k, none⟩ (.int .i64 n1)).frozen? ⟨w.heap.size, 1, none⟩ = false := (H3.out (.int .i64 n1)).res.frozen 1
            have rz2 : (w2.setCell ⟨w.heap.size + 1 + 1, k, none⟩ (.int .i64 n1)).cell? ⟨w.heap.size, 2, none⟩ = some (.int .i64 0) := ((H3.out (.int .i64 n1)).res.cell 2).trans rfl
            have rzf2 : (w2.setCell ⟨w.heap.size + 1 + 1, k, none⟩ (.int .i64 n1)).frozen? ⟨w.heap.size, 2, none⟩ = false := (H3.out (.int .i64 n1)).res.frozen 2
            have rz3 : (w2.setCell ⟨w.heap.size + 1 + 1, k, none⟩ (.int .i64 n1)).cell? ⟨w.heap.size, 3, none⟩ = some (.int .i64 0) := ((H3.out (.int .i64 n1)).res.cell 3).trans rfl
            have rzf3 : (w2.setCell ⟨w.heap.size + 1 + 1, k, none⟩ (.int .i64 n1)).frozen? ⟨w.heap.size, 3, none⟩ = false := (H3.out (.int .i64 n1)).res.frozen 3
            have rz4 : (w2.setCell ⟨w.heap.size + 1 + 1, k, none⟩ (.int .i64 n1)).cell? ⟨w.heap.size, 4, none⟩ = some (.int .i64 0) := ((H3.out (.int .i64 n1)).res.cell 4).trans rfl
            have rzf4 : (w2.setCell ⟨w.heap.size + 1 + 1, k, none⟩ (.int .i64 n1)).frozen? ⟨w.heap.size, 4, none⟩ = false := (H3.out (.int .i64 n1)).res.frozen 4
            go_wp2_with fail
            refine bodyPost_ret (v := .tuple #[pval none, .bool false]) (by simp [results, Try.f12, go_sem, pval, rz0, rz1, rz2, rz3, rz4]) rfl ?_
            exact ⟨by rw [HQ.out]; rfl, set5 (H3.out (.int .i64 n1)).fr _ _ _ _ _⟩
          · obtain ⟨p1, p2, p3, p4⟩ := hnin (by omega)
            obtain ⟨v, hv⟩ : ∃ v : Nat, (numP l jw).1 = v := ⟨(numP l jw).1.toNat, by omega⟩
            obtain ⟨z, hz⟩ : ∃ z : Nat, (numP l jw).2 = z := ⟨(numP l jw).2.toNat, by omega⟩
            have hnx : chn l (k + 1) = some (vs ++ [v], z) := by rw [Hck.out, Htk.out, if_neg hn0, hv, hz, Int.toNat_natCast, Int.toNat_natCast]
            have z0 : ¬ (z : Int) < 0 := by omega
            rw [hv, hz]
            have H3 : Hid (PnS w (vs ++ [v]) pl (w2.setCell ⟨w.heap.size + 1 + 1, k, none⟩ (.int .i64 v))) := Lib.hid ⟨H2.out.res.far (p := ⟨w.heap.size + 1 + 1, k, none⟩) (show w.heap.size ≠ w.heap.size + 1 + 1 by omega) _, H2.out.pic.far (p := ⟨w.heap.size + 1 + 1, k, none⟩) (show w.heap.size + 1 ≠ w.heap.size + 1 + 1 by omega) _, by
              have := H2.out.arr.set_ k (.int .i64 (v : Nat))
              rw [c3_set hvl hlt] at this
              exact this, H2.out.fr.setCell (p := ⟨w.heap.size + 1 + 1, k, none⟩) (fun e => by simp at e; omega) _⟩
            have Hnx := Lib.hid hnx
            clear hnin hn0 hv hz p1 p2 p3 p4 hnx Htk
            go_wp2_with fail
            go_roundw
            case rel => exact ⟨k + 1, (vs ++ [v], z), by omega, by go_num, rfl, Hnx.out, H3.out⟩
            case measure => simp [intOf]; omega
      · obtain rfl : k = 3 := by omega
        obtain ⟨a0, a1, a2, rfl⟩ : ∃ a0 a1 a2, vs = [a0, a1, a2] := by
          rcases vs with _ | ⟨x, _ | ⟨y, _ | ⟨z, _ | ⟨q, r⟩⟩⟩⟩ <;> simp at hvl
          exact ⟨x, y, z, rfl⟩
        have ha0 := hv5 a0 (by simp)
        have ha1 := hv5 a1 (by simp)
        have ha2 := hv5 a2 (by simp)
        have HQ0 : Hid (pnmP l = if j < l.length ∧ blk (l.getD j 0) ∧ 1 ≤ a2 ∧ a2 ≤ 255 then pnmR a0 a1 pl (j + 1) l.length else none) := Lib.hid (by rw [HP.out, hch]; rfl)
        have ik : ¬ ((3 : Nat) : Int) < 3 := by omega
        have n2 : wr.cell? ⟨w.heap.size + 1 + 1, 2, none⟩ = some (.int .i64 a2) := (hS.arr.cell 2).trans rfl
        clear hlt HW hvl hv5 hk hch
        by_cases hjn : j < l.length
        · have g0 : ¬ (l.length : Int) ≤ (j : Int) := by omega
          have g1 : (j : Int) < (l.length : Int) := by omega
          obtain ⟨b2, o2, eB, _, hcj⟩ := HR.out.1.at_ j hjn
          injection eB with eB
          injection eB with eB1 eB2
          subst eB1 eB2
          have kj : wr.cell? ⟨b, o + j, none⟩ = some (.int .u8 (l.getD j 0)) := (HS.out.1.fr.cell (p := ⟨b, o + j, none⟩) hb id).trans hcj
          have HBl := Lib.hid (qBlank_any (l.getD j 0) wr (HR.out.2.at_ j))
          generalize l.getD j 0 = cj at *
          clear hcj
          by_cases hbk : blk cj
          · rw [decide_eq_true hbk] at HBl
            by_cases hg1 : 1 ≤ a2
            · have g2 : ¬ (a2 : Int) < 1 := by omega
              by_cases hg2 : a2 ≤ 255
              · have g3 : ¬ (255 : Int) < (a2 : Int) := by omega
                have HQ1 : Hid (pnmP l = pnmR a0 a1 pl (j + 1) l.length) := Lib.hid (by rw [HQ0.out, if_pos ⟨hjn, hbk, hg1, hg2⟩])
                clear hS
                go_wp2_with fail
                refine HBl.out.mono ?_
                rintro e w1 ⟨rfl, rfl⟩
                have n0 : wr.cell? ⟨w.heap.size + 1 + 1, 0, none⟩ = some (.int .i64 a0) := (HS.out.1.arr.cell 0).trans rfl
                have n1 : wr.cell? ⟨w.heap.size + 1 + 1, 1, none⟩ = some (.int .i64 a1) := (HS.out.1.arr.cell 1).trans rfl
                have n0d : wr.drew.cell? ⟨w.heap.size + 1 + 1, 0, none⟩ = some (.int .i64 a0) := n0
                have n1d : wr.drew.cell? ⟨w.heap.size + 1 + 1, 1, none⟩ = some (.int .i64 a1) := n1
                obtain ⟨s, hs⟩ : ∃ s, s = a0 * pl := ⟨_, rfl⟩
                obtain ⟨z1, hz1⟩ : ∃ z1, z1 = j + 1 := ⟨_, rfl⟩
                have wj : (j : Int) + 1 = (z1 : Int) := by omega
                have wm : (a0 : Int) * (pl : Int) = (s : Int) := by rw [hs]; simp
                have wb : s ≤ 300000 := by
                  rw [hs]
                  rcases (show pl = 1 ∨ pl = 3 by have := Hp3.out; omega) with e | e <;> rw [e] <;> omega
                have Hsz := Lib.hid (And.intro hs hz1)
                clear hs hz1
                have pz0 : wr.cell? ⟨w.heap.size + 1, 0, none⟩ = some (.int .i64 0) := (HS.out.1.pic.cell 0).trans rfl
                have pzf0 : wr.frozen? ⟨w.heap.size + 1, 0, none⟩ = false := HS.out.1.pic.frozen 0
                have pz1 : wr.cell? ⟨w.heap.size + 1, 1, none⟩ = some (.int .i64 0) := (HS.out.1.pic.cell 1).trans rfl
                have pzf1 : wr.frozen? ⟨w.heap.size + 1, 1, none⟩ = false := HS.out.1.pic.frozen 1
                have pz2 : wr.cell? ⟨w.heap.size + 1, 2, none⟩ = some (.int .i64 pl) := (HS.out.1.pic.cell 2).trans rfl
                have pzf2 : wr.frozen? ⟨w.heap.size + 1, 2, none⟩ = false := HS.out.1.pic.frozen 2
                have pz3 : wr.cell? ⟨w.heap.size + 1, 3, none⟩ = some (.int .i64 0) := (HS.out.1.pic.cell 3).trans rfl
                have pzf3 : wr.frozen? ⟨w.heap.size + 1, 3, none⟩ = false := HS.out.1.pic.frozen 3
                have pz4 : wr.cell? ⟨w.heap.size + 1, 4, none⟩ = some (.int .i64 0) := (HS.out.1.pic.cell 4).trans rfl
                have pzf4 : wr.frozen? ⟨w.heap.size + 1, 4, none⟩ = false := HS.out.1.pic.frozen 4
                have pd0 : wr.drew.cell? ⟨w.heap.size + 1, 0, none⟩ = some (.int .i64 0) := (HS.out.1.pic.drew.cell 0).trans rfl
                have pdf0 : wr.drew.frozen? ⟨w.heap.size + 1, 0, none⟩ = false := HS.out.1.pic.drew.frozen 0
                have pd1 : wr.drew.cell? ⟨w.heap.size + 1, 1, none⟩ = some (.int .i64 0) := (HS.out.1.pic.drew.cell 1).trans rfl
                have pdf1 : wr.drew.frozen? ⟨w.heap.size + 1, 1, none⟩ = false := HS.out.1.pic.drew.frozen 1
                have pd2 : wr.drew.cell? ⟨w.heap.size + 1, 2, none⟩ = some (.int .i64 pl) := (HS.out.1.pic.drew.cell 2).trans rfl
                have pdf2 : wr.drew.frozen? ⟨w.heap.size + 1, 2, none⟩ = false := HS.out.1.pic.drew.frozen 2
                have pd3 : wr.drew.cell? ⟨w.heap.size + 1, 3, none⟩ = some (.int .i64 0) := (HS.out.1.pic.drew.cell 3).trans rfl
                have pdf3 : wr.drew.frozen? ⟨w.heap.size + 1, 3, none⟩ = false := HS.out.1.pic.drew.frozen 3
                have pd4 : wr.drew.cell? ⟨w.heap.size + 1, 4, none⟩ = some (.int .i64 0) := (HS.out.1.pic.drew.cell 4).trans rfl
                have pdf4 : wr.drew.frozen? ⟨w.heap.size + 1, 4, none⟩ = false := HS.out.1.pic.drew.frozen 4
                go_wp2_with fail
                go_region
                have H5 : Hid (PnF w a0 a1 pl 0 z1 (((wr.setCell ⟨w.heap.size + 1, 0, none⟩ (.int .i64 a0)).setCell ⟨w.heap.size + 1, 1, none⟩ (.int .i64 a1)).setCell ⟨w.heap.size + 1, 4, none⟩ (.int .i64 (z1 : Int))).drew) := Lib.hid ⟨by
                  exact (((HS.out.1.res.far (p := ⟨w.heap.size + 1, 0, none⟩) (show w.heap.size ≠ w.heap.size + 1 by omega) _).far (p := ⟨w.heap.size + 1, 1, none⟩) (show w.heap.size ≠ w.heap.size + 1 by omega) _).far (p := ⟨w.heap.size + 1, 4, none⟩) (show w.heap.size ≠ w.heap.size + 1 by omega) _).drew, by
                  have := (((HS.out.1.pic.set_ 0 (.int .i64 (a0 : Nat))).set_ 1 (.int .i64 (a1 : Nat))).set_ 4 (.int .i64 (z1 : Int))).drew
                  simpa using this, (((HS.out.1.fr.setCell (p := ⟨w.heap.size + 1, 0, none⟩) (fun e => by simp at e; omega) _).setCell (p := ⟨w.heap.size + 1, 1, none⟩) (fun e => by simp at e; omega) _).setCell (p := ⟨w.heap.size + 1, 4, none⟩) (fun e => by simp at e; omega) _).drew⟩
                generalize (((wr.setCell ⟨w.heap.size + 1, 0, none⟩ (.int .i64 a0)).setCell ⟨w.heap.size + 1, 1, none⟩ (.int .i64 a1)).setCell ⟨w.heap.size + 1, 4, none⟩ (.int .i64 (z1 : Int))).drew = W5 at *
                have p50 : W5.cell? ⟨w.heap.size + 1, 0, none⟩ = some (.int .i64 a0) := (H5.out.pic.cell 0).trans rfl
                have p5f0 : W5.frozen? ⟨w.heap.size + 1, 0, none⟩ = false := H5.out.pic.frozen 0
                have p51 : W5.cell? ⟨w.heap.size + 1, 1, none⟩ = some (.int .i64 a1) := (H5.out.pic.cell 1).trans rfl
                have p5f1 : W5.frozen? ⟨w.heap.size + 1, 1, none⟩ = false := H5.out.pic.frozen 1
                have p52 : W5.cell? ⟨w.heap.size + 1, 2, none⟩ = some (.int .i64 pl) := (H5.out.pic.cell 2).trans rfl
                have p5f2 : W5.frozen? ⟨w.heap.size + 1, 2, none⟩ = false := H5.out.pic.frozen 2
                have p53 : W5.cell? ⟨w.heap.size + 1, 3, none⟩ = some (.int .i64 0) := (H5.out.pic.cell 3).trans rfl
                have p5f3 : W5.frozen? ⟨w.heap.size + 1, 3, none⟩ = false := H5.out.pic.frozen 3
                have p54 : W5.cell? ⟨w.heap.size + 1, 4, none⟩ = some (.int .i64 (z1 : Int)) := (H5.out.pic.cell 4).trans rfl
                have p5f4 : W5.frozen? ⟨w.heap.size + 1, 4, none⟩ = false := H5.out.pic.frozen 4
                have H6 : Hid (PnF w a0 a1 pl s z1 (W5.setCell ⟨w.heap.size + 1, 3, none⟩ (.int .i64 (s : Int)))) := Lib.hid ⟨H5.out.res.far (p := ⟨w.heap.size + 1, 3, none⟩) (show w.heap.size ≠ w.heap.size + 1 by omega) _, by
                  have := H5.out.pic.set_ 3 (.int .i64 (s : Int))
                  simpa using this, H5.out.fr.setCell (p := ⟨w.heap.size + 1, 3, none⟩) (fun e => by simp at e; omega) _⟩
                have HFt := Lib.hid (qFits_any a0 a1 pl (s : Int) (z1 : Int) l.length (W5.setCell ⟨w.heap.size + 1, 3, none⟩ (.int .i64 (s : Int))) (by omega) (by omega) (by omega))
                go_wp2_with fail
                refine HFt.out.mono ?_
                rintro e w7 ⟨rfl, hf7⟩
                have h7res := H6.out.res.kept hf7 id
                have h7pic := H6.out.pic.kept hf7 id
                have H7 := Lib.hid (And.intro h7res (H6.out.fr.trans hf7 fun _ _ e => e))
                by_cases hfit : fitP a0 a1 (s : Int) (z1 : Int) l.length
                · rw [decide_eq_true hfit]
                  have HQ : Hid (pnmP l = some (a0, a1, pl, s, z1)) := Lib.hid (by rw [HQ1.out]; unfold pnmR; rw [← Hsz.out.1, ← Hsz.out.2, if_pos hfit])
                  have p70 : w7.cell? ⟨w.heap.size + 1, 0, none⟩ = some (.int .i64 a0) := (h7pic.cell 0).trans rfl
                  have p7f0 : w7.frozen? ⟨w.heap.size + 1, 0, none⟩ = false := h7pic.frozen 0
                  have p71 : w7.cell? ⟨w.heap.size + 1, 1, none⟩ = some (.int .i64 a1) := (h7pic.cell 1).trans rfl
                  have p7f1 : w7.frozen? ⟨w.heap.size + 1, 1, none⟩ = false := h7pic.frozen 1
                  have p72 : w7.cell? ⟨w.heap.size + 1, 2, none⟩ = some (.int .i64 pl) := (h7pic.cell 2).trans rfl
                  have p7f2 : w7.frozen? ⟨w.heap.size + 1, 2, none⟩ = false := h7pic.frozen 2
                  have p73 : w7.cell? ⟨w.heap.size + 1, 3, none⟩ = some (.int .i64 (s : Int)) := (h7pic.cell 3).trans rfl
                  have p7f3 : w7.frozen? ⟨w.heap.size + 1, 3, none⟩ = false := h7pic.frozen 3
                  have p74 : w7.cell? ⟨w.heap.size + 1, 4, none⟩ = some (.int .i64 (z1 : Int)) := (h7pic.cell 4).trans rfl
                  have p7f4 : w7.frozen? ⟨w.heap.size + 1, 4, none⟩ = false := h7pic.frozen 4
                  have rz0 : w7.cell? ⟨w.heap.size, 0, none⟩ = some (.int .i64 0) := (h7res.cell 0).trans rfl
                  have rzf0 : w7.frozen? ⟨w.heap.size, 0, none⟩ = false := h7res.frozen 0
                  have rz1 : w7.cell? ⟨w.heap.size, 1, none⟩ = some (.int .i64 0) := (h7res.cell 1).trans rfl
                  have rzf1 : w7.frozen? ⟨w.heap.size, 1, none⟩ = false := h7res.frozen 1
                  have rz2 : w7.cell? ⟨w.heap.size, 2, none⟩ = some (.int .i64 0) := (h7res.cell 2).trans rfl
                  have rzf2 : w7.frozen? ⟨w.heap.size, 2, none⟩ = false := h7res.frozen 2
                  have rz3 : w7.cell? ⟨w.heap.size, 3, none⟩ = some (.int .i64 0) := (h7res.cell 3).trans rfl
                  have rzf3 : w7.frozen? ⟨w.heap.size, 3, none⟩ = false := h7res.frozen 3
                  have rz4 : w7.cell? ⟨w.heap.size, 4, none⟩ = some (.int .i64 0) := (h7res.cell 4).trans rfl
                  have rzf4 : w7.frozen? ⟨w.heap.size, 4, none⟩ = false := h7res.frozen 4
                  clear h7res h7pic hf7 HFt hfit
                  go_wp2_with fail
                  refine bodyPost_ret (v := .tuple #[pval (some (a0, a1, pl, s, z1)), .bool true]) (by simp [results, Try.f12, go_sem, pval, rz0, rz1, rz2, rz3, rz4]) rfl ?_
                  exact ⟨by rw [HQ.out]; rfl, set5 H7.out.2 _ _ _ _ _⟩
                · rw [decide_eq_false hfit]
                  have HQ : Hid (pnmP l = none) := Lib.hid (by rw [HQ1.out]; unfold pnmR; rw [← Hsz.out.1, ← Hsz.out.2, if_neg hfit])
                  clear h7res h7pic hf7 HFt hfit
                  have rz0 : w7.cell? ⟨w.heap.size, 0, none⟩ = some (.int .i64 0) := (H7.out.1.cell 0).trans rfl
                  have rzf0 : w7.frozen? ⟨w.heap.size, 0, none⟩ = false := H7.out.1.frozen 0
                  have rz1 : w7.cell? ⟨w.heap.size, 1, none⟩ = some (.int .i64 0) := (H7.out.1.cell 1).trans rfl
                  have rzf1 : w7.frozen? ⟨w.heap.size, 1, none⟩ = false := H7.out.1.frozen 1
                  have rz2 : w7.cell? ⟨w.heap.size, 2, none⟩ = some (.int .i64 0) := (H7.out.1.cell 2).trans rfl
                  have rzf2 : w7.frozen? ⟨w.heap.size, 2, none⟩ = false := H7.out.1.frozen 2
                  have rz3 : w7.cell? ⟨w.heap.size, 3, none⟩ = some (.int .i64 0) := (H7.out.1.cell 3).trans rfl
                  have rzf3 : w7.frozen? ⟨w.heap.size, 3, none⟩ = false := H7.out.1.frozen 3
                  have rz4 : w7.cell? ⟨w.heap.size, 4, none⟩ = some (.int .i64 0) := (H7.out.1.cell 4).trans rfl
                  have rzf4 : w7.frozen? ⟨w.heap.size, 4, none⟩ = false := H7.out.1.frozen 4
                  go_wp2_with fail
                  refine bodyPost_ret (v := .tuple #[pval none, .bool false]) (by simp [results, Try.f12, go_sem, pval, rz0, rz1, rz2, rz3, rz4]) rfl ?_
                  exact ⟨by rw [HQ.out]; rfl, set5 H7.out.2 _ _ _ _ _⟩
              · have g3 : (255 : Int) < (a2 : Int) := by omega
                have HQ : Hid (pnmP l = none) := Lib.hid (by rw [HQ0.out, if_neg (fun h => hg2 h.2.2.2)])
                clear hS
                go_wp2_with fail
                refine HBl.out.mono ?_
                rintro e w1 ⟨rfl, rfl⟩
                have rz0 : wr.cell? ⟨w.heap.size, 0, none⟩ = some (.int .i64 0) := (HS.out.1.res.cell 0).trans rfl
                have rzf0 : wr.frozen? ⟨w.heap.size, 0, none⟩ = false := HS.out.1.res.frozen 0
                have rz1 : wr.cell? ⟨w.heap.size, 1, none⟩ = some (.int .i64 0) := (HS.out.1.res.cell 1).trans rfl
                have rzf1 : wr.frozen? ⟨w.heap.size, 1, none⟩ = false := HS.out.1.res.frozen 1
                have rz2 : wr.cell? ⟨w.heap.size, 2, none⟩ = some (.int .i64 0) := (HS.out.1.res.cell 2).trans rfl
                have rzf2 : wr.frozen? ⟨w.heap.size, 2, none⟩ = false := HS.out.1.res.frozen 2
                have rz3 : wr.cell? ⟨w.heap.size, 3, none⟩ = some (.int .i64 0) := (HS.out.1.res.cell 3).trans rfl
                have rzf3 : wr.frozen? ⟨w.heap.size, 3, none⟩ = false := HS.out.1.res.frozen 3
                have rz4 : wr.cell? ⟨w.heap.size, 4, none⟩ = some (.int .i64 0) := (HS.out.1.res.cell 4).trans rfl
                have rzf4 : wr.frozen? ⟨w.heap.size, 4, none⟩ = false := HS.out.1.res.frozen 4
                go_wp2_with fail
                refine bodyPost_ret (v := .tuple #[pval none, .bool false]) (by simp [results, Try.f12, go_sem, pval, rz0, rz1, rz2, rz3, rz4]) rfl ?_
                exact ⟨by rw [HQ.out]; rfl, set5 HS.out.1.fr _ _ _ _ _⟩
            · have g2 : (a2 : Int) < 1 := by omega
              have HQ : Hid (pnmP l = none) := Lib.hid (by rw [HQ0.out, if_neg (fun h => hg1 h.2.2.1)])
              clear hS
              go_wp2_with fail
              refine HBl.out.mono ?_
              rintro e w1 ⟨rfl, rfl⟩
              have rz0 : wr.cell? ⟨w.heap.size, 0, none⟩ = some (.int .i64 0) := (HS.out.1.res.cell 0).trans rfl
              have rzf0 : wr.frozen? ⟨w.heap.size, 0, none⟩ = false := HS.out.1.res.frozen 0
              have rz1 : wr.cell? ⟨w.heap.size, 1, none⟩ = some (.int .i64 0) := (HS.out.1.res.cell 1).trans rfl
              have rzf1 : wr.frozen? ⟨w.heap.size, 1, none⟩ = false := HS.out.1.res.frozen 1
              have rz2 : wr.cell? ⟨w.heap.size, 2, none⟩ = some (.int .i64 0) := (HS.out.1.res.cell 2).trans rfl
              have rzf2 : wr.frozen? ⟨w.heap.size, 2, none⟩ = false := HS.out.1.res.frozen 2
              have rz3 : wr.cell? ⟨w.heap.size, 3, none⟩ = some (.int .i64 0) := (HS.out.1.res.cell 3).trans rfl
              have rzf3 : wr.frozen? ⟨w.heap.size, 3, none⟩ = false := HS.out.1.res.frozen 3
              have rz4 : wr.cell? ⟨w.heap.size, 4, none⟩ = some (.int .i64 0) := (HS.out.1.res.cell 4).trans rfl
              have rzf4 : wr.frozen? ⟨w.heap.size, 4, none⟩ = false := HS.out.1.res.frozen 4
              go_wp2_with fail
              refine bodyPost_ret (v := .tuple #[pval none, .bool false]) (by simp [results, Try.f12, go_sem, pval, rz0, rz1, rz2, rz3, rz4]) rfl ?_
              exact ⟨by rw [HQ.out]; rfl, set5 HS.out.1.fr _ _ _ _ _⟩
          · rw [decide_eq_false hbk] at HBl
            have HQ : Hid (pnmP l = none) := Lib.hid (by rw [HQ0.out, if_neg (fun h => hbk h.2.1)])
            clear hS
            go_wp2_with fail
            refine HBl.out.mono ?_
            rintro e w1 ⟨rfl, rfl⟩
            have rz0 : wr.cell? ⟨w.heap.size, 0, none⟩ = some (.int .i64 0) := (HS.out.1.res.cell 0).trans rfl
            have rzf0 : wr.frozen? ⟨w.heap.size, 0, none⟩ = false := HS.out.1.res.frozen 0
            have rz1 : wr.cell? ⟨w.heap.size, 1, none⟩ = some (.int .i64 0) := (HS.out.1.res.cell 1).trans rfl
            have rzf1 : wr.frozen? ⟨w.heap.size, 1, none⟩ = false := HS.out.1.res.frozen 1
            have rz2 : wr.cell? ⟨w.heap.size, 2, none⟩ = some (.int .i64 0) := (HS.out.1.res.cell 2).trans rfl
            have rzf2 : wr.frozen? ⟨w.heap.size, 2, none⟩ = false := HS.out.1.res.frozen 2
            have rz3 : wr.cell? ⟨w.heap.size, 3, none⟩ = some (.int .i64 0) := (HS.out.1.res.cell 3).trans rfl
            have rzf3 : wr.frozen? ⟨w.heap.size, 3, none⟩ = false := HS.out.1.res.frozen 3
            have rz4 : wr.cell? ⟨w.heap.size, 4, none⟩ = some (.int .i64 0) := (HS.out.1.res.cell 4).trans rfl
            have rzf4 : wr.frozen? ⟨w.heap.size, 4, none⟩ = false := HS.out.1.res.frozen 4
            go_wp2_with fail
            refine bodyPost_ret (v := .tuple #[pval none, .bool false]) (by simp [results, Try.f12, go_sem, pval, rz0, rz1, rz2, rz3, rz4]) rfl ?_
            exact ⟨by rw [HQ.out]; rfl, set5 HS.out.1.fr _ _ _ _ _⟩
        · have g0 : (l.length : Int) ≤ (j : Int) := by omega
          have HQ : Hid (pnmP l = none) := Lib.hid (by rw [HQ0.out, if_neg (fun h => hjn h.1)])
          clear hS
          have rz0 : wr.cell? ⟨w.heap.size, 0, none⟩ = some (.int .i64 0) := (HS.out.1.res.cell 0).trans rfl
          have rzf0 : wr.frozen? ⟨w.heap.size, 0, none⟩ = false := HS.out.1.res.frozen 0
          have rz1 : wr.cell? ⟨w.heap.size, 1, none⟩ = some (.int .i64 0) := (HS.out.1.res.cell 1).trans rfl
          have rzf1 : wr.frozen? ⟨w.heap.size, 1, none⟩ = false := HS.out.1.res.frozen 1
          have rz2 : wr.cell? ⟨w.heap.size, 2, none⟩ = some (.int .i64 0) := (HS.out.1.res.cell 2).trans rfl
          have rzf2 : wr.frozen? ⟨w.heap.size, 2, none⟩ = false := HS.out.1.res.frozen 2
          have rz3 : wr.cell? ⟨w.heap.size, 3, none⟩ = some (.int .i64 0) := (HS.out.1.res.cell 3).trans rfl
          have rzf3 : wr.frozen? ⟨w.heap.size, 3, none⟩ = false := HS.out.1.res.frozen 3
          have rz4 : wr.cell? ⟨w.heap.size, 4, none⟩ = some (.int .i64 0) := (HS.out.1.res.cell 4).trans rfl
          have rzf4 : wr.frozen? ⟨w.heap.size, 4, none⟩ = false := HS.out.1.res.frozen 4
          go_wp2_with fail
          refine bodyPost_ret (v := .tuple #[pval none, .bool false]) (by simp [results, Try.f12, go_sem, pval, rz0, rz1, rz2, rz3, rz4]) rfl ?_
          exact ⟨by rw [HQ.out]; rfl, set5 HS.out.1.fr _ _ _ _ _⟩
end Go.Proofs.Ytlmhodkdcllcjaa
