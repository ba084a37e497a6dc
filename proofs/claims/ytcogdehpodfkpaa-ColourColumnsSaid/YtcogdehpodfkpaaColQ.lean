/- The document's Turn, Back, Apart, Together of colours. -/
import Derived.Test.YtcogdehpodfkpaaColMath
import Derived.Test.YtcogdehpodfkpaaAppNew
import Derived.Test.YtcogdehpodfkpaaZeros
import Derived.Test.YtcogdehpodfkpaaCut
import Derived.Deep.RegionHeld3
import Derived.Deep.DrawnRows
import Derived.Lib.MinMax
namespace Go.Proofs.Ytcogdehpodfkpaa
open Go.RowKit
set_option maxRecDepth 100000

attribute [local go_sem ↓] Go.wp_at_zero Go.wp_at_succ

theorem Try.infoCol : (Try.prog.info? 5).map (fun i => (i.zero, i.size, i.bytes)) = some (some (.int .u8 0), 1, 1) := by kernel_rfl
theorem NewRow.none (w : World) (e : TypeId) (k : IntKind) : NewRow w w e k (.slice none 0 0) [] := ⟨Own.nil _ _ _, fun g e => (by cases e), Kept.refl _ _⟩

set_option maxHeartbeats 3200000 in
theorem qTurnC_any (A : Option Addr) (n c : Nat) (bs : List Int) (w : World) (hr : Row w .u8 A n bs) (h8 : B8 bs) (hn : n ≤ 16777216) :
    Calls Try.prog 11 #[.slice A n c] w fun e w' => ∃ u, e = .returned u ∧ NewRow w w' 5 .u8 u (trn (-1) bs) := by
  obtain ⟨i0, hi, hz0, hz1, hz2⟩ := info_parts Try.infoCol
  obtain rfl := hr.len
  have HR : Hid (∀ V, Fresh w V → Row V .u8 A bs.length bs) := Lib.hid fun V hV => hr.kept hV (fun _ _ _ _ => id)
  have H8 := Lib.hid h8
  have HN := Lib.hid (NewRow.none w 5 .u8)
  clear h8
  go_enter Try.func11, Try.ntmps11
  go_wp2_with (at_builtin; refine wpList_new _ w rfl _ _ 22 rfl 5 i0 .u8 1 Try.underlying22 hi hz0 hz1 hz2 (.slice none 0 0) [] rfl HN.out A bs.length c bs rfl hr (by unfold maxLen; simp; omega) (by simp; omega) ?_)
  intro v w1 hv
  have H1 : Hid (NewRow w w1 5 .u8 v (trnTo (-1) bs 0)) := Lib.hid (by rw [trnTo_zero]; exact hv)
  clear hv hr HN
  go_wp2_with fail
  go_loopw [4] (fun i wr => ∃ p : Nat, p % 3 = 0 ∧ p ≤ bs.length ∧ i = .int .i64 p ∧ NewRow w wr 5 .u8 v (trnTo (-1) bs (p / 3))) (fun i _ => (bs.length - intOf i).toNat)
  case atStart => exact ⟨0, rfl, by omega, rfl, H1.out⟩
  case round =>
    obtain ⟨p, hp3, hq, rfl, hv⟩ := hrel
    have Hp3 := Lib.hid hp3
    clear H1
    by_cases hlt : p + 3 ≤ bs.length
    · obtain ⟨g, cap, rfl, hgl⟩ := hv.1.form (by rw [trnTo_length]; omega)
      rw [trnTo_length] at hv ⊢
      obtain ⟨b, o, rfl, hbw, _⟩ := (HR.out w (Kept.refl _ _)).at_ (p) (by omega)
      have key : ∀ j, j < bs.length → wr.cell? ⟨b, o + j, none⟩ = some (.int .u8 (bs.getD j 0)) ∧ b < wr.heap.size := fun j hj => by
        obtain ⟨b', o', e', hb, hc⟩ := (HR.out wr hv.2.2).at_ j hj
        injection e' with e'
        injection e' with e1 e2
        subst e1 e2
        exact ⟨hc, hb⟩
      obtain ⟨c0, _⟩ := key (p) (by omega)
      obtain ⟨c1, _⟩ := key (p + 1) (by omega)
      obtain ⟨c2, hbl⟩ := key (p + 2) (by omega)
      have hgb : g ≠ b := fun e => by
        have := hv.2.1 g rfl
        omega
      have lq := trnTo_length (-1) bs (p / 3)
      have k0 := hv.1.cellN lq (j := p) (by omega)
      have k2 := hv.1.cellN lq (j := p + 2) (by omega)
      have f0 := hv.1.frozenN lq (p)
      have f2 := hv.1.frozenN lq (p + 2)
      have s1 := (hv.1.storeN lq (p) ((bs.getD (p) 0 + -1 * bs.getD (p + 1) 0) % 256)).storeN (by rw [List.length_set, lq]) (p + 2) ((bs.getD (p + 2) 0 + -1 * bs.getD (p + 1) 0) % 256)
      rw [trnTo_step hp3 hlt] at s1
      have sf : Fresh w ((wr.setCell ⟨g, p, none⟩ (.int .u8 ((bs.getD (p) 0 + -1 * bs.getD (p + 1) 0) % 256))).setCell ⟨g, p + 2, none⟩ (.int .u8 ((bs.getD (p + 2) 0 + -1 * bs.getD (p + 1) 0) % 256))) :=
        (hv.2.2.setCell (p := ⟨g, p, none⟩) (fun h => absurd h (by have := hv.2.1 g rfl; simp only; omega)) _).setCell (p := ⟨g, p + 2, none⟩) (fun h => absurd h (by have := hv.2.1 g rfl; simp only; omega)) _
      have HS : Hid (NewRow w _ 5 .u8 (.slice (some ⟨g, 0, none⟩) bs.length cap) (trnTo (-1) bs ((p + 3) / 3))) := Lib.hid ⟨s1, hv.2.1, sf⟩
      have x0 := H8.out.at_ (p)
      have x1 := H8.out.at_ (p + 1)
      have x2 := H8.out.at_ (p + 2)
      have far : ∀ (V : World) (j' j : Nat) (u : Value), (V.setCell ⟨g, j', none⟩ u).cell? ⟨b, o + j, none⟩ = V.cell? ⟨b, o + j, none⟩ := fun V j' j u => World.cell?_of_block (Below.heap_setCell V ⟨g, j', none⟩ u b hgb.symm)
      have HF := Lib.hid far
      clear s1 sf lq key far hv
      generalize bs.getD (p) 0 = y0 at *
      generalize bs.getD (p + 1) 0 = y1 at *
      generalize bs.getD (p + 2) 0 = y2 at *
      have hs1 : (y0 + -1 * y1) % 256 = IntKind.u8.wrap (y0 - y1) := by rw [IntKind.wrap_u8]; omega
      have hs2 : (y2 + -1 * y1) % 256 = IntKind.u8.wrap (y2 - y1) := by rw [IntKind.wrap_u8]; omega
      rw [hs1, hs2] at HS
      clear hs1 hs2
      have d0 : (wr.setCell ⟨g, p, none⟩ (.int .u8 (IntKind.u8.wrap (y0 - y1)))).cell? ⟨b, o + p, none⟩ = _ := (HF.out wr (p) (p) (.int .u8 (IntKind.u8.wrap (y0 - y1)))).trans c0
      have d1 : (wr.setCell ⟨g, p, none⟩ (.int .u8 (IntKind.u8.wrap (y0 - y1)))).cell? ⟨b, o + (p + 1), none⟩ = _ := (HF.out wr (p) (p + 1) (.int .u8 (IntKind.u8.wrap (y0 - y1)))).trans c1
      have d2 : (wr.setCell ⟨g, p, none⟩ (.int .u8 (IntKind.u8.wrap (y0 - y1)))).cell? ⟨b, o + (p + 2), none⟩ = _ := (HF.out wr (p) (p + 2) (.int .u8 (IntKind.u8.wrap (y0 - y1)))).trans c2
      have e0 : ((wr.setCell ⟨g, p, none⟩ (.int .u8 (IntKind.u8.wrap (y0 - y1)))).setCell ⟨g, p + 2, none⟩ (.int .u8 (IntKind.u8.wrap (y2 - y1)))).cell? ⟨b, o + p, none⟩ = _ := (HF.out _ (p + 2) (p) (.int .u8 (IntKind.u8.wrap (y2 - y1)))).trans d0
      have e1 : ((wr.setCell ⟨g, p, none⟩ (.int .u8 (IntKind.u8.wrap (y0 - y1)))).setCell ⟨g, p + 2, none⟩ (.int .u8 (IntKind.u8.wrap (y2 - y1)))).cell? ⟨b, o + (p + 1), none⟩ = _ := (HF.out _ (p + 2) (p + 1) (.int .u8 (IntKind.u8.wrap (y2 - y1)))).trans d1
      have e2 : ((wr.setCell ⟨g, p, none⟩ (.int .u8 (IntKind.u8.wrap (y0 - y1)))).setCell ⟨g, p + 2, none⟩ (.int .u8 (IntKind.u8.wrap (y2 - y1)))).cell? ⟨b, o + (p + 2), none⟩ = _ := (HF.out _ (p + 2) (p + 2) (.int .u8 (IntKind.u8.wrap (y2 - y1)))).trans d2
      have i3 : (p : Int) + 3 ≤ (bs.length : Int) := by omega
      have ip0 : (p : Int) < (bs.length : Int) := by omega
      have i1 : (p : Int) + 1 < (bs.length : Int) := by omega
      have i2 : (p : Int) + 2 < (bs.length : Int) := by omega
      have p0 : (0 : Int) ≤ (p : Int) := by omega
      have p1 : (0 : Int) ≤ (p : Int) + 1 := by omega
      have p2 : (0 : Int) ≤ (p : Int) + 2 := by omega
      have t1 : ((p : Int) + 1).toNat = p + 1 := by omega
      have t2 : ((p : Int) + 2).toNat = p + 2 := by omega
      have w1' : IntKind.i64.wrap ((p : Int) + 1) = (p : Int) + 1 := IntWalk.i64_in _ (by omega)
      have w2' : IntKind.i64.wrap ((p : Int) + 2) = (p : Int) + 2 := IntWalk.i64_in _ (by omega)
      clear hp3
      go_wp2_with fail
      go_region_held3 (fun V => V.cell? ⟨b, o + p, none⟩ = some (.int .u8 y0) ∧ V.cell? ⟨b, o + (p + 1), none⟩ = some (.int .u8 y1) ∧ V.cell? ⟨b, o + (p + 2), none⟩ = some (.int .u8 y2)) (first | go_keep | exact ⟨d0, d1, d2⟩ | exact ⟨e0, e1, e2⟩) (first | fail)
      have H5 := Lib.hid (HS.out.fresh ((Kept.refl _ _).drew))
      clear c0 c1 c2 d0 d1 d2 e0 e1 e2 k0 k2 f0 f2
      go_wp2_with fail
      go_roundw
      case rel => exact ⟨p + 3, by have := Hp3.out; omega, by omega, by go_num, H5.out⟩
      case measure => simp [intOf]; omega
    · have i3 : ¬ (p : Int) + 3 ≤ (bs.length : Int) := by omega
      rw [show p / 3 = bs.length / 3 by omega, trnTo_all] at hv
      have H5 := Lib.hid hv
      clear hv hp3
      go_wp2_with fail
      go_ret
      exact ⟨_, rfl, H5.out⟩

set_option maxHeartbeats 3200000 in
theorem qBackC_any (A : Option Addr) (n c : Nat) (bs : List Int) (w : World) (hr : Row w .u8 A n bs) (h8 : B8 bs) (hn : n ≤ 16777216) :
    Calls Try.prog 13 #[.slice A n c] w fun e w' => ∃ u, e = .returned u ∧ NewRow w w' 5 .u8 u (trn (1) bs) := by
  obtain ⟨i0, hi, hz0, hz1, hz2⟩ := info_parts Try.infoCol
  obtain rfl := hr.len
  have HR : Hid (∀ V, Fresh w V → Row V .u8 A bs.length bs) := Lib.hid fun V hV => hr.kept hV (fun _ _ _ _ => id)
  have H8 := Lib.hid h8
  have HN := Lib.hid (NewRow.none w 5 .u8)
  clear h8
  go_enter Try.func13, Try.ntmps13
  go_wp2_with (at_builtin; refine wpList_new _ w rfl _ _ 22 rfl 5 i0 .u8 1 Try.underlying22 hi hz0 hz1 hz2 (.slice none 0 0) [] rfl HN.out A bs.length c bs rfl hr (by unfold maxLen; simp; omega) (by simp; omega) ?_)
  intro v w1 hv
  have H1 : Hid (NewRow w w1 5 .u8 v (trnTo (1) bs 0)) := Lib.hid (by rw [trnTo_zero]; exact hv)
  clear hv hr HN
  go_wp2_with fail
  go_loopw [4] (fun i wr => ∃ p : Nat, p % 3 = 0 ∧ p ≤ bs.length ∧ i = .int .i64 p ∧ NewRow w wr 5 .u8 v (trnTo (1) bs (p / 3))) (fun i _ => (bs.length - intOf i).toNat)
  case atStart => exact ⟨0, rfl, by omega, rfl, H1.out⟩
  case round =>
    obtain ⟨p, hp3, hq, rfl, hv⟩ := hrel
    have Hp3 := Lib.hid hp3
    clear H1
    by_cases hlt : p + 3 ≤ bs.length
    · obtain ⟨g, cap, rfl, hgl⟩ := hv.1.form (by rw [trnTo_length]; omega)
      rw [trnTo_length] at hv ⊢
      obtain ⟨b, o, rfl, hbw, _⟩ := (HR.out w (Kept.refl _ _)).at_ (p) (by omega)
      have key : ∀ j, j < bs.length → wr.cell? ⟨b, o + j, none⟩ = some (.int .u8 (bs.getD j 0)) ∧ b < wr.heap.size := fun j hj => by
        obtain ⟨b', o', e', hb, hc⟩ := (HR.out wr hv.2.2).at_ j hj
        injection e' with e'
        injection e' with e1 e2
        subst e1 e2
        exact ⟨hc, hb⟩
      obtain ⟨c0, _⟩ := key (p) (by omega)
      obtain ⟨c1, _⟩ := key (p + 1) (by omega)
      obtain ⟨c2, hbl⟩ := key (p + 2) (by omega)
      have hgb : g ≠ b := fun e => by
        have := hv.2.1 g rfl
        omega
      have lq := trnTo_length (1) bs (p / 3)
      have k0 := hv.1.cellN lq (j := p) (by omega)
      have k2 := hv.1.cellN lq (j := p + 2) (by omega)
      have f0 := hv.1.frozenN lq (p)
      have f2 := hv.1.frozenN lq (p + 2)
      have s1 := (hv.1.storeN lq (p) ((bs.getD (p) 0 + 1 * bs.getD (p + 1) 0) % 256)).storeN (by rw [List.length_set, lq]) (p + 2) ((bs.getD (p + 2) 0 + 1 * bs.getD (p + 1) 0) % 256)
      rw [trnTo_step hp3 hlt] at s1
      have sf : Fresh w ((wr.setCell ⟨g, p, none⟩ (.int .u8 ((bs.getD (p) 0 + 1 * bs.getD (p + 1) 0) % 256))).setCell ⟨g, p + 2, none⟩ (.int .u8 ((bs.getD (p + 2) 0 + 1 * bs.getD (p + 1) 0) % 256))) :=
        (hv.2.2.setCell (p := ⟨g, p, none⟩) (fun h => absurd h (by have := hv.2.1 g rfl; simp only; omega)) _).setCell (p := ⟨g, p + 2, none⟩) (fun h => absurd h (by have := hv.2.1 g rfl; simp only; omega)) _
      have HS : Hid (NewRow w _ 5 .u8 (.slice (some ⟨g, 0, none⟩) bs.length cap) (trnTo (1) bs ((p + 3) / 3))) := Lib.hid ⟨s1, hv.2.1, sf⟩
      have x0 := H8.out.at_ (p)
      have x1 := H8.out.at_ (p + 1)
      have x2 := H8.out.at_ (p + 2)
      have far : ∀ (V : World) (j' j : Nat) (u : Value), (V.setCell ⟨g, j', none⟩ u).cell? ⟨b, o + j, none⟩ = V.cell? ⟨b, o + j, none⟩ := fun V j' j u => World.cell?_of_block (Below.heap_setCell V ⟨g, j', none⟩ u b hgb.symm)
      have HF := Lib.hid far
      clear s1 sf lq key far hv
      generalize bs.getD (p) 0 = y0 at *
      generalize bs.getD (p + 1) 0 = y1 at *
      generalize bs.getD (p + 2) 0 = y2 at *
      have hs1 : (y0 + 1 * y1) % 256 = IntKind.u8.wrap (y0 + y1) := by rw [IntKind.wrap_u8]; omega
      have hs2 : (y2 + 1 * y1) % 256 = IntKind.u8.wrap (y2 + y1) := by rw [IntKind.wrap_u8]; omega
      rw [hs1, hs2] at HS
      clear hs1 hs2
      have d0 : (wr.setCell ⟨g, p, none⟩ (.int .u8 (IntKind.u8.wrap (y0 + y1)))).cell? ⟨b, o + p, none⟩ = _ := (HF.out wr (p) (p) (.int .u8 (IntKind.u8.wrap (y0 + y1)))).trans c0
      have d1 : (wr.setCell ⟨g, p, none⟩ (.int .u8 (IntKind.u8.wrap (y0 + y1)))).cell? ⟨b, o + (p + 1), none⟩ = _ := (HF.out wr (p) (p + 1) (.int .u8 (IntKind.u8.wrap (y0 + y1)))).trans c1
      have d2 : (wr.setCell ⟨g, p, none⟩ (.int .u8 (IntKind.u8.wrap (y0 + y1)))).cell? ⟨b, o + (p + 2), none⟩ = _ := (HF.out wr (p) (p + 2) (.int .u8 (IntKind.u8.wrap (y0 + y1)))).trans c2
      have e0 : ((wr.setCell ⟨g, p, none⟩ (.int .u8 (IntKind.u8.wrap (y0 + y1)))).setCell ⟨g, p + 2, none⟩ (.int .u8 (IntKind.u8.wrap (y2 + y1)))).cell? ⟨b, o + p, none⟩ = _ := (HF.out _ (p + 2) (p) (.int .u8 (IntKind.u8.wrap (y2 + y1)))).trans d0
      have e1 : ((wr.setCell ⟨g, p, none⟩ (.int .u8 (IntKind.u8.wrap (y0 + y1)))).setCell ⟨g, p + 2, none⟩ (.int .u8 (IntKind.u8.wrap (y2 + y1)))).cell? ⟨b, o + (p + 1), none⟩ = _ := (HF.out _ (p + 2) (p + 1) (.int .u8 (IntKind.u8.wrap (y2 + y1)))).trans d1
      have e2 : ((wr.setCell ⟨g, p, none⟩ (.int .u8 (IntKind.u8.wrap (y0 + y1)))).setCell ⟨g, p + 2, none⟩ (.int .u8 (IntKind.u8.wrap (y2 + y1)))).cell? ⟨b, o + (p + 2), none⟩ = _ := (HF.out _ (p + 2) (p + 2) (.int .u8 (IntKind.u8.wrap (y2 + y1)))).trans d2
      have i3 : (p : Int) + 3 ≤ (bs.length : Int) := by omega
      have ip0 : (p : Int) < (bs.length : Int) := by omega
      have i1 : (p : Int) + 1 < (bs.length : Int) := by omega
      have i2 : (p : Int) + 2 < (bs.length : Int) := by omega
      have p0 : (0 : Int) ≤ (p : Int) := by omega
      have p1 : (0 : Int) ≤ (p : Int) + 1 := by omega
      have p2 : (0 : Int) ≤ (p : Int) + 2 := by omega
      have t1 : ((p : Int) + 1).toNat = p + 1 := by omega
      have t2 : ((p : Int) + 2).toNat = p + 2 := by omega
      have w1' : IntKind.i64.wrap ((p : Int) + 1) = (p : Int) + 1 := IntWalk.i64_in _ (by omega)
      have w2' : IntKind.i64.wrap ((p : Int) + 2) = (p : Int) + 2 := IntWalk.i64_in _ (by omega)
      clear hp3
      go_wp2_with fail
      go_region_held3 (fun V => V.cell? ⟨b, o + p, none⟩ = some (.int .u8 y0) ∧ V.cell? ⟨b, o + (p + 1), none⟩ = some (.int .u8 y1) ∧ V.cell? ⟨b, o + (p + 2), none⟩ = some (.int .u8 y2)) (first | go_keep | exact ⟨d0, d1, d2⟩ | exact ⟨e0, e1, e2⟩) (first | fail)
      have H5 := Lib.hid (HS.out.fresh ((Kept.refl _ _).drew))
      clear c0 c1 c2 d0 d1 d2 e0 e1 e2 k0 k2 f0 f2
      go_wp2_with fail
      go_roundw
      case rel => exact ⟨p + 3, by have := Hp3.out; omega, by omega, by go_num, H5.out⟩
      case measure => simp [intOf]; omega
    · have i3 : ¬ (p : Int) + 3 ≤ (bs.length : Int) := by omega
      rw [show p / 3 = bs.length / 3 by omega, trnTo_all] at hv
      have H5 := Lib.hid hv
      clear hv hp3
      go_wp2_with fail
      go_ret
      exact ⟨_, rfl, H5.out⟩

set_option maxHeartbeats 3200000 in
theorem qApartC_any (A : Option Addr) (n c : Nat) (bs : List Int) (k : Int) (w : World) (hr : Row w .u8 A n bs) (hn : n ≤ 16777216) (hnc : n ≤ c) :
    Calls Try.prog 15 #[.slice A n c, .int .i64 k] w fun e w' => ∃ u, e = .returned u ∧ NewRow w w' 5 .u8 u (aprt bs (colC k)) := by
  obtain ⟨i0, hi, hz0, hz1, hz2⟩ := info_parts Try.infoCol
  obtain rfl := hr.len
  have HR : Hid (∀ V, Fresh w V → Row V .u8 A bs.length bs) := Lib.hid fun V hV => hr.kept hV (fun _ _ _ _ => id)
  have HN := Lib.hid (NewRow.none w 5 .u8)
  obtain ⟨q1, q2, q3⟩ := colC_in k
  generalize colC k = d at *
  have h3 := q3.symm
  obtain ⟨m, hm⟩ : ∃ m, bs.length / d = m := ⟨_, rfl⟩
  have hmd : m * d ≤ bs.length := by rw [← hm]; exact Nat.div_mul_le_self _ _
  have hmn : m ≤ bs.length := by rw [← hm]; exact Nat.div_le_self _ _
  have hdz : ((bs.length : Nat) : Int) / (d : Int) = (m : Int) := by exact_mod_cast hm
  have g1 : (d = 0) = False := by simp only [eq_iff_iff, iff_false]; omega
  have HM := Lib.hid hm
  clear hr q3 hm
  go_enter Try.func15, Try.ntmps15
  have HDr : Hid (∀ V, Fresh w V → Row V .u8 (cutAt A (m * d) c) (bs.length - m * d) (bs.drop (m * d))) := Lib.hid fun V hV => by
    have := (HR.out V hV).cut (l := m * d) (m := bs.length - m * d) (c := c) (by omega) hnc
    rw [List.take_of_length_le (by rw [List.length_drop]; omega)] at this
    exact this
  have hsl : ∀ W, (Instr.slice 22 (.slice A bs.length c) (some (.int .i64 ((m : Int) * (d : Int)))) none none).run Try.prog W = .ok (.slice (cutAt A (m * d) c) (bs.length - m * d) (c - m * d)) W := fun W => by
    have := run_slice_from (P := Try.prog) 22 5 Try.underlying22 (fun w => by simp [sizeOf, typeInfo, hi, hz1]) A bs.length c (m * d) (by omega) W
    rw [show ((m * d : Nat) : Int) = (m : Int) * (d : Int) by simp] at this
    exact this
  generalize hca : cutAt A (m * d) c = CA at *
  clear hca
  go_wp2_with fail
  go_loopw [7, 6] (fun i u wr => ∃ j : Nat, j ≤ d ∧ i = .int .i64 j ∧ NewRow w wr 5 .u8 u (fls m (fun j i => bs.getD (i * d + j) 0) j)) (fun i _ _ => (d - intOf i).toNat)
  case atStart => exact ⟨0, by omega, rfl, HN.out⟩
  case round =>
    obtain ⟨j, hj, rfl, hu⟩ := hrel
    have H3 := Lib.hid hu
    clear hu HN
    by_cases hlt : j < d
    · have ij : (j : Int) < (d : Int) := by omega
      go_wp2_with fail
      go_loopw [8, 6] (fun i u V => ∃ i' : Nat, i' ≤ m ∧ i = .int .i64 i' ∧ NewRow w V 5 .u8 u (fls m (fun j i => bs.getD (i * d + j) 0) j ++ tn i' fun i => bs.getD (i * d + j) 0)) (fun i _ _ => (m - intOf i).toNat)
      case atStart => exact ⟨0, by omega, rfl, by simpa [tn] using H3.out⟩
      case round =>
        obtain ⟨i, hi', rfl, hu⟩ := hrel
        have H4 := Lib.hid hu
        have hrow := HR.out wr hu.2.2
        clear hu H3
        by_cases hil : i < m
        · have hix : i * d + j < bs.length := by
            have := Nat.mul_le_mul_right d (show i + 1 ≤ m from hil)
            rw [Nat.add_mul, Nat.one_mul] at this
            omega
          obtain ⟨b, o, rfl, hb, hc⟩ := hrow.at_ (i * d + j) hix
          have hlen : (fls m (fun j i => bs.getD (i * d + j) 0) j ++ tn i fun i => bs.getD (i * d + j) 0).length ≤ 33554432 := by
            rw [List.length_append, fls_length, tn_length]
            have h1 := Nat.mul_le_mul_right m hj
            have h2 : d * m ≤ bs.length := by rw [Nat.mul_comm]; exact hmd
            omega
          have Hs : Hid ((tn (i + 1) fun i => bs.getD (i * d + j) 0) = (tn i fun i => bs.getD (i * d + j) 0) ++ [bs.getD (i * d + j) 0]) := Lib.hid (tn_succ _ _)
          have em : (i : Int) * (d : Int) = ((i * d : Nat) : Int) := by simp
          have e1 : IntKind.i64.wrap ((i : Int) * (d : Int)) = (i : Int) * (d : Int) := IntWalk.i64_in _ (by rw [em]; omega)
          have e2 : IntKind.i64.wrap ((i : Int) * (d : Int) + (j : Int)) = (i : Int) * (d : Int) + (j : Int) := IntWalk.i64_in _ (by rw [em]; omega)
          have e3 : ((i : Int) * (d : Int) + (j : Int)).toNat = i * d + j := by rw [em]; omega
          have e4 : (0 : Int) ≤ (i : Int) * (d : Int) + (j : Int) := by rw [em]; omega
          have e5 : (i : Int) * (d : Int) + (j : Int) < (bs.length : Int) := by rw [em]; omega
          have ii : (i : Int) < (m : Int) := by omega
          generalize bs.getD (i * d + j) 0 = x at *
          generalize hxs : (fls m (fun j i => bs.getD (i * d + j) 0) j ++ tn i fun i => bs.getD (i * d + j) 0) = xs at *
          have HXs := Lib.hid hxs
          clear hrow em hxs
          go_wp2_with (at_builtin; refine wpList_new _ w rfl _ _ 22 rfl 5 i0 .u8 1 Try.underlying22 hi hz0 hz1 hz2 u6 xs rfl (H4.out.fresh ((Kept.refl _ _).alloc (.cells #[.int .u8 x] 5))) (some ⟨wr.heap.size, 0, none⟩) 1 1 [x] rfl (Row.one wr _ _ _) (by unfold maxLen; omega) (by omega) ?_)
          intro v3 w3 hn3
          rw [← HXs.out, List.append_assoc, ← Hs.out] at hn3
          have H5 := Lib.hid hn3
          clear hn3 H4 hc e1 e2 e3 e4 e5
          go_wp2_with fail
          go_roundw
          case rel => exact ⟨i + 1, by omega, by go_num, H5.out⟩
          case measure => simp [intOf]; omega
        · obtain rfl : i = m := by omega
          have H5 : Hid (NewRow w wr 5 .u8 u6 (fls i (fun j i => bs.getD (i * d + j) 0) (j + 1))) := Lib.hid H4.out
          clear H4 hrow
          go_wp2_with fail
          go_roundw
          case rel => exact ⟨j + 1, by omega, by go_num, H5.out⟩
          case measure => simp [intOf]; omega
    · have hjd : d = j := by omega
      subst hjd
      have em : (m : Int) * (d : Int) = ((m * d : Nat) : Int) := by simp
      have e1 : IntKind.i64.wrap ((m : Int) * (d : Int)) = (m : Int) * (d : Int) := IntWalk.i64_in _ (by rw [em]; omega)
      have hdr := HDr.out wr H3.out.2.2
      have hlen := fls_length m (fun j i => bs.getD (i * d + j) 0) d
      have hlen2 : d * m ≤ bs.length := by rw [Nat.mul_comm]; exact hmd
      clear em
      go_wp2_with (at_builtin; refine wpList_new _ w rfl _ _ 22 rfl 5 i0 .u8 1 Try.underlying22 hi hz0 hz1 hz2 u6 _ rfl H3.out CA (bs.length - m * d) (c - m * d) (bs.drop (m * d)) rfl hdr (by unfold maxLen; omega) (by omega) ?_)
      intro v3 w3 hn3
      have H5 : Hid (NewRow w w3 5 .u8 v3 (aprt bs d)) := Lib.hid (by
        unfold aprt
        rw [HM.out]
        exact hn3)
      clear hn3 hdr H3 hlen
      go_wp2_with fail
      go_ret
      exact ⟨_, rfl, H5.out⟩

set_option maxHeartbeats 3200000 in
theorem qTogetherC_any (A : Option Addr) (n c : Nat) (bs : List Int) (k : Int) (w : World) (hr : Row w .u8 A n bs) (hn : n ≤ 16777216) (hnc : n ≤ c) :
    Calls Try.prog 17 #[.slice A n c, .int .i64 k] w fun e w' => ∃ u, e = .returned u ∧ NewRow w w' 5 .u8 u (tgth bs (colC k)) := by
  obtain ⟨i0, hi, hz0, hz1, hz2⟩ := info_parts Try.infoCol
  obtain rfl := hr.len
  have HR : Hid (∀ V, Fresh w V → Row V .u8 A bs.length bs) := Lib.hid fun V hV => hr.kept hV (fun _ _ _ _ => id)
  have HN := Lib.hid (NewRow.none w 5 .u8)
  obtain ⟨q1, q2, q3⟩ := colC_in k
  generalize colC k = d at *
  have h3 := q3.symm
  obtain ⟨m, hm⟩ : ∃ m, bs.length / d = m := ⟨_, rfl⟩
  have hmd : m * d ≤ bs.length := by rw [← hm]; exact Nat.div_mul_le_self _ _
  have hmn : m ≤ bs.length := by rw [← hm]; exact Nat.div_le_self _ _
  have hdz : ((bs.length : Nat) : Int) / (d : Int) = (m : Int) := by exact_mod_cast hm
  have g1 : (d = 0) = False := by simp only [eq_iff_iff, iff_false]; omega
  have HM := Lib.hid hm
  clear hr q3 hm
  go_enter Try.func17, Try.ntmps17
  have HDr : Hid (∀ V, Fresh w V → Row V .u8 (cutAt A (m * d) c) (bs.length - m * d) (bs.drop (m * d))) := Lib.hid fun V hV => by
    have := (HR.out V hV).cut (l := m * d) (m := bs.length - m * d) (c := c) (by omega) hnc
    rw [List.take_of_length_le (by rw [List.length_drop]; omega)] at this
    exact this
  have hsl : ∀ W, (Instr.slice 22 (.slice A bs.length c) (some (.int .i64 ((m : Int) * (d : Int)))) none none).run Try.prog W = .ok (.slice (cutAt A (m * d) c) (bs.length - m * d) (c - m * d)) W := fun W => by
    have := run_slice_from (P := Try.prog) 22 5 Try.underlying22 (fun w => by simp [sizeOf, typeInfo, hi, hz1]) A bs.length c (m * d) (by omega) W
    rw [show ((m * d : Nat) : Int) = (m : Int) * (d : Int) by simp] at this
    exact this
  generalize hca : cutAt A (m * d) c = CA at *
  clear hca
  go_wp2_with fail
  go_loopw [7, 6] (fun i u wr => ∃ j : Nat, j ≤ m ∧ i = .int .i64 j ∧ NewRow w wr 5 .u8 u (fls d (fun j i => bs.getD (i * m + j) 0) j)) (fun i _ _ => (m - intOf i).toNat)
  case atStart => exact ⟨0, by omega, rfl, HN.out⟩
  case round =>
    obtain ⟨j, hj, rfl, hu⟩ := hrel
    have H3 := Lib.hid hu
    clear hu HN
    by_cases hlt : j < m
    · have ij : (j : Int) < (m : Int) := by omega
      go_wp2_with fail
      go_loopw [8, 6] (fun i u V => ∃ i' : Nat, i' ≤ d ∧ i = .int .i64 i' ∧ NewRow w V 5 .u8 u (fls d (fun j i => bs.getD (i * m + j) 0) j ++ tn i' fun i => bs.getD (i * m + j) 0)) (fun i _ _ => (d - intOf i).toNat)
      case atStart => exact ⟨0, by omega, rfl, by simpa [tn] using H3.out⟩
      case round =>
        obtain ⟨i, hi', rfl, hu⟩ := hrel
        have H4 := Lib.hid hu
        have hrow := HR.out wr hu.2.2
        clear hu H3
        by_cases hil : i < d
        · have hix : i * m + j < bs.length := by
            have := Nat.mul_le_mul_right m (show i + 1 ≤ d from hil)
            rw [Nat.add_mul, Nat.one_mul, Nat.mul_comm d m] at this
            omega
          obtain ⟨b, o, rfl, hb, hc⟩ := hrow.at_ (i * m + j) hix
          have hlen : (fls d (fun j i => bs.getD (i * m + j) 0) j ++ tn i fun i => bs.getD (i * m + j) 0).length ≤ 33554432 := by
            rw [List.length_append, fls_length, tn_length]
            have h1 := Nat.mul_le_mul_right d hj
            have h2 : m * d ≤ bs.length := by exact hmd
            omega
          have Hs : Hid ((tn (i + 1) fun i => bs.getD (i * m + j) 0) = (tn i fun i => bs.getD (i * m + j) 0) ++ [bs.getD (i * m + j) 0]) := Lib.hid (tn_succ _ _)
          have em : (i : Int) * (m : Int) = ((i * m : Nat) : Int) := by simp
          have e1 : IntKind.i64.wrap ((i : Int) * (m : Int)) = (i : Int) * (m : Int) := IntWalk.i64_in _ (by rw [em]; omega)
          have e2 : IntKind.i64.wrap ((i : Int) * (m : Int) + (j : Int)) = (i : Int) * (m : Int) + (j : Int) := IntWalk.i64_in _ (by rw [em]; omega)
          have e3 : ((i : Int) * (m : Int) + (j : Int)).toNat = i * m + j := by rw [em]; omega
          have e4 : (0 : Int) ≤ (i : Int) * (m : Int) + (j : Int) := by rw [em]; omega
          have e5 : (i : Int) * (m : Int) + (j : Int) < (bs.length : Int) := by rw [em]; omega
          have ii : (i : Int) < (d : Int) := by omega
          generalize bs.getD (i * m + j) 0 = x at *
          generalize hxs : (fls d (fun j i => bs.getD (i * m + j) 0) j ++ tn i fun i => bs.getD (i * m + j) 0) = xs at *
          have HXs := Lib.hid hxs
          clear hrow em hxs
          go_wp2_with (at_builtin; refine wpList_new _ w rfl _ _ 22 rfl 5 i0 .u8 1 Try.underlying22 hi hz0 hz1 hz2 u6 xs rfl (H4.out.fresh ((Kept.refl _ _).alloc (.cells #[.int .u8 x] 5))) (some ⟨wr.heap.size, 0, none⟩) 1 1 [x] rfl (Row.one wr _ _ _) (by unfold maxLen; omega) (by omega) ?_)
          intro v3 w3 hn3
          rw [← HXs.out, List.append_assoc, ← Hs.out] at hn3
          have H5 := Lib.hid hn3
          clear hn3 H4 hc e1 e2 e3 e4 e5
          go_wp2_with fail
          go_roundw
          case rel => exact ⟨i + 1, by omega, by go_num, H5.out⟩
          case measure => simp [intOf]; omega
        · obtain rfl : i = d := by omega
          have H5 : Hid (NewRow w wr 5 .u8 u6 (fls i (fun j i => bs.getD (i * m + j) 0) (j + 1))) := Lib.hid H4.out
          clear H4 hrow
          go_wp2_with fail
          go_roundw
          case rel => exact ⟨j + 1, by omega, by go_num, H5.out⟩
          case measure => simp [intOf]; omega
    · have hjd : m = j := by omega
      subst hjd
      have em : (m : Int) * (d : Int) = ((m * d : Nat) : Int) := by simp
      have e1 : IntKind.i64.wrap ((m : Int) * (d : Int)) = (m : Int) * (d : Int) := IntWalk.i64_in _ (by rw [em]; omega)
      have hdr := HDr.out wr H3.out.2.2
      have hlen := fls_length d (fun j i => bs.getD (i * m + j) 0) m
      have hlen2 : m * d ≤ bs.length := by exact hmd
      clear em
      go_wp2_with (at_builtin; refine wpList_new _ w rfl _ _ 22 rfl 5 i0 .u8 1 Try.underlying22 hi hz0 hz1 hz2 u6 _ rfl H3.out CA (bs.length - m * d) (c - m * d) (bs.drop (m * d)) rfl hdr (by unfold maxLen; omega) (by omega) ?_)
      intro v3 w3 hn3
      have H5 : Hid (NewRow w w3 5 .u8 v3 (tgth bs d)) := Lib.hid (by
        unfold tgth
        rw [HM.out]
        exact hn3)
      clear hn3 hdr H3 hlen
      go_wp2_with fail
      go_ret
      exact ⟨_, rfl, H5.out⟩

end Go.Proofs.Ytcogdehpodfkpaa
