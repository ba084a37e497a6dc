/- The document's Bmp, where it has a head; Parse. -/
import Derived.Test.YtlmhodkdcllcjaaPicPn
namespace Go.Proofs.Ytlmhodkdcllcjaa
open Go.RowKit
set_option maxRecDepth 100000

attribute [local go_sem ↓] Go.wp_at_zero Go.wp_at_succ

/-- A number of four bytes, with its sign. -/
def sg4 (v : Nat) : Int := if v < 2147483648 then (v : Int) else (v : Int) - 4294967296
theorem sg4_u {v : Nat} (h : v < 4294967296) : IntKind.u32.wrap (v : Int) = (v : Int) := IntWalk.u32_in _ (by omega)
theorem sg4_i {v : Nat} (h : v < 4294967296) : IntKind.i32.wrap (v : Int) = sg4 v := by
  rw [IntKind.wrap_i32]
  unfold sg4
  split
  · omega
  · omega
theorem sg4_in {v : Nat} (h : v < 4294967296) : -2147483648 ≤ sg4 v ∧ sg4 v < 2147483648 := by unfold sg4; split <;> omega
theorem sg4_max {v : Nat} (h : v < 4294967296) : max (sg4 v) (-(sg4 v)) = (amt4 v : Nat) := by
  unfold sg4 amt4
  by_cases h1 : v < 2147483648
  · rw [if_pos h1, if_pos h1]; omega
  · rw [if_neg h1, if_neg h1]; omega
/-- The record and what is told. -/
structure BmS (w : World) (q : Nat) (a b p s f : Nat) (W : World) : Prop where
  res : Blk W w.heap.size 26 #[.int .i64 0, .int .i64 0, .int .i64 0, .int .i64 0, .int .i64 0]
  pic : Blk W q 26 #[.int .i64 a, .int .i64 b, .int .i64 p, .int .i64 s, .int .i64 f]
  fr : Fresh w W
  lt : w.heap.size < q
theorem BmS.fresh {w W V : World} {q a b p s f : Nat} (h : BmS w q a b p s f W) (hf : Fresh W V) : BmS w q a b p s f V := ⟨h.res.kept hf id, h.pic.kept hf id, h.fr.trans hf fun _ _ e => e, h.lt⟩

/-- The document's Bmp behind the two letters, by what its numbers are. -/
def bmpQ (x10 x14 x18 x22 x26 x28 x30 n : Nat) : Option (Nat × Nat × Nat × Nat × Nat) := if okB x10 x14 x26 x28 x30 then bmpR x18 (amt4 x22) (plnB x28) x10 n else none
theorem amt4_le {v : Nat} (h : v < 4294967296) : amt4 v ≤ 2147483648 := by unfold amt4; split <;> omega
theorem bms1 {w W : World} (hr : Blk W w.heap.size 26 #[.int .i64 0, .int .i64 0, .int .i64 0, .int .i64 0, .int .i64 0]) (hf : Fresh w W) (a b f : Nat) (u : Int) (hu : u = b) :
    BmS w W.heap.size a b 3 0 f (W.alloc (.cells #[.int .i64 a, .int .i64 u, .int .i64 3, .int .i64 0, .int .i64 f] 26)) := by
  subst hu
  exact ⟨hr.alloc _, Blk.new W 26 _, hf.alloc _, hr.lt⟩
theorem BmS.planes {w W : World} {q a b p s f : Nat} (h : BmS w q a b p s f W) (p' : Nat) : BmS w q a b p' s f (W.setCell ⟨q, 2, none⟩ (.int .i64 p')) :=
  ⟨h.res.far (p := ⟨q, 2, none⟩) (Nat.ne_of_lt h.lt) _, by simpa using h.pic.set_ 2 (.int .i64 p'), h.fr.setCell (p := ⟨q, 2, none⟩) (fun e => absurd h.lt (Nat.lt_asymm e)) _, h.lt⟩
theorem BmS.stride {w W : World} {q a b p s f : Nat} (h : BmS w q a b p s f W) (s' : Nat) (u : Int) (hu : u = s') : BmS w q a b p s' f (W.setCell ⟨q, 3, none⟩ (.int .i64 u)) := by
  subst hu
  exact ⟨h.res.far (p := ⟨q, 3, none⟩) (Nat.ne_of_lt h.lt) _, by simpa using h.pic.set_ 3 (.int .i64 s'), h.fr.setCell (p := ⟨q, 3, none⟩) (fun e => absurd h.lt (Nat.lt_asymm e)) _, h.lt⟩

theorem strB_w (a p : Nat) (h : a * p ≤ 100000000000) : wrap64 (wrap64 ((wrap64 (wrap64 ((a : Int) * (p : Int)) + 3)).tdiv 4) * 4) = ((strB a p : Nat) : Int) := by
  obtain ⟨m, hm⟩ : ∃ m, m = a * p := ⟨_, rfl⟩
  have e : (a : Int) * (p : Int) = (m : Int) := by rw [hm]; simp
  unfold strB
  rw [← hm] at h ⊢
  rw [e, IntWalk.wrap64_in (m : Int) (by omega), IntWalk.wrap64_in ((m : Int) + 3) (by omega), Int.tdiv_eq_ediv_of_nonneg (by omega), IntWalk.wrap64_in (((m : Int) + 3) / 4) (by omega), IntWalk.wrap64_in _ (by omega)]
  omega

set_option maxHeartbeats 12800000 in
theorem qBmpGo_any (b o c n x10 x14 x18 x22 x26 x28 x30 : Nat) (w : World) (hn : n ≤ 1000000000) (h54 : 54 ≤ n) (hb : b < w.heap.size)
    (hc : w.cell? ⟨b, o, none⟩ = some (.int .u8 66)) (hc1 : w.cell? ⟨b, o + 1, none⟩ = some (.int .u8 77))
    (b10 : x10 < 4294967296) (b18 : x18 < 4294967296) (b22 : x22 < 4294967296)
    (L10 : Hid (∀ V, Fresh w V → Calls Try.prog 21 #[.slice (some ⟨b, o, none⟩) n c, .int .i64 10, .int .i64 4] V fun e w' => e = .returned (.int .i64 x10) ∧ Fresh V w'))
    (L14 : Hid (∀ V, Fresh w V → Calls Try.prog 21 #[.slice (some ⟨b, o, none⟩) n c, .int .i64 14, .int .i64 4] V fun e w' => e = .returned (.int .i64 x14) ∧ Fresh V w'))
    (L18 : Hid (∀ V, Fresh w V → Calls Try.prog 21 #[.slice (some ⟨b, o, none⟩) n c, .int .i64 18, .int .i64 4] V fun e w' => e = .returned (.int .i64 x18) ∧ Fresh V w'))
    (L22 : Hid (∀ V, Fresh w V → Calls Try.prog 21 #[.slice (some ⟨b, o, none⟩) n c, .int .i64 22, .int .i64 4] V fun e w' => e = .returned (.int .i64 x22) ∧ Fresh V w'))
    (L26 : Hid (∀ V, Fresh w V → Calls Try.prog 21 #[.slice (some ⟨b, o, none⟩) n c, .int .i64 26, .int .i64 2] V fun e w' => e = .returned (.int .i64 x26) ∧ Fresh V w'))
    (L28 : Hid (∀ V, Fresh w V → Calls Try.prog 21 #[.slice (some ⟨b, o, none⟩) n c, .int .i64 28, .int .i64 2] V fun e w' => e = .returned (.int .i64 x28) ∧ Fresh V w'))
    (L30 : Hid (∀ V, Fresh w V → Calls Try.prog 21 #[.slice (some ⟨b, o, none⟩) n c, .int .i64 30, .int .i64 4] V fun e w' => e = .returned (.int .i64 x30) ∧ Fresh V w')) :
    Calls Try.prog 10 #[.slice (some ⟨b, o, none⟩) n c] w fun e w' => e = .returned (.tuple #[pval (bmpQ x10 x14 x18 x22 x26 x28 x30 n), .bool (bmpQ x10 x14 x18 x22 x26 x28 x30 n).isSome]) ∧ Fresh w w' := by
  have l0 : ¬ (n : Int) < 54 := by omega
  have i0 : (0 : Int) < (n : Int) := by omega
  have i1 : (1 : Int) < (n : Int) := by omega
  obtain ⟨s, hs⟩ : ∃ s, s = sg4 x22 := ⟨_, rfl⟩
  have u1 : IntKind.u32.wrap (x22 : Int) = (x22 : Int) := sg4_u b22
  have u2 : IntKind.i32.wrap (x22 : Int) = s := by rw [hs]; exact sg4_i b22
  obtain ⟨R, hR⟩ : ∃ R, R = bmpQ x10 x14 x18 x22 x26 x28 x30 n := ⟨_, rfl⟩
  rw [← hR]
  have U3 : Hid (max s (-s) = (amt4 x22 : Nat) ∧ amt4 x22 ≤ 2147483648) := Lib.hid (by rw [hs]; exact ⟨sg4_max b22, amt4_le b22⟩)
  have U4 : Hid (-2147483648 ≤ s ∧ s < 2147483648) := Lib.hid (by rw [hs]; exact sg4_in b22)
  have u4 := U4.out
  obtain ⟨ah, hah⟩ : ∃ ah, ah = amt4 x22 := ⟨_, rfl⟩
  rw [← hah] at U3
  have HR : Hid (R = if okB x10 x14 x26 x28 x30 then bmpR x18 ah (plnB x28) x10 n else none) := Lib.hid (by rw [hR, hah]; rfl)
  have HB := Lib.hid (And.intro b10 (And.intro b18 hn))
  clear hR hah hs hn h54
  go_enter Try.func10, Try.ntmps10
  go_wp2_with fail
  obtain ⟨W0, hW0⟩ : ∃ W0, W0 = w.alloc (.cells #[.int .i64 0, .int .i64 0, .int .i64 0, .int .i64 0, .int .i64 0] 26) := ⟨_, rfl⟩
  have hr0 : Blk W0 w.heap.size 26 #[.int .i64 0, .int .i64 0, .int .i64 0, .int .i64 0, .int .i64 0] := by rw [hW0]; exact Blk.new _ _ _
  have hf0 : Fresh w W0 := by rw [hW0]; exact (Kept.refl _ _).alloc _
  rw [← hW0]
  refine (L10.out _ hf0).mono ?_
  rintro e w1 ⟨rfl, hf1⟩
  have hr1 := hr0.kept hf1 id
  have hf01 := hf0.trans hf1 fun _ _ e => e
  clear hf0 hf1 hr0 hW0 L10
  go_wp2_with fail
  refine (L18.out _ hf01).mono ?_
  rintro e w2 ⟨rfl, hf2⟩
  have hr2 := hr1.kept hf2 id
  have hf02 := hf01.trans hf2 fun _ _ e => e
  clear hf01 hf2 hr1 L18
  go_wp2_with fail
  refine (L22.out _ hf02).mono ?_
  rintro e w3 ⟨rfl, hf3⟩
  have hr3 := hr2.kept hf3 id
  have hf03 := hf02.trans hf3 fun _ _ e => e
  clear hf02 hf3 hr2 L22
  have H4 := Lib.hid (bms1 hr3 hf03 x18 ah x10 (max s (-s)) U3.out.1)
  clear hr3 hf03
  go_wp2_with fail
  refine (L28.out _ H4.out.fr).mono ?_
  generalize w3.alloc (.cells #[.int .i64 x18, .int .i64 (max s (-s)), .int .i64 3, .int .i64 0, .int .i64 x10] 26) = W4 at *
  generalize w3.heap.size = q at *
  rintro e w5 ⟨rfl, hf5⟩
  have H5 := Lib.hid (H4.out.fresh hf5)
  clear hf5 H4 L28 u1 u2 u4 U4
  by_cases d8 : x28 = 8
  · have d8' : ((x28 : Int) == 8) = true := by simp; omega
    have d24 : ((x28 : Int) != 24) = true := by simp; omega
    have d8n : ((x28 : Int) != 8) = false := by simp; omega
    have c2 : w5.cell? ⟨q, 2, none⟩ = some (.int .i64 3) := (H5.out.pic.cell 2).trans rfl
    have c2f : w5.frozen? ⟨q, 2, none⟩ = false := H5.out.pic.frozen 2
    have HP := Lib.hid (H5.out.planes 1)
    have qn : w.heap.size ≠ q := Nat.ne_of_lt H5.out.lt
    have qn2 : q ≠ w.heap.size := fun e => qn e.symm
    have pc0 : w5.cell? ⟨q, 0, none⟩ = some (.int .i64 x18) := (H5.out.pic.cell 0).trans rfl
    have pcf0 : w5.frozen? ⟨q, 0, none⟩ = false := H5.out.pic.frozen 0
    have pc1 : w5.cell? ⟨q, 1, none⟩ = some (.int .i64 ah) := (H5.out.pic.cell 1).trans rfl
    have pcf1 : w5.frozen? ⟨q, 1, none⟩ = false := H5.out.pic.frozen 1
    have pc2 : w5.cell? ⟨q, 2, none⟩ = some (.int .i64 3) := (H5.out.pic.cell 2).trans rfl
    have pcf2 : w5.frozen? ⟨q, 2, none⟩ = false := H5.out.pic.frozen 2
    have pc3 : w5.cell? ⟨q, 3, none⟩ = some (.int .i64 0) := (H5.out.pic.cell 3).trans rfl
    have pcf3 : w5.frozen? ⟨q, 3, none⟩ = false := H5.out.pic.frozen 3
    have pc4 : w5.cell? ⟨q, 4, none⟩ = some (.int .i64 x10) := (H5.out.pic.cell 4).trans rfl
    have pcf4 : w5.frozen? ⟨q, 4, none⟩ = false := H5.out.pic.frozen 4
    by_cases g1 : 54 ≤ x10
    · have g1' : ¬ (x10 : Int) < 54 := by omega
      go_wp2_with fail
      refine (L14.out _ HP.out.fr).mono ?_
      rintro e w6 ⟨rfl, hf⟩
      have H6 := Lib.hid (HP.out.fresh hf)
      clear hf
      by_cases g2 : 40 ≤ x14
      · have g2' : ¬ (x14 : Int) < 40 := by omega
        go_wp2_with fail
        refine (L26.out _ H6.out.fr).mono ?_
        rintro e w7 ⟨rfl, hf⟩
        have H7 := Lib.hid (H6.out.fresh hf)
        clear hf
        by_cases g3 : x26 = 1
        · have g3' : ((x26 : Int) != 1) = false := by simp; omega
          go_wp2_with fail
          refine (L30.out _ H7.out.fr).mono ?_
          rintro e w8 ⟨rfl, hf⟩
          have H8 := Lib.hid (H7.out.fresh hf)
          clear hf
          by_cases g4 : x30 = 0
          · have g4' : ((x30 : Int) != 0) = false := by simp; omega
            have HQ0 : Hid (R = bmpR x18 ah 1 x10 n) := Lib.hid (by rw [HR.out, if_pos ⟨g1, g2, g3, by omega, g4⟩, show plnB x28 = 1 from by rw [show x28 = 8 from by omega]; rfl])
            obtain ⟨pl, hpl⟩ : ∃ pl : Nat, pl = 1 := ⟨_, rfl⟩
            obtain ⟨st, hst⟩ : ∃ st, st = strB x18 pl := ⟨_, rfl⟩
            have HW := Lib.hid (strB_w x18 pl (by rw [hpl]; have := HB.out.2.1; omega))
            rw [← hst] at HW
            have Hst : Hid (st = strB x18 1 ∧ st ≤ 100000000000) := Lib.hid ⟨by rw [hst, hpl], by rw [hst, hpl]; have := HB.out.2.1; unfold strB; omega⟩
            have pd0 : w8.cell? ⟨q, 0, none⟩ = some (.int .i64 x18) := (H8.out.pic.cell 0).trans rfl
            have pdf0 : w8.frozen? ⟨q, 0, none⟩ = false := H8.out.pic.frozen 0
            have pd1 : w8.cell? ⟨q, 1, none⟩ = some (.int .i64 ah) := (H8.out.pic.cell 1).trans rfl
            have pdf1 : w8.frozen? ⟨q, 1, none⟩ = false := H8.out.pic.frozen 1
            have pd2 : w8.cell? ⟨q, 2, none⟩ = some (.int .i64 (pl : Nat)) := by rw [hpl]; exact (H8.out.pic.cell 2).trans rfl
            have pdf2 : w8.frozen? ⟨q, 2, none⟩ = false := H8.out.pic.frozen 2
            have pd3 : w8.cell? ⟨q, 3, none⟩ = some (.int .i64 0) := (H8.out.pic.cell 3).trans rfl
            have pdf3 : w8.frozen? ⟨q, 3, none⟩ = false := H8.out.pic.frozen 3
            have pd4 : w8.cell? ⟨q, 4, none⟩ = some (.int .i64 x10) := (H8.out.pic.cell 4).trans rfl
            have pdf4 : w8.frozen? ⟨q, 4, none⟩ = false := H8.out.pic.frozen 4
            have H9 : Hid (BmS w q x18 ah pl st x10 (w8.setCell ⟨q, 3, none⟩ (.int .i64 (st : Int)))) := Lib.hid (by rw [hpl]; exact H8.out.stride st (st : Int) rfl)
            have HFt := Lib.hid (qFits_any x18 ah pl st x10 n (w8.setCell ⟨q, 3, none⟩ (.int .i64 (st : Int))) (by have := Hst.out.2; omega) (by have := HB.out.1; omega) (by have := HB.out.2.2; omega))
            have Hpl := Lib.hid hpl
            clear hst g1 g2 g3 g4 hpl
            go_wp2_with fail
            rw [HW.out]
            refine HFt.out.mono ?_
            generalize w8.setCell ⟨q, 3, none⟩ (.int .i64 (st : Int)) = W9 at *
            rintro e wa ⟨rfl, hfa⟩
            have HA := Lib.hid (H9.out.fresh hfa)
            clear hfa HFt
            by_cases hfit : fitP x18 ah st x10 n
            · rw [decide_eq_true hfit]
              have HQ : Hid (R = some (x18, ah, pl, st, x10)) := Lib.hid (by rw [HQ0.out]; unfold bmpR; rw [← Hst.out.1, if_pos hfit, Hpl.out])
              have pe0 : wa.cell? ⟨q, 0, none⟩ = some (.int .i64 x18) := (HA.out.pic.cell 0).trans rfl
              have pef0 : wa.frozen? ⟨q, 0, none⟩ = false := HA.out.pic.frozen 0
              have pe1 : wa.cell? ⟨q, 1, none⟩ = some (.int .i64 ah) := (HA.out.pic.cell 1).trans rfl
              have pef1 : wa.frozen? ⟨q, 1, none⟩ = false := HA.out.pic.frozen 1
              have pe2 : wa.cell? ⟨q, 2, none⟩ = some (.int .i64 (pl : Nat)) := (HA.out.pic.cell 2).trans rfl
              have pef2 : wa.frozen? ⟨q, 2, none⟩ = false := HA.out.pic.frozen 2
              have pe3 : wa.cell? ⟨q, 3, none⟩ = some (.int .i64 st) := (HA.out.pic.cell 3).trans rfl
              have pef3 : wa.frozen? ⟨q, 3, none⟩ = false := HA.out.pic.frozen 3
              have pe4 : wa.cell? ⟨q, 4, none⟩ = some (.int .i64 x10) := (HA.out.pic.cell 4).trans rfl
              have pef4 : wa.frozen? ⟨q, 4, none⟩ = false := HA.out.pic.frozen 4
              have rz0 : wa.cell? ⟨w.heap.size, 0, none⟩ = some (.int .i64 0) := (HA.out.res.cell 0).trans rfl
              have rzf0 : wa.frozen? ⟨w.heap.size, 0, none⟩ = false := HA.out.res.frozen 0
              have rz1 : wa.cell? ⟨w.heap.size, 1, none⟩ = some (.int .i64 0) := (HA.out.res.cell 1).trans rfl
              have rzf1 : wa.frozen? ⟨w.heap.size, 1, none⟩ = false := HA.out.res.frozen 1
              have rz2 : wa.cell? ⟨w.heap.size, 2, none⟩ = some (.int .i64 0) := (HA.out.res.cell 2).trans rfl
              have rzf2 : wa.frozen? ⟨w.heap.size, 2, none⟩ = false := HA.out.res.frozen 2
              have rz3 : wa.cell? ⟨w.heap.size, 3, none⟩ = some (.int .i64 0) := (HA.out.res.cell 3).trans rfl
              have rzf3 : wa.frozen? ⟨w.heap.size, 3, none⟩ = false := HA.out.res.frozen 3
              have rz4 : wa.cell? ⟨w.heap.size, 4, none⟩ = some (.int .i64 0) := (HA.out.res.cell 4).trans rfl
              have rzf4 : wa.frozen? ⟨w.heap.size, 4, none⟩ = false := HA.out.res.frozen 4
              clear hfit
              go_wp2_with fail
              refine bodyPost_ret (v := .tuple #[pval (some (x18, ah, pl, st, x10)), .bool true]) (by simp [results, Try.f10, go_sem, pval, rz0, rz1, rz2, rz3, rz4]) rfl ?_
              exact ⟨by rw [HQ.out]; rfl, set5 HA.out.fr _ _ _ _ _⟩
            · rw [decide_eq_false hfit]
              have HQ : Hid (R = none) := Lib.hid (by rw [HQ0.out]; unfold bmpR; rw [← Hst.out.1, if_neg hfit])
              clear hfit
              have rz0 : wa.cell? ⟨w.heap.size, 0, none⟩ = some (.int .i64 0) := (HA.out.res.cell 0).trans rfl
              have rzf0 : wa.frozen? ⟨w.heap.size, 0, none⟩ = false := HA.out.res.frozen 0
              have rz1 : wa.cell? ⟨w.heap.size, 1, none⟩ = some (.int .i64 0) := (HA.out.res.cell 1).trans rfl
              have rzf1 : wa.frozen? ⟨w.heap.size, 1, none⟩ = false := HA.out.res.frozen 1
              have rz2 : wa.cell? ⟨w.heap.size, 2, none⟩ = some (.int .i64 0) := (HA.out.res.cell 2).trans rfl
              have rzf2 : wa.frozen? ⟨w.heap.size, 2, none⟩ = false := HA.out.res.frozen 2
              have rz3 : wa.cell? ⟨w.heap.size, 3, none⟩ = some (.int .i64 0) := (HA.out.res.cell 3).trans rfl
              have rzf3 : wa.frozen? ⟨w.heap.size, 3, none⟩ = false := HA.out.res.frozen 3
              have rz4 : wa.cell? ⟨w.heap.size, 4, none⟩ = some (.int .i64 0) := (HA.out.res.cell 4).trans rfl
              have rzf4 : wa.frozen? ⟨w.heap.size, 4, none⟩ = false := HA.out.res.frozen 4
              go_wp2_with fail
              refine bodyPost_ret (v := .tuple #[pval none, .bool false]) (by simp [results, Try.f10, go_sem, pval, rz0, rz1, rz2, rz3, rz4]) rfl ?_
              exact ⟨by rw [HQ.out]; rfl, set5 HA.out.fr _ _ _ _ _⟩
          · have g4' : ((x30 : Int) != 0) = true := by simp; omega
            have HQ : Hid (R = none) := Lib.hid (by rw [HR.out, if_neg (fun h => g4 h.2.2.2.2)])
            have rz0 : w8.cell? ⟨w.heap.size, 0, none⟩ = some (.int .i64 0) := (H8.out.res.cell 0).trans rfl
            have rzf0 : w8.frozen? ⟨w.heap.size, 0, none⟩ = false := H8.out.res.frozen 0
            have rz1 : w8.cell? ⟨w.heap.size, 1, none⟩ = some (.int .i64 0) := (H8.out.res.cell 1).trans rfl
            have rzf1 : w8.frozen? ⟨w.heap.size, 1, none⟩ = false := H8.out.res.frozen 1
            have rz2 : w8.cell? ⟨w.heap.size, 2, none⟩ = some (.int .i64 0) := (H8.out.res.cell 2).trans rfl
            have rzf2 : w8.frozen? ⟨w.heap.size, 2, none⟩ = false := H8.out.res.frozen 2
            have rz3 : w8.cell? ⟨w.heap.size, 3, none⟩ = some (.int .i64 0) := (H8.out.res.cell 3).trans rfl
            have rzf3 : w8.frozen? ⟨w.heap.size, 3, none⟩ = false := H8.out.res.frozen 3
            have rz4 : w8.cell? ⟨w.heap.size, 4, none⟩ = some (.int .i64 0) := (H8.out.res.cell 4).trans rfl
            have rzf4 : w8.frozen? ⟨w.heap.size, 4, none⟩ = false := H8.out.res.frozen 4
            go_wp2_with fail
            refine bodyPost_ret (v := .tuple #[pval none, .bool false]) (by simp [results, Try.f10, go_sem, pval, rz0, rz1, rz2, rz3, rz4]) rfl ?_
            exact ⟨by rw [HQ.out]; rfl, set5 H8.out.fr _ _ _ _ _⟩
        · have g3' : ((x26 : Int) != 1) = true := by simp; omega
          have HQ : Hid (R = none) := Lib.hid (by rw [HR.out, if_neg (fun h => g3 h.2.2.1)])
          have rz0 : w7.cell? ⟨w.heap.size, 0, none⟩ = some (.int .i64 0) := (H7.out.res.cell 0).trans rfl
          have rzf0 : w7.frozen? ⟨w.heap.size, 0, none⟩ = false := H7.out.res.frozen 0
          have rz1 : w7.cell? ⟨w.heap.size, 1, none⟩ = some (.int .i64 0) := (H7.out.res.cell 1).trans rfl
          have rzf1 : w7.frozen? ⟨w.heap.size, 1, none⟩ = false := H7.out.res.frozen 1
          have rz2 : w7.cell? ⟨w.heap.size, 2, none⟩ = some (.int .i64 0) := (H7.out.res.cell 2).trans rfl
          have rzf2 : w7.frozen? ⟨w.heap.size, 2, none⟩ = false := H7.out.res.frozen 2
          have rz3 : w7.cell? ⟨w.heap.size, 3, none⟩ = some (.int .i64 0) := (H7.out.res.cell 3).trans rfl
          have rzf3 : w7.frozen? ⟨w.heap.size, 3, none⟩ = false := H7.out.res.frozen 3
          have rz4 : w7.cell? ⟨w.heap.size, 4, none⟩ = some (.int .i64 0) := (H7.out.res.cell 4).trans rfl
          have rzf4 : w7.frozen? ⟨w.heap.size, 4, none⟩ = false := H7.out.res.frozen 4
          go_wp2_with fail
          refine bodyPost_ret (v := .tuple #[pval none, .bool false]) (by simp [results, Try.f10, go_sem, pval, rz0, rz1, rz2, rz3, rz4]) rfl ?_
          exact ⟨by rw [HQ.out]; rfl, set5 H7.out.fr _ _ _ _ _⟩
      · have g2' : (x14 : Int) < 40 := by omega
        have HQ : Hid (R = none) := Lib.hid (by rw [HR.out, if_neg (fun h => g2 h.2.1)])
        have rz0 : w6.cell? ⟨w.heap.size, 0, none⟩ = some (.int .i64 0) := (H6.out.res.cell 0).trans rfl
        have rzf0 : w6.frozen? ⟨w.heap.size, 0, none⟩ = false := H6.out.res.frozen 0
        have rz1 : w6.cell? ⟨w.heap.size, 1, none⟩ = some (.int .i64 0) := (H6.out.res.cell 1).trans rfl
        have rzf1 : w6.frozen? ⟨w.heap.size, 1, none⟩ = false := H6.out.res.frozen 1
        have rz2 : w6.cell? ⟨w.heap.size, 2, none⟩ = some (.int .i64 0) := (H6.out.res.cell 2).trans rfl
        have rzf2 : w6.frozen? ⟨w.heap.size, 2, none⟩ = false := H6.out.res.frozen 2
        have rz3 : w6.cell? ⟨w.heap.size, 3, none⟩ = some (.int .i64 0) := (H6.out.res.cell 3).trans rfl
        have rzf3 : w6.frozen? ⟨w.heap.size, 3, none⟩ = false := H6.out.res.frozen 3
        have rz4 : w6.cell? ⟨w.heap.size, 4, none⟩ = some (.int .i64 0) := (H6.out.res.cell 4).trans rfl
        have rzf4 : w6.frozen? ⟨w.heap.size, 4, none⟩ = false := H6.out.res.frozen 4
        go_wp2_with fail
        refine bodyPost_ret (v := .tuple #[pval none, .bool false]) (by simp [results, Try.f10, go_sem, pval, rz0, rz1, rz2, rz3, rz4]) rfl ?_
        exact ⟨by rw [HQ.out]; rfl, set5 H6.out.fr _ _ _ _ _⟩
    · have g1' : (x10 : Int) < 54 := by omega
      have HQ : Hid (R = none) := Lib.hid (by rw [HR.out, if_neg (fun h => g1 h.1)])
      have rz0 : w5.cell? ⟨w.heap.size, 0, none⟩ = some (.int .i64 0) := (H5.out.res.cell 0).trans rfl
      have rzf0 : w5.frozen? ⟨w.heap.size, 0, none⟩ = false := H5.out.res.frozen 0
      have rz1 : w5.cell? ⟨w.heap.size, 1, none⟩ = some (.int .i64 0) := (H5.out.res.cell 1).trans rfl
      have rzf1 : w5.frozen? ⟨w.heap.size, 1, none⟩ = false := H5.out.res.frozen 1
      have rz2 : w5.cell? ⟨w.heap.size, 2, none⟩ = some (.int .i64 0) := (H5.out.res.cell 2).trans rfl
      have rzf2 : w5.frozen? ⟨w.heap.size, 2, none⟩ = false := H5.out.res.frozen 2
      have rz3 : w5.cell? ⟨w.heap.size, 3, none⟩ = some (.int .i64 0) := (H5.out.res.cell 3).trans rfl
      have rzf3 : w5.frozen? ⟨w.heap.size, 3, none⟩ = false := H5.out.res.frozen 3
      have rz4 : w5.cell? ⟨w.heap.size, 4, none⟩ = some (.int .i64 0) := (H5.out.res.cell 4).trans rfl
      have rzf4 : w5.frozen? ⟨w.heap.size, 4, none⟩ = false := H5.out.res.frozen 4
      go_wp2_with fail
      refine bodyPost_ret (v := .tuple #[pval none, .bool false]) (by simp [results, Try.f10, go_sem, pval, rz0, rz1, rz2, rz3, rz4]) rfl ?_
      exact ⟨by rw [HQ.out]; rfl, set5 HP.out.fr _ _ _ _ _⟩
  · have d8' : ((x28 : Int) == 8) = false := by simp; omega
    have d8n : ((x28 : Int) != 8) = true := by simp; omega
    by_cases e24 : x28 = 24
    · have d24 : ((x28 : Int) != 24) = false := by simp; omega
      have pc0 : w5.cell? ⟨q, 0, none⟩ = some (.int .i64 x18) := (H5.out.pic.cell 0).trans rfl
      have pcf0 : w5.frozen? ⟨q, 0, none⟩ = false := H5.out.pic.frozen 0
      have pc1 : w5.cell? ⟨q, 1, none⟩ = some (.int .i64 ah) := (H5.out.pic.cell 1).trans rfl
      have pcf1 : w5.frozen? ⟨q, 1, none⟩ = false := H5.out.pic.frozen 1
      have pc2 : w5.cell? ⟨q, 2, none⟩ = some (.int .i64 3) := (H5.out.pic.cell 2).trans rfl
      have pcf2 : w5.frozen? ⟨q, 2, none⟩ = false := H5.out.pic.frozen 2
      have pc3 : w5.cell? ⟨q, 3, none⟩ = some (.int .i64 0) := (H5.out.pic.cell 3).trans rfl
      have pcf3 : w5.frozen? ⟨q, 3, none⟩ = false := H5.out.pic.frozen 3
      have pc4 : w5.cell? ⟨q, 4, none⟩ = some (.int .i64 x10) := (H5.out.pic.cell 4).trans rfl
      have pcf4 : w5.frozen? ⟨q, 4, none⟩ = false := H5.out.pic.frozen 4
      by_cases g1 : 54 ≤ x10
      · have g1' : ¬ (x10 : Int) < 54 := by omega
        go_wp2_with fail
        refine (L14.out _ H5.out.fr).mono ?_
        rintro e w6 ⟨rfl, hf⟩
        have H6 := Lib.hid (H5.out.fresh hf)
        clear hf
        by_cases g2 : 40 ≤ x14
        · have g2' : ¬ (x14 : Int) < 40 := by omega
          go_wp2_with fail
          refine (L26.out _ H6.out.fr).mono ?_
          rintro e w7 ⟨rfl, hf⟩
          have H7 := Lib.hid (H6.out.fresh hf)
          clear hf
          by_cases g3 : x26 = 1
          · have g3' : ((x26 : Int) != 1) = false := by simp; omega
            go_wp2_with fail
            refine (L30.out _ H7.out.fr).mono ?_
            rintro e w8 ⟨rfl, hf⟩
            have H8 := Lib.hid (H7.out.fresh hf)
            clear hf
            by_cases g4 : x30 = 0
            · have g4' : ((x30 : Int) != 0) = false := by simp; omega
              have HQ0 : Hid (R = bmpR x18 ah 3 x10 n) := Lib.hid (by rw [HR.out, if_pos ⟨g1, g2, g3, by omega, g4⟩, show plnB x28 = 3 from by rw [show x28 = 24 from by omega]; rfl])
              obtain ⟨pl, hpl⟩ : ∃ pl : Nat, pl = 3 := ⟨_, rfl⟩
              obtain ⟨st, hst⟩ : ∃ st, st = strB x18 pl := ⟨_, rfl⟩
              have HW := Lib.hid (strB_w x18 pl (by rw [hpl]; have := HB.out.2.1; omega))
              rw [← hst] at HW
              have Hst : Hid (st = strB x18 3 ∧ st ≤ 100000000000) := Lib.hid ⟨by rw [hst, hpl], by rw [hst, hpl]; have := HB.out.2.1; unfold strB; omega⟩
              have pd0 : w8.cell? ⟨q, 0, none⟩ = some (.int .i64 x18) := (H8.out.pic.cell 0).trans rfl
              have pdf0 : w8.frozen? ⟨q, 0, none⟩ = false := H8.out.pic.frozen 0
              have pd1 : w8.cell? ⟨q, 1, none⟩ = some (.int .i64 ah) := (H8.out.pic.cell 1).trans rfl
              have pdf1 : w8.frozen? ⟨q, 1, none⟩ = false := H8.out.pic.frozen 1
              have pd2 : w8.cell? ⟨q, 2, none⟩ = some (.int .i64 (pl : Nat)) := by rw [hpl]; exact (H8.out.pic.cell 2).trans rfl
              have pdf2 : w8.frozen? ⟨q, 2, none⟩ = false := H8.out.pic.frozen 2
              have pd3 : w8.cell? ⟨q, 3, none⟩ = some (.int .i64 0) := (H8.out.pic.cell 3).trans rfl
              have pdf3 : w8.frozen? ⟨q, 3, none⟩ = false := H8.out.pic.frozen 3
              have pd4 : w8.cell? ⟨q, 4, none⟩ = some (.int .i64 x10) := (H8.out.pic.cell 4).trans rfl
              have pdf4 : w8.frozen? ⟨q, 4, none⟩ = false := H8.out.pic.frozen 4
              have H9 : Hid (BmS w q x18 ah pl st x10 (w8.setCell ⟨q, 3, none⟩ (.int .i64 (st : Int)))) := Lib.hid (by rw [hpl]; exact H8.out.stride st (st : Int) rfl)
              have HFt := Lib.hid (qFits_any x18 ah pl st x10 n (w8.setCell ⟨q, 3, none⟩ (.int .i64 (st : Int))) (by have := Hst.out.2; omega) (by have := HB.out.1; omega) (by have := HB.out.2.2; omega))
              have Hpl := Lib.hid hpl
              clear hst g1 g2 g3 g4 hpl
              go_wp2_with fail
              rw [HW.out]
              refine HFt.out.mono ?_
              generalize w8.setCell ⟨q, 3, none⟩ (.int .i64 (st : Int)) = W9 at *
              rintro e wa ⟨rfl, hfa⟩
              have HA := Lib.hid (H9.out.fresh hfa)
              clear hfa HFt
              by_cases hfit : fitP x18 ah st x10 n
              · rw [decide_eq_true hfit]
                have HQ : Hid (R = some (x18, ah, pl, st, x10)) := Lib.hid (by rw [HQ0.out]; unfold bmpR; rw [← Hst.out.1, if_pos hfit, Hpl.out])
                have pe0 : wa.cell? ⟨q, 0, none⟩ = some (.int .i64 x18) := (HA.out.pic.cell 0).trans rfl
                have pef0 : wa.frozen? ⟨q, 0, none⟩ = false := HA.out.pic.frozen 0
                have pe1 : wa.cell? ⟨q, 1, none⟩ = some (.int .i64 ah) := (HA.out.pic.cell 1).trans rfl
                have pef1 : wa.frozen? ⟨q, 1, none⟩ = false := HA.out.pic.frozen 1
                have pe2 : wa.cell? ⟨q, 2, none⟩ = some (.int .i64 (pl : Nat)) := (HA.out.pic.cell 2).trans rfl
                have pef2 : wa.frozen? ⟨q, 2, none⟩ = false := HA.out.pic.frozen 2
                have pe3 : wa.cell? ⟨q, 3, none⟩ = some (.int .i64 st) := (HA.out.pic.cell 3).trans rfl
                have pef3 : wa.frozen? ⟨q, 3, none⟩ = false := HA.out.pic.frozen 3
                have pe4 : wa.cell? ⟨q, 4, none⟩ = some (.int .i64 x10) := (HA.out.pic.cell 4).trans rfl
                have pef4 : wa.frozen? ⟨q, 4, none⟩ = false := HA.out.pic.frozen 4
                have rz0 : wa.cell? ⟨w.heap.size, 0, none⟩ = some (.int .i64 0) := (HA.out.res.cell 0).trans rfl
                have rzf0 : wa.frozen? ⟨w.heap.size, 0, none⟩ = false := HA.out.res.frozen 0
                have rz1 : wa.cell? ⟨w.heap.size, 1, none⟩ = some (.int .i64 0) := (HA.out.res.cell 1).trans rfl
                have rzf1 : wa.frozen? ⟨w.heap.size, 1, none⟩ = false := HA.out.res.frozen 1
                have rz2 : wa.cell? ⟨w.heap.size, 2, none⟩ = some (.int .i64 0) := (HA.out.res.cell 2).trans rfl
                have rzf2 : wa.frozen? ⟨w.heap.size, 2, none⟩ = false := HA.out.res.frozen 2
                have rz3 : wa.cell? ⟨w.heap.size, 3, none⟩ = some (.int .i64 0) := (HA.out.res.cell 3).trans rfl
                have rzf3 : wa.frozen? ⟨w.heap.size, 3, none⟩ = false := HA.out.res.frozen 3
                have rz4 : wa.cell? ⟨w.heap.size, 4, none⟩ = some (.int .i64 0) := (HA.out.res.cell 4).trans rfl
                have rzf4 : wa.frozen? ⟨w.heap.size, 4, none⟩ = false := HA.out.res.frozen 4
                clear hfit
                go_wp2_with fail
                refine bodyPost_ret (v := .tuple #[pval (some (x18, ah, pl, st, x10)), .bool true]) (by simp [results, Try.f10, go_sem, pval, rz0, rz1, rz2, rz3, rz4]) rfl ?_
                exact ⟨by rw [HQ.out]; rfl, set5 HA.out.fr _ _ _ _ _⟩
              · rw [decide_eq_false hfit]
                have HQ : Hid (R = none) := Lib.hid (by rw [HQ0.out]; unfold bmpR; rw [← Hst.out.1, if_neg hfit])
                clear hfit
                have rz0 : wa.cell? ⟨w.heap.size, 0, none⟩ = some (.int .i64 0) := (HA.out.res.cell 0).trans rfl
                have rzf0 : wa.frozen? ⟨w.heap.size, 0, none⟩ = false := HA.out.res.frozen 0
                have rz1 : wa.cell? ⟨w.heap.size, 1, none⟩ = some (.int .i64 0) := (HA.out.res.cell 1).trans rfl
                have rzf1 : wa.frozen? ⟨w.heap.size, 1, none⟩ = false := HA.out.res.frozen 1
                have rz2 : wa.cell? ⟨w.heap.size, 2, none⟩ = some (.int .i64 0) := (HA.out.res.cell 2).trans rfl
                have rzf2 : wa.frozen? ⟨w.heap.size, 2, none⟩ = false := HA.out.res.frozen 2
                have rz3 : wa.cell? ⟨w.heap.size, 3, none⟩ = some (.int .i64 0) := (HA.out.res.cell 3).trans rfl
                have rzf3 : wa.frozen? ⟨w.heap.size, 3, none⟩ = false := HA.out.res.frozen 3
                have rz4 : wa.cell? ⟨w.heap.size, 4, none⟩ = some (.int .i64 0) := (HA.out.res.cell 4).trans rfl
                have rzf4 : wa.frozen? ⟨w.heap.size, 4, none⟩ = false := HA.out.res.frozen 4
                go_wp2_with fail
                refine bodyPost_ret (v := .tuple #[pval none, .bool false]) (by simp [results, Try.f10, go_sem, pval, rz0, rz1, rz2, rz3, rz4]) rfl ?_
                exact ⟨by rw [HQ.out]; rfl, set5 HA.out.fr _ _ _ _ _⟩
            · have g4' : ((x30 : Int) != 0) = true := by simp; omega
              have HQ : Hid (R = none) := Lib.hid (by rw [HR.out, if_neg (fun h => g4 h.2.2.2.2)])
              have rz0 : w8.cell? ⟨w.heap.size, 0, none⟩ = some (.int .i64 0) := (H8.out.res.cell 0).trans rfl
              have rzf0 : w8.frozen? ⟨w.heap.size, 0, none⟩ = false := H8.out.res.frozen 0
              have rz1 : w8.cell? ⟨w.heap.size, 1, none⟩ = some (.int .i64 0) := (H8.out.res.cell 1).trans rfl
              have rzf1 : w8.frozen? ⟨w.heap.size, 1, none⟩ = false := H8.out.res.frozen 1
              have rz2 : w8.cell? ⟨w.heap.size, 2, none⟩ = some (.int .i64 0) := (H8.out.res.cell 2).trans rfl
              have rzf2 : w8.frozen? ⟨w.heap.size, 2, none⟩ = false := H8.out.res.frozen 2
              have rz3 : w8.cell? ⟨w.heap.size, 3, none⟩ = some (.int .i64 0) := (H8.out.res.cell 3).trans rfl
              have rzf3 : w8.frozen? ⟨w.heap.size, 3, none⟩ = false := H8.out.res.frozen 3
              have rz4 : w8.cell? ⟨w.heap.size, 4, none⟩ = some (.int .i64 0) := (H8.out.res.cell 4).trans rfl
              have rzf4 : w8.frozen? ⟨w.heap.size, 4, none⟩ = false := H8.out.res.frozen 4
              go_wp2_with fail
              refine bodyPost_ret (v := .tuple #[pval none, .bool false]) (by simp [results, Try.f10, go_sem, pval, rz0, rz1, rz2, rz3, rz4]) rfl ?_
              exact ⟨by rw [HQ.out]; rfl, set5 H8.out.fr _ _ _ _ _⟩
          · have g3' : ((x26 : Int) != 1) = true := by simp; omega
            have HQ : Hid (R = none) := Lib.hid (by rw [HR.out, if_neg (fun h => g3 h.2.2.1)])
            have rz0 : w7.cell? ⟨w.heap.size, 0, none⟩ = some (.int .i64 0) := (H7.out.res.cell 0).trans rfl
            have rzf0 : w7.frozen? ⟨w.heap.size, 0, none⟩ = false := H7.out.res.frozen 0
            have rz1 : w7.cell? ⟨w.heap.size, 1, none⟩ = some (.int .i64 0) := (H7.out.res.cell 1).trans rfl
            have rzf1 : w7.frozen? ⟨w.heap.size, 1, none⟩ = false := H7.out.res.frozen 1
            have rz2 : w7.cell? ⟨w.heap.size, 2, none⟩ = some (.int .i64 0) := (H7.out.res.cell 2).trans rfl
            have rzf2 : w7.frozen? ⟨w.heap.size, 2, none⟩ = false := H7.out.res.frozen 2
            have rz3 : w7.cell? ⟨w.heap.size, 3, none⟩ = some (.int .i64 0) := (H7.out.res.cell 3).trans rfl
            have rzf3 : w7.frozen? ⟨w.heap.size, 3, none⟩ = false := H7.out.res.frozen 3
            have rz4 : w7.cell? ⟨w.heap.size, 4, none⟩ = some (.int .i64 0) := (H7.out.res.cell 4).trans rfl
            have rzf4 : w7.frozen? ⟨w.heap.size, 4, none⟩ = false := H7.out.res.frozen 4
            go_wp2_with fail
            refine bodyPost_ret (v := .tuple #[pval none, .bool false]) (by simp [results, Try.f10, go_sem, pval, rz0, rz1, rz2, rz3, rz4]) rfl ?_
            exact ⟨by rw [HQ.out]; rfl, set5 H7.out.fr _ _ _ _ _⟩
        · have g2' : (x14 : Int) < 40 := by omega
          have HQ : Hid (R = none) := Lib.hid (by rw [HR.out, if_neg (fun h => g2 h.2.1)])
          have rz0 : w6.cell? ⟨w.heap.size, 0, none⟩ = some (.int .i64 0) := (H6.out.res.cell 0).trans rfl
          have rzf0 : w6.frozen? ⟨w.heap.size, 0, none⟩ = false := H6.out.res.frozen 0
          have rz1 : w6.cell? ⟨w.heap.size, 1, none⟩ = some (.int .i64 0) := (H6.out.res.cell 1).trans rfl
          have rzf1 : w6.frozen? ⟨w.heap.size, 1, none⟩ = false := H6.out.res.frozen 1
          have rz2 : w6.cell? ⟨w.heap.size, 2, none⟩ = some (.int .i64 0) := (H6.out.res.cell 2).trans rfl
          have rzf2 : w6.frozen? ⟨w.heap.size, 2, none⟩ = false := H6.out.res.frozen 2
          have rz3 : w6.cell? ⟨w.heap.size, 3, none⟩ = some (.int .i64 0) := (H6.out.res.cell 3).trans rfl
          have rzf3 : w6.frozen? ⟨w.heap.size, 3, none⟩ = false := H6.out.res.frozen 3
          have rz4 : w6.cell? ⟨w.heap.size, 4, none⟩ = some (.int .i64 0) := (H6.out.res.cell 4).trans rfl
          have rzf4 : w6.frozen? ⟨w.heap.size, 4, none⟩ = false := H6.out.res.frozen 4
          go_wp2_with fail
          refine bodyPost_ret (v := .tuple #[pval none, .bool false]) (by simp [results, Try.f10, go_sem, pval, rz0, rz1, rz2, rz3, rz4]) rfl ?_
          exact ⟨by rw [HQ.out]; rfl, set5 H6.out.fr _ _ _ _ _⟩
      · have g1' : (x10 : Int) < 54 := by omega
        have HQ : Hid (R = none) := Lib.hid (by rw [HR.out, if_neg (fun h => g1 h.1)])
        have rz0 : w5.cell? ⟨w.heap.size, 0, none⟩ = some (.int .i64 0) := (H5.out.res.cell 0).trans rfl
        have rzf0 : w5.frozen? ⟨w.heap.size, 0, none⟩ = false := H5.out.res.frozen 0
        have rz1 : w5.cell? ⟨w.heap.size, 1, none⟩ = some (.int .i64 0) := (H5.out.res.cell 1).trans rfl
        have rzf1 : w5.frozen? ⟨w.heap.size, 1, none⟩ = false := H5.out.res.frozen 1
        have rz2 : w5.cell? ⟨w.heap.size, 2, none⟩ = some (.int .i64 0) := (H5.out.res.cell 2).trans rfl
        have rzf2 : w5.frozen? ⟨w.heap.size, 2, none⟩ = false := H5.out.res.frozen 2
        have rz3 : w5.cell? ⟨w.heap.size, 3, none⟩ = some (.int .i64 0) := (H5.out.res.cell 3).trans rfl
        have rzf3 : w5.frozen? ⟨w.heap.size, 3, none⟩ = false := H5.out.res.frozen 3
        have rz4 : w5.cell? ⟨w.heap.size, 4, none⟩ = some (.int .i64 0) := (H5.out.res.cell 4).trans rfl
        have rzf4 : w5.frozen? ⟨w.heap.size, 4, none⟩ = false := H5.out.res.frozen 4
        go_wp2_with fail
        refine bodyPost_ret (v := .tuple #[pval none, .bool false]) (by simp [results, Try.f10, go_sem, pval, rz0, rz1, rz2, rz3, rz4]) rfl ?_
        exact ⟨by rw [HQ.out]; rfl, set5 H5.out.fr _ _ _ _ _⟩
    · have d24 : ((x28 : Int) != 24) = true := by simp; omega
      have pc0 : w5.cell? ⟨q, 0, none⟩ = some (.int .i64 x18) := (H5.out.pic.cell 0).trans rfl
      have pcf0 : w5.frozen? ⟨q, 0, none⟩ = false := H5.out.pic.frozen 0
      have pc1 : w5.cell? ⟨q, 1, none⟩ = some (.int .i64 ah) := (H5.out.pic.cell 1).trans rfl
      have pcf1 : w5.frozen? ⟨q, 1, none⟩ = false := H5.out.pic.frozen 1
      have pc2 : w5.cell? ⟨q, 2, none⟩ = some (.int .i64 3) := (H5.out.pic.cell 2).trans rfl
      have pcf2 : w5.frozen? ⟨q, 2, none⟩ = false := H5.out.pic.frozen 2
      have pc3 : w5.cell? ⟨q, 3, none⟩ = some (.int .i64 0) := (H5.out.pic.cell 3).trans rfl
      have pcf3 : w5.frozen? ⟨q, 3, none⟩ = false := H5.out.pic.frozen 3
      have pc4 : w5.cell? ⟨q, 4, none⟩ = some (.int .i64 x10) := (H5.out.pic.cell 4).trans rfl
      have pcf4 : w5.frozen? ⟨q, 4, none⟩ = false := H5.out.pic.frozen 4
      by_cases g1 : 54 ≤ x10
      · have g1' : ¬ (x10 : Int) < 54 := by omega
        go_wp2_with fail
        refine (L14.out _ H5.out.fr).mono ?_
        rintro e w6 ⟨rfl, hf⟩
        have H6 := Lib.hid (H5.out.fresh hf)
        clear hf
        by_cases g2 : 40 ≤ x14
        · have g2' : ¬ (x14 : Int) < 40 := by omega
          go_wp2_with fail
          refine (L26.out _ H6.out.fr).mono ?_
          rintro e w7 ⟨rfl, hf⟩
          have H7 := Lib.hid (H6.out.fresh hf)
          clear hf
          by_cases g3 : x26 = 1
          · have g3' : ((x26 : Int) != 1) = false := by simp; omega
            have HQ : Hid (R = none) := Lib.hid (by rw [HR.out, if_neg (fun h => absurd h.2.2.2.1 (by omega))])
            have rz0 : w7.cell? ⟨w.heap.size, 0, none⟩ = some (.int .i64 0) := (H7.out.res.cell 0).trans rfl
            have rzf0 : w7.frozen? ⟨w.heap.size, 0, none⟩ = false := H7.out.res.frozen 0
            have rz1 : w7.cell? ⟨w.heap.size, 1, none⟩ = some (.int .i64 0) := (H7.out.res.cell 1).trans rfl
            have rzf1 : w7.frozen? ⟨w.heap.size, 1, none⟩ = false := H7.out.res.frozen 1
            have rz2 : w7.cell? ⟨w.heap.size, 2, none⟩ = some (.int .i64 0) := (H7.out.res.cell 2).trans rfl
            have rzf2 : w7.frozen? ⟨w.heap.size, 2, none⟩ = false := H7.out.res.frozen 2
            have rz3 : w7.cell? ⟨w.heap.size, 3, none⟩ = some (.int .i64 0) := (H7.out.res.cell 3).trans rfl
            have rzf3 : w7.frozen? ⟨w.heap.size, 3, none⟩ = false := H7.out.res.frozen 3
            have rz4 : w7.cell? ⟨w.heap.size, 4, none⟩ = some (.int .i64 0) := (H7.out.res.cell 4).trans rfl
            have rzf4 : w7.frozen? ⟨w.heap.size, 4, none⟩ = false := H7.out.res.frozen 4
            go_wp2_with fail
            refine bodyPost_ret (v := .tuple #[pval none, .bool false]) (by simp [results, Try.f10, go_sem, pval, rz0, rz1, rz2, rz3, rz4]) rfl ?_
            exact ⟨by rw [HQ.out]; rfl, set5 H7.out.fr _ _ _ _ _⟩
          · have g3' : ((x26 : Int) != 1) = true := by simp; omega
            have HQ : Hid (R = none) := Lib.hid (by rw [HR.out, if_neg (fun h => g3 h.2.2.1)])
            have rz0 : w7.cell? ⟨w.heap.size, 0, none⟩ = some (.int .i64 0) := (H7.out.res.cell 0).trans rfl
            have rzf0 : w7.frozen? ⟨w.heap.size, 0, none⟩ = false := H7.out.res.frozen 0
            have rz1 : w7.cell? ⟨w.heap.size, 1, none⟩ = some (.int .i64 0) := (H7.out.res.cell 1).trans rfl
            have rzf1 : w7.frozen? ⟨w.heap.size, 1, none⟩ = false := H7.out.res.frozen 1
            have rz2 : w7.cell? ⟨w.heap.size, 2, none⟩ = some (.int .i64 0) := (H7.out.res.cell 2).trans rfl
            have rzf2 : w7.frozen? ⟨w.heap.size, 2, none⟩ = false := H7.out.res.frozen 2
            have rz3 : w7.cell? ⟨w.heap.size, 3, none⟩ = some (.int .i64 0) := (H7.out.res.cell 3).trans rfl
            have rzf3 : w7.frozen? ⟨w.heap.size, 3, none⟩ = false := H7.out.res.frozen 3
            have rz4 : w7.cell? ⟨w.heap.size, 4, none⟩ = some (.int .i64 0) := (H7.out.res.cell 4).trans rfl
            have rzf4 : w7.frozen? ⟨w.heap.size, 4, none⟩ = false := H7.out.res.frozen 4
            go_wp2_with fail
            refine bodyPost_ret (v := .tuple #[pval none, .bool false]) (by simp [results, Try.f10, go_sem, pval, rz0, rz1, rz2, rz3, rz4]) rfl ?_
            exact ⟨by rw [HQ.out]; rfl, set5 H7.out.fr _ _ _ _ _⟩
        · have g2' : (x14 : Int) < 40 := by omega
          have HQ : Hid (R = none) := Lib.hid (by rw [HR.out, if_neg (fun h => g2 h.2.1)])
          have rz0 : w6.cell? ⟨w.heap.size, 0, none⟩ = some (.int .i64 0) := (H6.out.res.cell 0).trans rfl
          have rzf0 : w6.frozen? ⟨w.heap.size, 0, none⟩ = false := H6.out.res.frozen 0
          have rz1 : w6.cell? ⟨w.heap.size, 1, none⟩ = some (.int .i64 0) := (H6.out.res.cell 1).trans rfl
          have rzf1 : w6.frozen? ⟨w.heap.size, 1, none⟩ = false := H6.out.res.frozen 1
          have rz2 : w6.cell? ⟨w.heap.size, 2, none⟩ = some (.int .i64 0) := (H6.out.res.cell 2).trans rfl
          have rzf2 : w6.frozen? ⟨w.heap.size, 2, none⟩ = false := H6.out.res.frozen 2
          have rz3 : w6.cell? ⟨w.heap.size, 3, none⟩ = some (.int .i64 0) := (H6.out.res.cell 3).trans rfl
          have rzf3 : w6.frozen? ⟨w.heap.size, 3, none⟩ = false := H6.out.res.frozen 3
          have rz4 : w6.cell? ⟨w.heap.size, 4, none⟩ = some (.int .i64 0) := (H6.out.res.cell 4).trans rfl
          have rzf4 : w6.frozen? ⟨w.heap.size, 4, none⟩ = false := H6.out.res.frozen 4
          go_wp2_with fail
          refine bodyPost_ret (v := .tuple #[pval none, .bool false]) (by simp [results, Try.f10, go_sem, pval, rz0, rz1, rz2, rz3, rz4]) rfl ?_
          exact ⟨by rw [HQ.out]; rfl, set5 H6.out.fr _ _ _ _ _⟩
      · have g1' : (x10 : Int) < 54 := by omega
        have HQ : Hid (R = none) := Lib.hid (by rw [HR.out, if_neg (fun h => g1 h.1)])
        have rz0 : w5.cell? ⟨w.heap.size, 0, none⟩ = some (.int .i64 0) := (H5.out.res.cell 0).trans rfl
        have rzf0 : w5.frozen? ⟨w.heap.size, 0, none⟩ = false := H5.out.res.frozen 0
        have rz1 : w5.cell? ⟨w.heap.size, 1, none⟩ = some (.int .i64 0) := (H5.out.res.cell 1).trans rfl
        have rzf1 : w5.frozen? ⟨w.heap.size, 1, none⟩ = false := H5.out.res.frozen 1
        have rz2 : w5.cell? ⟨w.heap.size, 2, none⟩ = some (.int .i64 0) := (H5.out.res.cell 2).trans rfl
        have rzf2 : w5.frozen? ⟨w.heap.size, 2, none⟩ = false := H5.out.res.frozen 2
        have rz3 : w5.cell? ⟨w.heap.size, 3, none⟩ = some (.int .i64 0) := (H5.out.res.cell 3).trans rfl
        have rzf3 : w5.frozen? ⟨w.heap.size, 3, none⟩ = false := H5.out.res.frozen 3
        have rz4 : w5.cell? ⟨w.heap.size, 4, none⟩ = some (.int .i64 0) := (H5.out.res.cell 4).trans rfl
        have rzf4 : w5.frozen? ⟨w.heap.size, 4, none⟩ = false := H5.out.res.frozen 4
        go_wp2_with fail
        refine bodyPost_ret (v := .tuple #[pval none, .bool false]) (by simp [results, Try.f10, go_sem, pval, rz0, rz1, rz2, rz3, rz4]) rfl ?_
        exact ⟨by rw [HQ.out]; rfl, set5 H5.out.fr _ _ _ _ _⟩

/-- Bmp: P16.1. -/
theorem qBmp_any (A : Option Addr) (n c : Nat) (l : List Int) (w : World) (hr : Row w .u8 A n l) (h8 : B8 l) (hn : n ≤ 1000000000) (hnc : n ≤ c) :
    Calls Try.prog 10 #[.slice A n c] w fun e w' => e = .returned (.tuple #[pval (bmpP l), .bool (bmpP l).isSome]) ∧ Fresh w w' := by
  by_cases hh : hdB l
  · obtain rfl := hr.len
    obtain ⟨hl, h0, h1⟩ := id hh
    obtain ⟨b, o, rfl, hb, hc⟩ := hr.at_ 0 (by omega)
    obtain ⟨b', o', eA, _, hc1⟩ := hr.at_ 1 (by omega)
    injection eA with eA
    injection eA with e1 e2
    subst e1 e2
    rw [h0, Nat.add_zero] at hc
    rw [h1] at hc1
    have HL : ∀ p k : Nat, p + k ≤ 54 → k ≤ 4 → Hid (∀ V, Fresh w V → Calls Try.prog 21 #[.slice (some ⟨b, o, none⟩) l.length c, .int .i64 (p : Int), .int .i64 (k : Int)] V fun e w' => e = .returned (.int .i64 (leAt l p k : Nat)) ∧ Fresh V w') := fun p k hp hk => Lib.hid fun V hV =>
      qPlittle_any (some ⟨b, o, none⟩) l.length c l p k V (hr.kept hV (fun _ _ _ _ => id)) h8 (by omega) hk hn hnc
    have hq : bmpP l = bmpQ (leAt l 10 4) (leAt l 14 4) (leAt l 18 4) (leAt l 22 4) (leAt l 26 2) (leAt l 28 2) (leAt l 30 4) l.length := by
      unfold bmpP bmpQ
      by_cases hk : okB (leAt l 10 4) (leAt l 14 4) (leAt l 26 2) (leAt l 28 2) (leAt l 30 4)
      · rw [if_pos ⟨hh, hk⟩, if_pos hk]
      · rw [if_neg (fun h => hk h.2), if_neg hk]
    rw [hq]
    exact qBmpGo_any b o c l.length _ _ _ _ _ _ _ w hn hl hb hc hc1 (leAt_lt h8 (p := 10) (k := 4) (by omega)) (leAt_lt h8 (p := 18) (k := 4) (by omega)) (leAt_lt h8 (p := 22) (k := 4) (by omega))
      (HL 10 4 (by omega) (by omega)) (HL 14 4 (by omega) (by omega)) (HL 18 4 (by omega) (by omega)) (HL 22 4 (by omega) (by omega)) (HL 26 2 (by omega) (by omega)) (HL 28 2 (by omega) (by omega)) (HL 30 4 (by omega) (by omega))
  · have hq : bmpP l = none := if_neg fun h => hh h.1
    rw [hq]
    exact qBmpNo_any A n c l w hr h8 hn hh

end Go.Proofs.Ytlmhodkdcllcjaa
