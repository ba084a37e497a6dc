/- A row out of what was turned: the code's. -/
import Derived.Test.YtnmapfoinhomdaaFilCa
import Derived.Deep.RegionHeld3
namespace Go.Proofs.Ytnmapfoinhomdaa
open Go.RowKit
set_option maxRecDepth 100000

attribute [local go_sem ↓] Go.wp_at_zero Go.wp_at_succ

set_option maxHeartbeats 1600000 in
/-- A row out of what was turned, into bytes; the row ahead may lie in them. -/
theorem cFillF_any (A : Option Addr) (n c : Nat) (l : List Int) (B : Option Addr) (m d : Nat) (up : List Int) (k : Int) (q g o N C cap : Nat) (xs : List Int) (w : World)
    (hr : Row w .u8 A n l) (h1 : B8 l) (h2 : B8 up) (hn : n ≤ 16777216) (hm : m ≤ 16777216) (hq1 : 1 ≤ q) (hq : q ≤ 9223372036854775807)
    (hx : Own w 5 .u8 (.slice (some ⟨g, 0, none⟩) N C) xs) (hxl : xs.length = N) (hon : o + n ≤ N) (hcap : n ≤ cap)
    (hA : ∀ b o', A = some ⟨b, o', none⟩ → 0 < n → b ≠ g) (hB : ∀ V ys, Kept (fun i => i = g) w V → ys.length ≤ n → Own V 5 .u8 (.slice (some ⟨g, 0, none⟩) N C) (spl xs o ys) → Row V .u8 B m up) :
    Calls Try.prog 28 #[.agg #[.slice (some ⟨g, o, none⟩) n cap, .slice B m d, .int .i64 q], .int .i64 k, .slice A n c] w fun e w' =>
      e = .returned (.tuple #[]) ∧ Kept (fun i => i = g) w w' ∧ Own w' 5 .u8 (.slice (some ⟨g, 0, none⟩) N C) (spl xs o (unF k l up q)) := by
  obtain rfl := hr.len
  have hgl := hx.lt (g := g) rfl
  have HR : Hid (∀ V, Kept (fun i => i = g) w V → Row V .u8 A l.length l) := Lib.hid fun V hV => hr.kept hV hA
  have HQ := Lib.hid (And.intro hq (And.intro hn hm))
  have HU := Lib.hid hB
  have H8 := Lib.hid (And.intro h1 h2)
  have HX := Lib.hid (And.intro hx (And.intro hxl hon))
  clear hr hB hA h1 h2 hq hx hxl hon hm
  go_enter Try.func28, Try.ntmps28
  go_wp2_with fail
  go_loopw [10] (fun i wr => ∃ j : Nat, j ≤ l.length ∧ i = .int .i64 j ∧ Blk wr w.heap.size 44 #[.slice (some ⟨g, o, none⟩) l.length cap, .slice B m d, .int .i64 q] ∧ Kept (fun i => i = g) w wr ∧ Own wr 5 .u8 (.slice (some ⟨g, 0, none⟩) N C) (spl xs o (unN k l up q j))) (fun i _ => (l.length - intOf i).toNat)
  case atStart => exact ⟨0, by omega, rfl, Blk.new _ _ _, (Kept.refl _ _).alloc _, by rw [show unN k l up q 0 = [] from rfl, spl_nil]; exact HX.out.1.alloc _⟩
  case round =>
    obtain ⟨j, hj, rfl, hb, hk, ho⟩ := hrel
    by_cases hlt : j < l.length
    · have hlen := unN_length k l up q j
      have hup := HU.out wr _ hk (by omega) ho
      have hsl : (spl xs o (unN k l up q j)).length = N := by rw [spl_length (by rw [hlen, HX.out.2.1]; have := HX.out.2.2; omega), HX.out.2.1]
      obtain ⟨b, o2, rfl, hbw, hc⟩ := (HR.out wr hk).at_ j hlt
      have hrow : Row wr .u8 (some ⟨g, o, none⟩) l.length (((spl xs o (unN k l up q j)).drop o).take l.length) := by
        refine ⟨by rw [List.length_take, List.length_drop, hsl]; have := HX.out.2.2; omega, fun i hi => ⟨g, o, rfl, ho.lt rfl, ?_⟩⟩
        rw [ho.cellN hsl (j := o + i) (by have := HX.out.2.2; omega)]
        simp only [List.getD]
        rw [List.getElem?_take_of_lt hi, List.getElem?_drop]
      have hcg : ahd (((spl xs o (unN k l up q j)).drop o).take l.length) j q = ahd (unN k l up q j) j q := ahd_congr hq1 fun i hi => by
        simp only [List.getD]
        rw [List.getElem?_take_of_lt (by omega), List.getElem?_drop]
        exact spl_mid (by rw [HX.out.2.1]; have := HX.out.2.2; omega) (by omega)
      have HA : Hid (∀ V, Fresh wr V → Calls Try.prog 36 #[.agg #[.slice (some ⟨g, o, none⟩) l.length cap, .slice B m d, .int .i64 q], .int .i64 j] V fun e w' => e = .returned (nrv (unN k l up q j) up j q) ∧ Fresh V w') := Lib.hid fun V hV => by
        have := cAroundF_any (some ⟨g, o, none⟩) l.length cap _ B m d up q j V (hrow.fresh hV) (hup.fresh hV) HQ.out.2.1 HQ.out.2.2 (by omega) HQ.out.1
        unfold nrv at this ⊢
        rwa [hcg] at this
      have gin := ges_in (unN_byte k l up q j) H8.out.2 k j q
      have gs := gsx_ges k (unN k l up q j) up j q
      have ax := ahd_in (unN_byte k l up q j) j q
      have az := ahd_in H8.out.2 j q
      have ay := H8.out.2.at_ j
      have hv := H8.out.1.at_ j
      have Hs : Hid (unN k l up q (j + 1) = unN k l up q j ++ [(l.getD j 0 + ges k (unN k l up q j) up j q) % 256]) := Lib.hid rfl
      have hco := ho.cellN hsl (j := o + j) (by have := HX.out.2.2; omega)
      have hfo := ho.frozenN hsl (o + j)
      have HH := Lib.hid (And.intro hb (And.intro hk (And.intro ho (And.intro hsl hlen))))
      unfold nrv at HA
      clear hb hk ho hsl hlen hcg hrow hup
      generalize unN k l up q j = ys at *
      generalize ahd ys j q = x at *
      generalize up.getD j 0 = y at *
      generalize ahd up j q = z at *
      generalize ges k ys up j q = s at *
      generalize l.getD j 0 = v at *
      generalize (spl xs o ys).getD (o + j) 0 = old at *
      subst gs
      have HG : Hid (∀ V, Calls Try.prog 37 #[.agg #[.int .u8 x, .int .u8 y, .int .u8 z], .int .i64 k] V fun e w' => e = .returned (.int .u8 (gsx k x y z)) ∧ Fresh V w') := Lib.hid fun V => cGuessF_any k x y z V ax ay az
      generalize gsx k x y z = s at *
      have hjj : (j : Int) < (l.length : Int) := by omega
      have key : Hid (∀ V, Kept (fun i => i = g) wr V → V.cell? ⟨w.heap.size, 0, none⟩ = some (.slice (some ⟨g, o, none⟩) l.length cap) ∧ V.cell? ⟨w.heap.size, 1, none⟩ = some (.slice B m d) ∧ V.cell? ⟨w.heap.size, 2, none⟩ = some (.int .i64 q)) := Lib.hid fun V hV => by
        have hb := HH.out.1.kept hV (by omega)
        exact ⟨(hb.cell 0).trans rfl, (hb.cell 1).trans rfl, (hb.cell 2).trans rfl⟩
      have kel : Hid (∀ V, Fresh wr V → V.cell? ⟨g, o + j, none⟩ = some (.int .u8 old) ∧ V.frozen? ⟨g, o + j, none⟩ = false) := Lib.hid fun V hV => by
        have hgw : g < wr.heap.size := HH.out.2.2.1.lt rfl
        exact ⟨(hV.cell (p := ⟨g, o + j, none⟩) hgw id).trans hco, (hV.frozen (p := ⟨g, o + j, none⟩) hgw id).trans hfo⟩
      have s0 := key.out wr (Kept.refl _ _)
      clear ax ay az hco hfo
      go_wp2_with fail
      go_region_held3 (fun w' => w'.cell? ⟨w.heap.size, 0, none⟩ = some (.slice (some ⟨g, o, none⟩) l.length cap) ∧ w'.cell? ⟨w.heap.size, 1, none⟩ = some (.slice B m d) ∧ w'.cell? ⟨w.heap.size, 2, none⟩ = some (.int .i64 q))
        (first | go_keep | exact s0 | exact s1 | exact s2 | exact key.out _ ((hf2.mono (T := fun i => i = g) (fun _ _ e => e.elim)).setCell (p := ⟨g, o + j, none⟩) (fun _ => rfl) _))
        (first
          | (go_at_call 36; refine (HA.out _ ((Kept.refl _ wr).drewN _)).mono ?_; rintro e w1 ⟨rfl, hf1⟩; have hf1 := (show Fresh wr w1 from ⟨hf1.os, hf1.tape, hf1.output, hf1.size, hf1.block⟩); have s1 := key.out w1 (hf1.mono (fun _ _ e => e.elim)))
          | (go_at_call 37; refine (HG.out _).mono ?_; rintro e w2 ⟨rfl, hf2⟩; have hf2 := hf1.trans hf2 (fun _ _ e => e); have s2 := key.out w2 (hf2.mono (fun _ _ e => e.elim)); obtain ⟨hco, hfo⟩ := kel.out w2 hf2))
      have HF := Lib.hid hf2
      clear hf1 hf2 s0 s1 s2 hco hfo
      go_wp2_with fail
      go_roundw
      case rel =>
        refine ⟨j + 1, by omega, by go_num, ?_, ?_, ?_⟩
        · exact (HH.out.1.kept HF.out id).far (p := ⟨g, o + j, none⟩) (by simp; omega) _
        · exact (HH.out.2.1.trans HF.out (fun _ _ e => e.elim)).setCell (p := ⟨g, o + j, none⟩) (fun _ => rfl) _
        · rw [Hs.out, ← spl_set (by rw [HH.out.2.2.2.2, HX.out.2.1]; have := HX.out.2.2; omega), HH.out.2.2.2.2, ← IntKind.wrap_u8]
          exact (HH.out.2.2.1.kept HF.out (fun _ _ => id)).storeN HH.out.2.2.2.1 _ _
      case measure => simp [intOf]; omega
    · obtain rfl : j = l.length := by omega
      have HH := Lib.hid (And.intro hk ho)
      clear hb hk ho
      go_wp2_with fail
      go_end0
      exact ⟨rfl, HH.out⟩

end Go.Proofs.Ytnmapfoinhomdaa
