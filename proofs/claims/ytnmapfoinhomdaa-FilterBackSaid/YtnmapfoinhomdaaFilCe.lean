/- The code's Row, Unrow, Best of filters. -/
import Derived.Test.YtnmapfoinhomdaaFilCd
namespace Go.Proofs.Ytnmapfoinhomdaa
open Go.RowKit
set_option maxRecDepth 100000

attribute [local go_sem ↓] Go.wp_at_zero Go.wp_at_succ

theorem plN_hi {p : Int} (hp : I64 p) : 1 ≤ plN p ∧ plN p ≤ 9223372036854775807 := by
  have := plN_in p
  unfold I64 at hp
  omega

set_option maxHeartbeats 1600000 in
/-- Row: P17.1. -/
theorem cRowF_any (A : Option Addr) (n c : Nat) (l : List Int) (B : Option Addr) (m d : Nat) (up : List Int) (k p : Int) (w : World) (hr : Row w .u8 A n l) (hb : Row w .u8 B m up) (h1 : B8 l) (h2 : B8 up) (hn : n ≤ 1048576) (hm : m ≤ 1048576) (hp : I64 p) :
    Calls Try.prog 11 #[.int .i64 k, .slice A n c, .slice B m d, .int .i64 p] w fun e w' => ∃ u, e = .returned u ∧ NewRow w w' 5 .u8 u (rowF k l up (plN p)) := by
  obtain ⟨i0, hi, hz0, hz1, hz2⟩ := info_parts Try.infoCol
  obtain rfl := hr.len
  obtain ⟨q1, q2⟩ := plN_hi hp
  have HF : Hid (∀ V, Calls Try.prog 25 #[.slice A l.length c, .slice B m d, .int .i64 p] V fun e w' => e = .returned (.agg #[.slice A l.length c, .slice B m d, .int .i64 (plN p : Nat)]) ∧ Fresh V w') := Lib.hid fun V => cField_any A l.length c B m d p V
  have HT : Hid (∀ V, Fresh w V → w.heap.size < V.heap.size → Own V 5 .u8 (.slice (some ⟨w.heap.size, 0, none⟩) l.length l.length) (List.replicate l.length 0) →
      Calls Try.prog 26 #[.agg #[.slice A l.length c, .slice B m d, .int .i64 (plN p : Nat)], .int .i64 k, .slice (some ⟨w.heap.size, 0, none⟩) l.length l.length] V fun e w' =>
        e = .returned (.tuple #[]) ∧ Kept (fun i => i = w.heap.size) V w' ∧ Own w' 5 .u8 (.slice (some ⟨w.heap.size, 0, none⟩) l.length l.length) (rowF k l up (plN p))) := Lib.hid fun V hV hz ho => by
    have := cTurnF_any A l.length c l B m d up k (plN p) w.heap.size 0 l.length l.length l.length _ V (hr.fresh hV) (hb.fresh hV) h1 h2 (by omega) (by omega) q2 ho (by simp) (by omega) (Nat.le_refl _)
      (fun b o' e h0 => by obtain ⟨b', o2, e', hb', _⟩ := hr.at_ 0 h0; rw [e] at e'; injection e' with e'; injection e' with e1 e2; omega)
      (fun b o' e h0 => by obtain ⟨b', o2, e', hb', _⟩ := hb.at_ 0 h0; rw [e] at e'; injection e' with e'; injection e' with e1 e2; omega)
    rwa [spl_all (by rw [rowF_length]; simp)] at this
  have hl := rowF_length k l up (plN p)
  clear hr hb h1 h2 hp q1 q2 hm
  generalize rowF k l up (plN p) = R at *
  generalize plN p = q at *
  go_enter Try.func11, Try.ntmps11
  go_wp2_with (at_make; refine wpList_make_zeros _ rfl _ _ 22 rfl 5 i0 .u8 1 Try.underlying22 hi hz0 hz1 hz2 _ _ _ _ l.length rfl rfl rfl rfl (by omega) (by unfold maxLen; omega) ?_)
  intro w1 ho1 hf1
  have H1 := Lib.hid (And.intro ho1 hf1)
  clear ho1 hf1
  go_wp2_with fail
  refine (HF.out w1).mono ?_
  rintro e w2 ⟨rfl, hf2⟩
  have H2 := Lib.hid (And.intro (H1.out.1.kept hf2 (fun _ _ => id)) (H1.out.2.trans hf2 (fun _ _ e => e)))
  clear hf2 H1
  go_wp2_with fail
  refine (HT.out w2 H2.out.2 (H2.out.1.lt rfl) H2.out.1).mono ?_
  rintro e w3 ⟨rfl, hk, ho⟩
  have H3 := Lib.hid (And.intro ho (H2.out.2.trans hk fun i hi e => by omega))
  clear hk ho H2
  go_wp2_with fail
  go_ret
  exact ⟨_, rfl, H3.out.1, fun g e => by cases e; exact Nat.le_refl _, H3.out.2⟩

set_option maxHeartbeats 1600000 in
/-- Unrow: P17.1. -/
theorem cUnF_any (A : Option Addr) (n c : Nat) (l : List Int) (B : Option Addr) (m d : Nat) (up : List Int) (k p : Int) (w : World) (hr : Row w .u8 A n l) (hb : Row w .u8 B m up) (h1 : B8 l) (h2 : B8 up) (hn : n ≤ 1048576) (hm : m ≤ 1048576) (hp : I64 p) :
    Calls Try.prog 13 #[.int .i64 k, .slice A n c, .slice B m d, .int .i64 p] w fun e w' => ∃ u, e = .returned u ∧ NewRow w w' 5 .u8 u (unF k l up (plN p)) := by
  obtain ⟨i0, hi, hz0, hz1, hz2⟩ := info_parts Try.infoCol
  obtain rfl := hr.len
  obtain ⟨q1, q2⟩ := plN_hi hp
  have HF : Hid (∀ V, Calls Try.prog 25 #[.slice (some ⟨w.heap.size, 0, none⟩) l.length l.length, .slice B m d, .int .i64 p] V fun e w' => e = .returned (.agg #[.slice (some ⟨w.heap.size, 0, none⟩) l.length l.length, .slice B m d, .int .i64 (plN p : Nat)]) ∧ Fresh V w') := Lib.hid fun V => cField_any _ l.length l.length B m d p V
  have HT : Hid (∀ V, Fresh w V → w.heap.size < V.heap.size → Own V 5 .u8 (.slice (some ⟨w.heap.size, 0, none⟩) l.length l.length) (List.replicate l.length 0) →
      Calls Try.prog 28 #[.agg #[.slice (some ⟨w.heap.size, 0, none⟩) l.length l.length, .slice B m d, .int .i64 (plN p : Nat)], .int .i64 k, .slice A l.length c] V fun e w' =>
        e = .returned (.tuple #[]) ∧ Kept (fun i => i = w.heap.size) V w' ∧ Own w' 5 .u8 (.slice (some ⟨w.heap.size, 0, none⟩) l.length l.length) (unF k l up (plN p))) := Lib.hid fun V hV hz ho => by
    have := cFillF_any A l.length c l B m d up k (plN p) w.heap.size 0 l.length l.length l.length _ V (hr.fresh hV) h1 h2 (by omega) (by omega) q1 q2 ho (by simp) (by omega) (Nat.le_refl _)
      (fun b o' e h0 => by obtain ⟨b', o2, e', hb', _⟩ := hr.at_ 0 h0; rw [e] at e'; injection e' with e'; injection e' with e1 e2; omega)
      (fun V' ys hk _ _ => (hb.fresh hV).kept hk fun b o' e h0 => by obtain ⟨b', o2, e', hb', _⟩ := hb.at_ 0 h0; rw [e] at e'; injection e' with e'; injection e' with e1 e2; omega)
    rwa [spl_all (by rw [unF_length]; simp)] at this
  have hl := unF_length k l up (plN p)
  clear hr hb h1 h2 hp q1 q2 hm
  generalize unF k l up (plN p) = R at *
  generalize plN p = q at *
  go_enter Try.func13, Try.ntmps13
  go_wp2_with (at_make; refine wpList_make_zeros _ rfl _ _ 22 rfl 5 i0 .u8 1 Try.underlying22 hi hz0 hz1 hz2 _ _ _ _ l.length rfl rfl rfl rfl (by omega) (by unfold maxLen; omega) ?_)
  intro w1 ho1 hf1
  have H1 := Lib.hid (And.intro ho1 hf1)
  clear ho1 hf1
  go_wp2_with fail
  refine (HF.out w1).mono ?_
  rintro e w2 ⟨rfl, hf2⟩
  have H2 := Lib.hid (And.intro (H1.out.1.kept hf2 (fun _ _ => id)) (H1.out.2.trans hf2 (fun _ _ e => e)))
  clear hf2 H1
  go_wp2_with fail
  refine (HT.out w2 H2.out.2 (H2.out.1.lt rfl) H2.out.1).mono ?_
  rintro e w3 ⟨rfl, hk, ho⟩
  have H3 := Lib.hid (And.intro ho (H2.out.2.trans hk fun i hi e => by omega))
  clear hk ho H2
  go_wp2_with fail
  go_ret
  exact ⟨_, rfl, H3.out.1, fun g e => by cases e; exact Nat.le_refl _, H3.out.2⟩

set_option maxHeartbeats 1600000 in
/-- Best: P17.2. -/
theorem cBest_any (A : Option Addr) (n c : Nat) (l : List Int) (B : Option Addr) (m d : Nat) (up : List Int) (p : Int) (w : World) (hr : Row w .u8 A n l) (hb : Row w .u8 B m up) (h1 : B8 l) (h2 : B8 up) (hn : n ≤ 1048576) (hm : m ≤ 1048576) (hp : I64 p) :
    Calls Try.prog 15 #[.slice A n c, .slice B m d, .int .i64 p] w fun e w' => e = .returned (.int .i64 (bst l up (plN p) : Nat)) ∧ Fresh w w' := by
  obtain ⟨q1, q2⟩ := plN_hi hp
  have HF := Lib.hid (cField_any A n c B m d p w)
  have HB : Hid (∀ V, Fresh w V → Calls Try.prog 29 #[.agg #[.slice A n c, .slice B m d, .int .i64 (plN p : Nat)]] V fun e w' => e = .returned (.int .i64 (bst l up (plN p) : Nat)) ∧ Fresh V w') := Lib.hid fun V hV => cBestF_any A n c l B m d up (plN p) V (hr.fresh hV) (hb.fresh hV) h1 h2 (by omega) (by omega) q2
  clear hr hb h1 h2 hn hm hp q1 q2
  go_enter Try.func15, Try.ntmps15
  go_wp2_with fail
  refine HF.out.mono ?_
  rintro e w1 ⟨rfl, hf1⟩
  have H1 := Lib.hid hf1
  clear hf1
  go_wp2_with fail
  refine (HB.out w1 H1.out).mono ?_
  rintro e w2 ⟨rfl, hf2⟩
  have H2 := Lib.hid (H1.out.trans hf2 (fun _ _ e => e))
  clear hf2
  go_wp2_with fail
  go_ret
  exact ⟨rfl, H2.out⟩

end Go.Proofs.Ytnmapfoinhomdaa
