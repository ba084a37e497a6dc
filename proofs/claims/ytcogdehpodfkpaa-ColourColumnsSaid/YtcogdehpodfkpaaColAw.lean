/- What the laws of colours ask of the code; awake. -/
import Derived.Test.YtcogdehpodfkpaaColQ
import Derived.Test.YtcogdehpodfkpaaRetRow
namespace Go.Proofs.Ytcogdehpodfkpaa
open Go.RowKit
set_option maxRecDepth 100000

attribute [local go_sem ↓] Go.wp_at_zero Go.wp_at_succ

/-- The code's four calls answer as the document's. -/
structure ColourOK : Prop where
  turn : ∀ (A : Option Addr) (n c : Nat) (bs : List Int) (w : World), Row w .u8 A n bs → B8 bs → n ≤ 1048576 → n ≤ c →
    Calls Try.prog 10 #[.slice A n c] w fun e w' => ∃ u, e = .returned u ∧ NewRow w w' 5 .u8 u (trn (-1) bs)
  back : ∀ (A : Option Addr) (n c : Nat) (bs : List Int) (w : World), Row w .u8 A n bs → B8 bs → n ≤ 1048576 → n ≤ c →
    Calls Try.prog 12 #[.slice A n c] w fun e w' => ∃ u, e = .returned u ∧ NewRow w w' 5 .u8 u (trn 1 bs)
  apart : ∀ (A : Option Addr) (n c : Nat) (bs : List Int) (k : Int) (w : World), Row w .u8 A n bs → B8 bs → n ≤ 1048576 → n ≤ c →
    Calls Try.prog 14 #[.slice A n c, .int .i64 k] w fun e w' => ∃ u, e = .returned u ∧ NewRow w w' 5 .u8 u (aprt bs (colC k))
  together : ∀ (A : Option Addr) (n c : Nat) (bs : List Int) (k : Int) (w : World), Row w .u8 A n bs → B8 bs → n ≤ 1048576 → n ≤ c →
    Calls Try.prog 16 #[.slice A n c, .int .i64 k] w fun e w' => ∃ u, e = .returned u ∧ NewRow w w' 5 .u8 u (tgth bs (colC k))

/-- A list of n bytes is told, with room. -/
def Told8 (w w' : World) (e : Ending) (n : Nat) (xs : List Int) : Prop := ∃ B cB, e = .returned (.slice B n cB) ∧ Row w' .u8 B n xs ∧ n ≤ cB ∧ Fresh w w'
theorem Told8.of {w w' : World} {e : Ending} {n : Nat} {xs : List Int} (hn : xs.length = n) (h : ∃ u, e = .returned u ∧ NewRow w w' 5 .u8 u xs) : Told8 w w' e n xs := by
  obtain ⟨u, rfl, hu, _, hf⟩ := h
  have hcap := hu
  obtain ⟨B, cB, rfl, hr, _⟩ := hu.row
  have hc := hcap.cap
  rw [hn] at hr hc
  rw [hn]
  exact ⟨B, cB, rfl, hr, hc, hf⟩
theorem turn_three : trn (-1) [5, 3, 4] = [2, 3, 1] := by decide +kernel

set_option maxHeartbeats 1600000 in
theorem awakeC_any (ok : ColourOK) (w : World) : Calls Try.prog 7 #[] w fun e w' => e = .returned (.bool true) ∧ Fresh w w' := by
  have HC := Lib.hid ok
  clear ok
  go_enter Try.func7, Try.ntmps7
  go_wp2_with fail
  refine (HC.out.turn _ 3 3 [5, 3, 4] _ (Row.laidF w 5 .u8 [5, 3, 4]) (by unfold B8; simp) (by omega) (by omega)).mono ?_
  rintro e w1 ⟨u, rfl, hu, _, hf1⟩
  rw [turn_three] at hu
  obtain ⟨q, cq, rfl, hq⟩ := hu.form (by decide)
  have d0 : w1.cell? ⟨q, 0, none⟩ = some (.int .u8 2) := hu.cell (j := 0) (by decide)
  have d1 : w1.cell? ⟨q, 1, none⟩ = some (.int .u8 3) := hu.cell (j := 1) (by decide)
  have d2 : w1.cell? ⟨q, 2, none⟩ = some (.int .u8 1) := hu.cell (j := 2) (by decide)
  have H1 := Lib.hid (((Kept.refl (fun _ => False) w).alloc (.cells #[.int .u8 5, .int .u8 3, .int .u8 4] 5)).trans hf1 (fun _ _ h => h))
  clear hu hf1
  rw [show ([2, 3, 1] : List Int).length = 3 from rfl]
  go_wp2_with fail
  go_ret
  exact ⟨rfl, H1.out⟩

theorem ColourOK.turnT (ok : ColourOK) {A : Option Addr} {n : Nat} (c : Nat) {bs : List Int} {w : World} (hr : Row w .u8 A n bs) (h : B8 bs) (hn : n ≤ 1048576) (hc : n ≤ c) :
    Calls Try.prog 10 #[.slice A n c] w fun e w' => Told8 w w' e n (trn (-1) bs) := (ok.turn A n c bs w hr h hn hc).mono fun _ _ h => Told8.of (by rw [trn_length, hr.len]) h
theorem ColourOK.backT (ok : ColourOK) {A : Option Addr} {n : Nat} (c : Nat) {bs : List Int} {w : World} (hr : Row w .u8 A n bs) (h : B8 bs) (hn : n ≤ 1048576) (hc : n ≤ c) :
    Calls Try.prog 12 #[.slice A n c] w fun e w' => Told8 w w' e n (trn 1 bs) := (ok.back A n c bs w hr h hn hc).mono fun _ _ h => Told8.of (by rw [trn_length, hr.len]) h
theorem ColourOK.apartT (ok : ColourOK) {A : Option Addr} {n : Nat} (c : Nat) {bs : List Int} (k : Int) {w : World} (hr : Row w .u8 A n bs) (h : B8 bs) (hn : n ≤ 1048576) (hc : n ≤ c) :
    Calls Try.prog 14 #[.slice A n c, .int .i64 k] w fun e w' => Told8 w w' e n (aprt bs (colC k)) := (ok.apart A n c bs k w hr h hn hc).mono fun _ _ h => Told8.of (by rw [aprt_length, hr.len]) h
theorem ColourOK.togetherT (ok : ColourOK) {A : Option Addr} {n : Nat} (c : Nat) {bs : List Int} (k : Int) {w : World} (hr : Row w .u8 A n bs) (h : B8 bs) (hn : n ≤ 1048576) (hc : n ≤ c) :
    Calls Try.prog 16 #[.slice A n c, .int .i64 k] w fun e w' => Told8 w w' e n (tgth bs (colC k)) := (ok.together A n c bs k w hr h hn hc).mono fun _ _ h => Told8.of (by rw [tgth_length, hr.len]) h
theorem qTurnT {A : Option Addr} {n : Nat} (c : Nat) {bs : List Int} {w : World} (hr : Row w .u8 A n bs) (h : B8 bs) (hn : n ≤ 1048576) :
    Calls Try.prog 11 #[.slice A n c] w fun e w' => Told8 w w' e n (trn (-1) bs) := (qTurnC_any A n c bs w hr h (by omega)).mono fun _ _ h => Told8.of (by rw [trn_length, hr.len]) h
theorem qBackT {A : Option Addr} {n : Nat} (c : Nat) {bs : List Int} {w : World} (hr : Row w .u8 A n bs) (h : B8 bs) (hn : n ≤ 1048576) :
    Calls Try.prog 13 #[.slice A n c] w fun e w' => Told8 w w' e n (trn 1 bs) := (qBackC_any A n c bs w hr h (by omega)).mono fun _ _ h => Told8.of (by rw [trn_length, hr.len]) h
theorem qApartT {A : Option Addr} {n : Nat} (c : Nat) {bs : List Int} (k : Int) {w : World} (hr : Row w .u8 A n bs) (hn : n ≤ 1048576) (hc : n ≤ c) :
    Calls Try.prog 15 #[.slice A n c, .int .i64 k] w fun e w' => Told8 w w' e n (aprt bs (colC k)) := (qApartC_any A n c bs k w hr (by omega) hc).mono fun _ _ h => Told8.of (by rw [aprt_length, hr.len]) h
theorem qTogetherT {A : Option Addr} {n : Nat} (c : Nat) {bs : List Int} (k : Int) {w : World} (hr : Row w .u8 A n bs) (hn : n ≤ 1048576) (hc : n ≤ c) :
    Calls Try.prog 17 #[.slice A n c, .int .i64 k] w fun e w' => Told8 w w' e n (tgth bs (colC k)) := (qTogetherC_any A n c bs k w hr (by omega) hc).mono fun _ _ h => Told8.of (by rw [tgth_length, hr.len]) h

end Go.Proofs.Ytcogdehpodfkpaa
