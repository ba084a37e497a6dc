/- What the laws of the adaptive predictor ask of the code; awake. -/
import Derived.Test.YtgcbjfkneigijaaLmsR
import Derived.Test.YtgcbjfkneigijaaRetRow
namespace Go.Proofs.Ytgcbjfkneigijaa
open Go.RowKit
set_option maxRecDepth 100000

attribute [local go_sem ↓] Go.wp_at_zero Go.wp_at_succ

/-- The code's calls answer as the document's; F: its filter at block g is the sixteen numbers S. -/
structure LmsOK (F : World → Nat → List Int → Prop) : Prop where
  kept : ∀ {P : Nat → Prop} {w w' : World} {g : Nat} {S : List Int}, F w g S → Kept P w w' → ¬ P g → F w' g S
  lt : ∀ {w : World} {g : Nat} {S : List Int}, F w g S → g < w.heap.size
  new : ∀ w : World, Calls Try.prog 7 #[] w fun e w' => ∃ g, e = .returned (.pointer (some ⟨g, 0, none⟩)) ∧ F w' g (List.replicate 16 0) ∧ w.heap.size ≤ g ∧ Fresh w w'
  guess : ∀ (g : Nat) (S : List Int) (w : World), F w g S → Calls Try.prog 9 #[.pointer (some ⟨g, 0, none⟩)] w fun e w' => e = .returned (.int .i32 (gl S)) ∧ Fresh w w'
  learn : ∀ (g : Nat) (S : List Int) (v : Int) (w : World), F w g S → WB S → (-2147483648 ≤ v ∧ v < 2147483648) → Calls Try.prog 11 #[.pointer (some ⟨g, 0, none⟩), .int .i32 v] w fun e w' => e = .returned (.tuple #[]) ∧ F w' g (learnS S v) ∧ Kept (fun k => k = g) w w'
  guessNil : ∀ w : World, Calls Try.prog 9 #[.pointer none] w fun e w' => e = .returned (.int .i32 0) ∧ Fresh w w'
  learnNil : ∀ (v : Int) (w : World), Calls Try.prog 11 #[.pointer none, .int .i32 v] w fun e w' => e = .returned (.tuple #[]) ∧ Fresh w w'
  resid : ∀ (A : Option Addr) (n c : Nat) (l : List Int) (w : World), Row w .i32 A n l → I32 l → n ≤ 1048576 → Calls Try.prog 15 #[.slice A n c] w fun e w' => ∃ u, e = .returned u ∧ NewRow w w' 21 .i32 u (lres l)
  restore : ∀ (A : Option Addr) (n c : Nat) (l : List Int) (w : World), Row w .i32 A n l → I32 l → n ≤ 1048576 → Calls Try.prog 17 #[.slice A n c] w fun e w' => ∃ u, e = .returned u ∧ NewRow w w' 21 .i32 u (lrst l)

theorem two_ones : lres [1, 1] = [1, 1] := by decide +kernel
theorem gl_zero : gl (List.replicate 16 0) = 0 := by decide +kernel

set_option maxHeartbeats 1600000 in
theorem awakeL_any {F : World → Nat → List Int → Prop} (ok : LmsOK F) (w : World) : Calls Try.prog 8 #[] w fun e w' => e = .returned (.bool true) ∧ Fresh w w' := by
  have HC := Lib.hid ok
  clear ok
  go_enter Try.func8, Try.ntmps8
  go_wp2_with fail
  refine (HC.out.resid _ 2 2 [1, 1] _ (Row.laidF w 21 .i32 [1, 1]) (I32.dec (by decide)) (by omega)).mono ?_
  rintro e w1 ⟨u, rfl, hu, _, hf1⟩
  rw [two_ones] at hu
  obtain ⟨q, cq, rfl, hq⟩ := hu.form (by decide)
  have d0 : w1.cell? ⟨q, 0, none⟩ = some (.int .i32 1) := hu.cell (j := 0) (by decide)
  have d1 : w1.cell? ⟨q, 1, none⟩ = some (.int .i32 1) := hu.cell (j := 1) (by decide)
  have H1 := Lib.hid (((Kept.refl (fun _ => False) w).alloc (.cells #[.int .i32 1, .int .i32 1] 21)).trans hf1 (fun _ _ h => h))
  clear hu hf1
  rw [show ([1, 1] : List Int).length = 2 from rfl]
  go_wp2_with fail
  go_ret
  exact ⟨rfl, H1.out⟩

theorem LmsOK.resR {F : World → Nat → List Int → Prop} (ok : LmsOK F) {A : Option Addr} {n : Nat} (c : Nat) {l : List Int} {w : World} (hr : Row w .i32 A n l) (h : I32 l) (hn : n ≤ 1048576) :
    Calls Try.prog 15 #[.slice A n c] w fun e w' => RetRow w w' e n (lres l) :=
  (ok.resid A n c l w hr h hn).mono fun _ _ h => RetRow.of (by rw [lres_length, hr.len]) h
theorem LmsOK.rstR {F : World → Nat → List Int → Prop} (ok : LmsOK F) {A : Option Addr} {n : Nat} (c : Nat) {l : List Int} {w : World} (hr : Row w .i32 A n l) (h : I32 l) (hn : n ≤ 1048576) :
    Calls Try.prog 17 #[.slice A n c] w fun e w' => RetRow w w' e n (lrst l) :=
  (ok.restore A n c l w hr h hn).mono fun _ _ h => RetRow.of (by rw [lrst_length, hr.len]) h
theorem qlResR {A : Option Addr} {n : Nat} (c : Nat) {l : List Int} {w : World} (hr : Row w .i32 A n l) (h : I32 l) (hn : n ≤ 1048576) :
    Calls Try.prog 16 #[.slice A n c] w fun e w' => RetRow w w' e n (lres l) :=
  (qlResidual_any A n c l w hr h (by omega)).mono fun _ _ h => RetRow.of (by rw [lres_length, hr.len]) h
theorem qlRstR {A : Option Addr} {n : Nat} (c : Nat) {l : List Int} {w : World} (hr : Row w .i32 A n l) (h : I32 l) (hn : n ≤ 1048576) :
    Calls Try.prog 18 #[.slice A n c] w fun e w' => RetRow w w' e n (lrst l) :=
  (qlRestore_any A n c l w hr h (by omega)).mono fun _ _ h => RetRow.of (by rw [lrst_length, hr.len]) h

end Go.Proofs.Ytgcbjfkneigijaa
