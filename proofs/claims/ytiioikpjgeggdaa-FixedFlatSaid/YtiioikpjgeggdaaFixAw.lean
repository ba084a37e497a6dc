/- What the laws of the fixed predictors ask of the code; awake. -/
import Derived.Test.YtiioikpjgeggdaaFixQ
import Derived.Test.YtiioikpjgeggdaaRetRow
namespace Go.Proofs.Ytiioikpjgeggdaa
open Go.RowKit
set_option maxRecDepth 100000

attribute [local go_sem ↓] Go.wp_at_zero Go.wp_at_succ

/-- The code's four calls answer as the document's. -/
structure FixedOK : Prop where
  resid : ∀ (A : Option Addr) (n c : Nat) (l : List Int) (k : Int) (w : World), Row w .i32 A n l → I32 l → n ≤ 1048576 →
    Calls Try.prog 9 #[.slice A n c, .int .i64 k] w fun e w' => ∃ u, e = .returned u ∧ NewRow w w' 21 .i32 u (res (ko k) l)
  restore : ∀ (A : Option Addr) (n c : Nat) (l : List Int) (k : Int) (w : World), Row w .i32 A n l → I32 l → n ≤ 1048576 →
    Calls Try.prog 12 #[.slice A n c, .int .i64 k] w fun e w' => ∃ u, e = .returned u ∧ NewRow w w' 21 .i32 u (rst (ko k) l)
  weight : ∀ (A : Option Addr) (n c : Nat) (l : List Int) (w : World), Row w .i32 A n l → I32 l → n ≤ 1048576 →
    Calls Try.prog 14 #[.slice A n c] w fun e w' => e = .returned (.int .u64 (weight l : Nat)) ∧ Fresh w w'
  best : ∀ (A : Option Addr) (n c : Nat) (l : List Int) (w : World), Row w .i32 A n l → I32 l → n ≤ 1048576 →
    Calls Try.prog 16 #[.slice A n c] w fun e w' => e = .returned (.int .i64 (bestOr l 3 : Nat)) ∧ Fresh w w'

theorem three_res : res (ko 2) [5, 7, 9] = [5, -3, 0] := by decide +kernel

set_option maxHeartbeats 1600000 in
theorem awakeF_any (ok : FixedOK) (w : World) : Calls Try.prog 7 #[] w fun e w' => e = .returned (.bool true) ∧ Fresh w w' := by
  have HC := Lib.hid ok
  clear ok
  go_enter Try.func7, Try.ntmps7
  go_wp2_with fail
  refine (HC.out.resid _ 3 3 [5, 7, 9] 2 _ (Row.laidF w 21 .i32 [5, 7, 9]) (I32.dec (by decide)) (by omega)).mono ?_
  rintro e w1 ⟨u, rfl, hu, _, hf1⟩
  rw [three_res] at hu
  obtain ⟨q, cq, rfl, hq⟩ := hu.form (by decide)
  have d0 : w1.cell? ⟨q, 0, none⟩ = some (.int .i32 5) := hu.cell (j := 0) (by decide)
  have d1 : w1.cell? ⟨q, 1, none⟩ = some (.int .i32 (-3)) := hu.cell (j := 1) (by decide)
  have d2 : w1.cell? ⟨q, 2, none⟩ = some (.int .i32 0) := hu.cell (j := 2) (by decide)
  have H1 := Lib.hid (((Kept.refl (fun _ => False) w).alloc (.cells #[.int .i32 5, .int .i32 7, .int .i32 9] 21)).trans hf1 (fun _ _ h => h))
  clear hu hf1
  rw [show ([5, -3, 0] : List Int).length = 3 from rfl]
  go_wp2_with fail
  go_ret
  exact ⟨rfl, H1.out⟩

theorem FixedOK.resR (ok : FixedOK) {A : Option Addr} {n : Nat} (c : Nat) {l : List Int} (k : Int) {w : World} (hr : Row w .i32 A n l) (h : I32 l) (hn : n ≤ 1048576) :
    Calls Try.prog 9 #[.slice A n c, .int .i64 k] w fun e w' => RetRow w w' e n (res (ko k) l) :=
  (ok.resid A n c l k w hr h hn).mono fun _ _ h => RetRow.of (by rw [res_length, hr.len]) h
theorem FixedOK.rstR (ok : FixedOK) {A : Option Addr} {n : Nat} (c : Nat) {l : List Int} (k : Int) {w : World} (hr : Row w .i32 A n l) (h : I32 l) (hn : n ≤ 1048576) :
    Calls Try.prog 12 #[.slice A n c, .int .i64 k] w fun e w' => RetRow w w' e n (rst (ko k) l) :=
  (ok.restore A n c l k w hr h hn).mono fun _ _ h => RetRow.of (by rw [rst_length, hr.len]) h
theorem qResR {A : Option Addr} {n : Nat} (c : Nat) {l : List Int} (k : Int) {w : World} (hr : Row w .i32 A n l) (h : I32 l) (hn : n ≤ 1048576) :
    Calls Try.prog 11 #[.slice A n c, .int .i64 k] w fun e w' => RetRow w w' e n (res (ko k) l) :=
  (qResidual_any A n c l k w hr h (by omega)).mono fun _ _ h => RetRow.of (by rw [res_length, hr.len]) h
theorem qRstR {A : Option Addr} {n : Nat} (c : Nat) {l : List Int} (k : Int) {w : World} (hr : Row w .i32 A n l) (h : I32 l) (hn : n ≤ 1048576) :
    Calls Try.prog 13 #[.slice A n c, .int .i64 k] w fun e w' => RetRow w w' e n (rst (ko k) l) :=
  (qRestore_any A n c l k w hr h (by omega)).mono fun _ _ h => RetRow.of (by rw [rst_length, hr.len]) h


end Go.Proofs.Ytiioikpjgeggdaa
