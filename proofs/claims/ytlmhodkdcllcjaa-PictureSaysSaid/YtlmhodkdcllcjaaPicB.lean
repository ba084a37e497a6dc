/- The document's Bmp. -/
import Derived.Test.YtlmhodkdcllcjaaPicF
namespace Go.Proofs.Ytlmhodkdcllcjaa
open Go.RowKit
set_option maxRecDepth 100000

attribute [local go_sem ↓] Go.wp_at_zero Go.wp_at_succ

/-- The amount of a signed number of four bytes. -/
def amt4 (v : Nat) : Nat := if v < 2147483648 then v else 4294967296 - v
def plnB (d : Nat) : Nat := if d = 8 then 1 else 3
def strB (a p : Nat) : Nat := (a * p + 3) / 4 * 4
/-- What Bmp and Pnm tell. -/
def pval : Option (Nat × Nat × Nat × Nat × Nat) → Value
  | none => .agg #[.int .i64 0, .int .i64 0, .int .i64 0, .int .i64 0, .int .i64 0]
  | some r => .agg #[.int .i64 (r.1 : Nat), .int .i64 (r.2.1 : Nat), .int .i64 (r.2.2.1 : Nat), .int .i64 (r.2.2.2.1 : Nat), .int .i64 (r.2.2.2.2 : Nat)]
def hdB (l : List Int) : Prop := 54 ≤ l.length ∧ l.getD 0 0 = 66 ∧ l.getD 1 0 = 77
def okB (f x14 x26 d x30 : Nat) : Prop := 54 ≤ f ∧ 40 ≤ x14 ∧ x26 = 1 ∧ (d = 24 ∨ d = 8) ∧ x30 = 0
instance (l : List Int) : Decidable (hdB l) := by unfold hdB; infer_instance
instance (f x14 x26 d x30 : Nat) : Decidable (okB f x14 x26 d x30) := by unfold okB; infer_instance
def bmpR (a b p f n : Nat) : Option (Nat × Nat × Nat × Nat × Nat) := if fitP a b (strB a p : Nat) f n then some (a, b, p, strB a p, f) else none
def bmpP (l : List Int) : Option (Nat × Nat × Nat × Nat × Nat) :=
  if hdB l ∧ okB (leAt l 10 4) (leAt l 14 4) (leAt l 26 2) (leAt l 28 2) (leAt l 30 4) then bmpR (leAt l 18 4) (amt4 (leAt l 22 4)) (plnB (leAt l 28 2)) (leAt l 10 4) l.length else none

set_option maxHeartbeats 6400000 in
theorem qBmpNo_any (A : Option Addr) (n c : Nat) (l : List Int) (w : World) (hr : Row w .u8 A n l) (h8 : B8 l) (hn : n ≤ 1000000000) (hno : ¬ hdB l) :
    Calls Try.prog 10 #[.slice A n c] w fun e w' => e = .returned (.tuple #[pval none, .bool false]) ∧ Fresh w w' := by
  obtain rfl := hr.len
  have hcs : l.length < 54 ∨ (¬ l.length < 54 ∧ l.getD 0 0 ≠ 66) ∨ (¬ l.length < 54 ∧ l.getD 0 0 = 66 ∧ l.getD 1 0 ≠ 77) := by
    unfold hdB at hno
    omega
  clear hno
  rcases hcs with h1 | ⟨h1, h2⟩ | ⟨h1, h2, h3⟩
  · clear hr
    have l0 : (l.length : Int) < 54 := by omega
    go_enter Try.func10, Try.ntmps10
    go_wp2_with fail
    refine bodyPost_ret (v := .tuple #[pval none, .bool false]) (by simp [results, Try.f10, go_sem, pval]) rfl ?_
    exact ⟨rfl, (Kept.refl _ _).alloc _⟩
  · obtain ⟨b, o, rfl, hb, hc⟩ := hr.at_ 0 (by omega)
    rw [Nat.add_zero] at hc
    have hx := h8.at_ 0
    generalize l.getD 0 0 = x at *
    have bx : (x != 66) = true := by simp [h2]
    have l0 : ¬ (l.length : Int) < 54 := by omega
    have i0 : (0 : Int) < (l.length : Int) := by omega
    clear hr
    go_enter Try.func10, Try.ntmps10
    go_wp2_with fail
    refine bodyPost_ret (v := .tuple #[pval none, .bool false]) (by simp [results, Try.f10, go_sem, pval]) rfl ?_
    exact ⟨rfl, (Kept.refl _ _).alloc _⟩
  · obtain ⟨b, o, rfl, hb, hc⟩ := hr.at_ 0 (by omega)
    obtain ⟨b', o', eA, hb', hc'⟩ := hr.at_ 1 (by omega)
    injection eA with eA
    injection eA with e1 e2
    subst e1 e2
    rw [h2, Nat.add_zero] at hc
    have hx := h8.at_ 1
    generalize l.getD 1 0 = x at *
    have bx : (x != 77) = true := by simp [h3]
    have l0 : ¬ (l.length : Int) < 54 := by omega
    have i0 : (0 : Int) < (l.length : Int) := by omega
    have i1 : (1 : Int) < (l.length : Int) := by omega
    clear hr
    go_enter Try.func10, Try.ntmps10
    go_wp2_with fail
    refine bodyPost_ret (v := .tuple #[pval none, .bool false]) (by simp [results, Try.f10, go_sem, pval]) rfl ?_
    exact ⟨rfl, (Kept.refl _ _).alloc _⟩

end Go.Proofs.Ytlmhodkdcllcjaa
