/- A part of a slice. -/
import Derived.Test.YtbbkdgbgfncjaaaKit
namespace Go.Proofs.Ytbbkdgbgfncjaaa
open Go.RowKit
set_option maxRecDepth 100000

/-- A part of a slice, from l on. -/
def cutAt (A : Option Addr) (l c : Nat) : Option Addr := if c = l then A else A.map (·.add l)

theorem run_slice_from {P : Program} (t e : TypeId) (ht : P.underlying t = some (.slice e)) (hc : ∀ w, (sizeOf e).run P w = .ok 1 w) (A : Option Addr) (n c l : Nat) (hh : l ≤ n) (W : World) :
    (Instr.slice t (.slice A n c) (some (.int .i64 (l : Int))) none none).run P W = .ok (.slice (cutAt A l c) (n - l) (c - l)) W := by
  have he : P.elem t = e := by simp [Program.elem, ht]
  rw [run_slice_l W t A n c (by rw [he]; exact ht) .i64 (l : Int) (by omega) (by omega), he, hc]
  simp [Result.andThen, sliced, cutAt]
theorem run_slice_part {P : Program} (t e : TypeId) (ht : P.underlying t = some (.slice e)) (hc : ∀ w, (sizeOf e).run P w = .ok 1 w) (A : Option Addr) (n c l h : Nat) (k : Int) (hk : k = h) (hl : l ≤ h) (hh : h ≤ c) (W : World) :
    (Instr.slice t (.slice A n c) (some (.int .i64 (l : Int))) (some (.int .i64 k)) none).run P W = .ok (.slice (cutAt A l c) (h - l) (c - l)) W := by
  subst hk
  have he : P.elem t = e := by simp [Program.elem, ht]
  rw [run_slice_lh W t A n c (by rw [he]; exact ht) .i64 .i64 (l : Int) (h : Int) (by omega) (by omega) (by omega), he, hc]
  simp [Result.andThen, sliced, cutAt]

theorem Row.cut {w : World} {k : IntKind} {A : Option Addr} {n : Nat} {xs : List Int} (h : Row w k A n xs) {l m c : Nat} (hl : l + m ≤ n) (hc : n ≤ c) : Row w k (cutAt A l c) m ((xs.drop l).take m) :=
  ⟨by rw [List.length_take, List.length_drop, h.len]; omega, fun j hj => by
    obtain ⟨b, o, rfl, hb, hcell⟩ := h.at_ (l + j) (by omega)
    refine ⟨b, o + l, ?_, hb, ?_⟩
    · rw [cutAt, if_neg (by omega)]
      simp [Addr.add]
    · rw [Nat.add_assoc, hcell]
      simp [List.getD, hj, List.getElem?_drop]⟩
theorem Row.cut_block {w : World} {k : IntKind} {A : Option Addr} {n : Nat} {xs : List Int} (h : Row w k A n xs) {l m c : Nat} (hl : l + m ≤ n) (hc : n ≤ c) :
    ∀ b o, cutAt A l c = some ⟨b, o, none⟩ → 0 < m → b < w.heap.size ∧ ∃ o', A = some ⟨b, o', none⟩ := by
  intro b o e hm
  obtain ⟨b0, o0, rfl, hb, _⟩ := h.at_ 0 (by omega)
  rw [cutAt, if_neg (by omega)] at e
  simp [Addr.add] at e
  have hbb : b0 = b := by
    by_cases hl0 : l = 0
    · rw [if_pos hl0] at e; injection e
    · rw [if_neg hl0] at e; injection e
  subst hbb
  exact ⟨hb, o0, rfl⟩


end Go.Proofs.Ytbbkdgbgfncjaaa
