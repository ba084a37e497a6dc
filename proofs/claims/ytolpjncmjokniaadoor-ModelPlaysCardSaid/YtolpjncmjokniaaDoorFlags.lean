/- A slice of bools as an argument: what its places hold. -/
import Derived.Test.YtolpjncmjokniaaDoorLaw
namespace Go.Proofs.YtolpjncmjokniaaDoor
open Go.ChangeShapes Go.WideShapes Go.ChangeAt Go.RowKit

/-- The slice '.slice A n c' reads as the first n of f. -/
structure Flg (w : World) (A : Option Addr) (n : Nat) (f : Nat → Bool) : Prop where
  at_ : ∀ j, j < n → ∃ b o, A = some ⟨b, o, none⟩ ∧ b < w.heap.size ∧ w.cell? ⟨b, o + j, none⟩ = some (.bool (f j))

theorem Flg.cell {w w' : World} {A : Option Addr} {n : Nat} {f : Nat → Bool} (h : Flg w A n f) (hk : Fresh w w') {j : Nat} (hj : j < n) : ∃ b o, A = some ⟨b, o, none⟩ ∧ w'.cell? ⟨b, o + j, none⟩ = some (.bool (f j)) := by
  obtain ⟨b, o, e, hb, hc⟩ := h.at_ j hj
  exact ⟨b, o, e, (hk.cell (p := ⟨b, o + j, none⟩) hb id).trans hc⟩

theorem Flg.cellAt {w w' : World} {b o n : Nat} {f : Nat → Bool} (h : Flg w (some ⟨b, o, none⟩) n f) (hk : Fresh w w') {j : Nat} (hj : j < n) : w'.cell? ⟨b, o + j, none⟩ = some (.bool (f j)) := by
  obtain ⟨b', o', e, hc⟩ := h.cell hk hj
  injection e with e
  injection e with e1 e2
  subst e1; subst e2
  exact hc

/-- An argument that is a slice of bools. -/
theorem open_flags {H : Type} {enc : TypeId × Value → H} {P : Program} {W : World} {base : Nat} {t e : TypeId} {v : Value} {d : DataW H} {p : List MemPlace} (ht : P.underlying t = some (.slice e)) (he : P.underlying e = some .bool) (hc : P.cellsOf e = 1)
    (hv : Value.okWide P W .any base t v) (h : DataW.Trod enc P W 0 (fun _ => true) true t v d p) :
    ∃ A n c f, v = .slice A n c ∧ (A = none → c = 0) ∧ Flg W A n f ∧ n ≤ maxLen := by
  obtain ⟨A, n, c, rfl⟩ := okWide_slice ht hv
  obtain ⟨fuel, hf⟩ := h
  rcases Go.Deep.open_slice1 ht hc hf with ⟨hcs, _⟩ | ⟨a, l, c', m, _, V, D, Pl, hcs, _, hl, hm, hmm, _, hx⟩
  · simp [Value.cells] at hcs
    obtain ⟨rfl, rfl, rfl⟩ := hcs
    exact ⟨none, 0, 0, fun _ => false, rfl, fun _ => rfl, ⟨fun j hj => by omega⟩, by omega⟩
  · simp [Value.cells] at hcs
    obtain ⟨rfl, rfl, rfl⟩ := hcs
    have hm' : m = c := by simpa using hmm
    refine ⟨some a, n, c, fun j => match V j with | .bool b => b | _ => false, rfl, (fun e => by cases e), ⟨fun j hj => ?_⟩, by omega⟩
    obtain ⟨h1, h2⟩ := hx j (by omega)
    obtain ⟨b, hb, _⟩ := DataW.trod_bool he h2
    obtain ⟨h0, _⟩ := hx 0 (by omega)
    obtain ⟨bl, o, rfl, e2⟩ := add_none h0
    rw [e2] at h1
    have hb' : V j = .bool b := by simpa using hb
    refine ⟨bl, o, rfl, World.block_lt_of_cell? W _ h1, ?_⟩
    rw [h1, hb']

end Go.Proofs.YtolpjncmjokniaaDoor
