/- Arguments that are lists of texts, and how much they hold together. -/
import Derived.Test.YtfaoolkhepihkaaTexts
import Derived.Test.YtfaoolkhepihkaaLaw
namespace Go.Proofs.Ytfaoolkhepihkaa
open Go.ChangeShapes Go.WideShapes Go.ChangeAt Go.RowKit

theorem bulk_one {H : Type} (d : DataW H) : 1 ≤ Rows.uptoBulk d := by
  cases d with
  | lit l => cases l <;> simp [Rows.uptoBulk]
  | nil => simp [Rows.uptoBulk]
  | ptr d => simp [Rows.uptoBulk]
  | slice elems spare => simp [Rows.uptoBulk]
  | agg parts => simp [Rows.uptoBulk]
  | iface t d => simp [Rows.uptoBulk]
  | map entries => simp [Rows.uptoBulk]
  | held h => simp [Rows.uptoBulk]
theorem bulk_length {H : Type} (l : List (DataW H)) : l.length ≤ Rows.uptoBulkAll l := by
  induction l with
  | nil => simp [Rows.uptoBulkAll]
  | cons x r ih => have := bulk_one x; simp only [Rows.uptoBulkAll, List.length_cons]; omega
theorem bulk_slice {H : Type} (elems spare : List (DataW H)) : elems.length ≤ Rows.uptoBulk (.slice elems spare) := by
  have h1 := bulk_length elems
  simp only [Rows.uptoBulk]
  omega
theorem bulk_flat {H : Type} (f : Nat → List Int) (D : Nat → DataW H) : ∀ l : List Nat, (∀ i ∈ l, (f i).length ≤ Rows.uptoBulk (D i)) → (l.map f).flatten.length ≤ Rows.uptoBulkAll (l.map D)
  | [], _ => by simp [Rows.uptoBulkAll]
  | i :: r, h => by
    have h1 := h i (by simp)
    have h2 := bulk_flat f D r (fun j hj => h j (by simp [hj]))
    simp only [List.map_cons, List.flatten_cons, List.length_append, Rows.uptoBulkAll]
    omega

theorem Parts.weaken {w : World} {P : Option Addr} {m : Nat} {L : List (List Int)} {F F' : Nat → Prop} (h : Parts w P m L F) (hF : ∀ b, F' b → F b) : Parts w P m L F' :=
  ⟨h.len, fun j hj => by
    obtain ⟨b, o, A, n, c, e, hb, hf, hc, hr, hA⟩ := h.at_ j hj
    exact ⟨b, o, A, n, c, e, hb, fun h => hf (hF _ h), hc, hr, fun b' o' e' hn h => hA b' o' e' hn (hF _ h)⟩⟩

/-- A slice of numbers as a row, at its cell's reading, and its bulk. -/
theorem open_text {H : Type} {enc : TypeId × Value → H} {P : Program} {W : World} {t e : TypeId} {fuel : Nat} {v : Value} {x : DataW H × List MemPlace} (ht : P.underlying t = some (.slice e)) (he : P.underlying e = some (.int .u8)) (hc : P.cellsOf e = 1)
    (h : DataW.trod enc P W 0 (fun _ => true) true fuel t [v] = some x) :
    ∃ A n c xs, v = .slice A n c ∧ (A = none → c = 0) ∧ Row W .u8 A n xs ∧ (∀ x ∈ xs, 0 ≤ x ∧ x < 256) ∧ n ≤ c ∧ n ≤ maxLen ∧ xs.length ≤ Rows.uptoBulk x.1 := by
  rcases open_ints ht he hc h with ⟨hcs, rfl⟩ | ⟨a, l, c', zs, hcs, _, hl, hm, hz, rfl, hcell, hwz⟩
  · simp only [List.cons.injEq, and_true] at hcs
    subst hcs
    exact ⟨none, 0, 0, [], rfl, fun _ => rfl, Row.empty _ _ _, (fun x hx => by cases hx), by omega, by omega, by simp⟩
  · simp only [List.cons.injEq, and_true] at hcs
    subst hcs
    have hz' : zs.length = c' := by simpa using hz
    refine ⟨some a, l, c', zs.take l, rfl, (fun e => by cases e), ⟨by simp; omega, fun j hj => ?_⟩, fun x hx => ?_, hl, by omega, ?_⟩
    · have h1 := hcell j (by omega)
      obtain ⟨b, o, rfl, e2⟩ := add_none (hcell 0 (by omega))
      rw [e2] at h1
      refine ⟨b, o, rfl, World.block_lt_of_cell? W _ h1, ?_⟩
      rw [h1]
      simp [List.getD, hj]
    · have := bounds_u8 (hwz x (List.mem_of_mem_take hx))
      omega
    · have := bulk_slice (H := H) (lits .u8 (zs.take l)) (lits .u8 (zs.drop l))
      simpa [lits] using this

/-- An argument that is a list of bytes, with its bulk. -/
theorem open_bytes {H : Type} {enc : TypeId × Value → H} {P : Program} {W : World} {base : Nat} {t e : TypeId} {v : Value} {d : DataW H} {p : List MemPlace} (ht : P.underlying t = some (.slice e)) (he : P.underlying e = some (.int .u8)) (hc : P.cellsOf e = 1)
    (hv : Value.okWide P W .any base t v) (h : DataW.Trod enc P W 0 (fun _ => true) true t v d p) :
    ∃ A n c xs, v = .slice A n c ∧ Row W .u8 A n xs ∧ (∀ x ∈ xs, 0 ≤ x ∧ x < 256) ∧ xs.length ≤ Rows.uptoBulk d := by
  obtain ⟨A, n, c, rfl⟩ := okWide_slice ht hv
  obtain ⟨fuel, hf⟩ := h
  obtain ⟨A', n', c', xs, e1, _, e3, e4, _, _, e7⟩ := open_text ht he hc hf
  exact ⟨A', n', c', xs, e1, e3, e4, e7⟩

/-- An argument that is a list of texts. -/
theorem open_texts {H : Type} {enc : TypeId × Value → H} {P : Program} {W : World} {base : Nat} {t e b : TypeId} {v : Value} {d : DataW H} {p : List MemPlace} (ht : P.underlying t = some (.slice e)) (he : P.underlying e = some (.slice b)) (hb : P.underlying b = some (.int .u8)) (hce : P.cellsOf e = 1) (hcb : P.cellsOf b = 1)
    (hv : Value.okWide P W .any base t v) (h : DataW.Trod enc P W 0 (fun _ => true) true t v d p) :
    ∃ A n c L, v = .slice A n c ∧ (A = none → c = 0) ∧ n ≤ maxLen ∧ Parts W A n L (fun b => W.heap.size ≤ b) ∧ (∀ l ∈ L, ∀ x ∈ l, 0 ≤ x ∧ x < 256) ∧ L.flatten.length ≤ Rows.uptoBulk d := by
  obtain ⟨A, n, c, rfl⟩ := okWide_slice ht hv
  obtain ⟨fuel, hf⟩ := h
  rcases Go.Deep.open_slice1 ht hce hf with ⟨hcs, hx⟩ | ⟨a, l, c', m', n', V, D, Pl, hcs, _, hl, hm, hmm, hx, hi⟩
  · simp [Value.cells] at hcs
    obtain ⟨rfl, rfl, rfl⟩ := hcs
    exact ⟨none, 0, 0, [], rfl, fun _ => rfl, by omega, ⟨rfl, fun j hj => by omega⟩, by simp, by simp⟩
  · simp [Value.cells] at hcs
    obtain ⟨rfl, rfl, rfl⟩ := hcs
    have hm' : m' = c := by simpa using hmm
    obtain ⟨f, hfx⟩ := Go.Deep.choose_lt (α := List Int) (n := n) (p := fun i xs => ∃ A k c, V i = .slice A k c ∧ Row W .u8 A k xs ∧ (∀ x ∈ xs, 0 ≤ x ∧ x < 256) ∧ xs.length ≤ Rows.uptoBulk (D i)) (fun i hin => by
      obtain ⟨A, k, c, xs, e1, _, e3, e4, _, _, e7⟩ := open_text he hb hcb (hi i (by omega)).2
      exact ⟨xs, A, k, c, e1, e3, e4, e7⟩)
    refine ⟨some a, n, c, (List.range n).map f, rfl, (fun e => by cases e), by omega, ⟨by simp, fun j hj => ?_⟩, ?_, ?_⟩
    · obtain ⟨A, k, cA, e1, e2, _, _⟩ := hfx j hj
      have h1 := (hi j (by omega)).1
      obtain ⟨b', o', rfl, e3⟩ := add_none (hi 0 (by omega)).1
      rw [e3, e1] at h1
      refine ⟨b', o', A, k, cA, rfl, World.block_lt_of_cell? W _ h1, by have := World.block_lt_of_cell? W _ h1; simp at this ⊢; omega, h1, by simpa [List.getD, hj] using e2, fun b2 o2 e4 hk => ?_⟩
      obtain ⟨b3, o3, e5, hb3, _⟩ := e2.at_ 0 hk
      rw [e4] at e5
      injection e5 with e5
      injection e5 with e5
      omega
    · intro l hl
      simp only [List.mem_map, List.mem_range] at hl
      obtain ⟨i, hin, rfl⟩ := hl
      obtain ⟨_, _, _, _, _, e3, _⟩ := hfx i hin
      exact e3
    · injection hx with hx _
      rw [hx]
      have := bulk_flat f D (List.range n) (fun i hin => by
        obtain ⟨_, _, _, _, _, _, e4⟩ := hfx i (List.mem_range.1 hin)
        exact e4)
      simp only [Rows.uptoBulk]
      omega

end Go.Proofs.Ytfaoolkhepihkaa
