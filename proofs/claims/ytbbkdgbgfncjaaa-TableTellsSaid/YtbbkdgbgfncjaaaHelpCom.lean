/- What the contracts of valisehelp's generic calls share, whatever the type. -/
import Derived.Test.YtbbkdgbgfncjaaaKit
namespace Go.Proofs.Ytbbkdgbgfncjaaa
open Go.RowKit
set_option maxRecDepth 100000

theorem Blk.of_own {w : World} {e : TypeId} {g n cap : Nat} {vs : List Value} (h : w.ownsRow 0 e 1 (.slice (some ⟨g, 0, none⟩) n cap) n vs) : ∃ cur, Blk w g e cur ∧ cur.size = cap ∧ cur.toList.take n = vs := by
  rcases h.2 with ⟨h', _⟩ | ⟨g', cap', cur, h', _, hg, _, _, hcs, ht⟩
  · simp at h'
  · simp only [Value.slice.injEq, Option.some.injEq, Addr.mk.injEq, and_true, true_and] at h'
    obtain ⟨rfl, rfl⟩ := h'
    exact ⟨cur, hg, by simpa using hcs, by simpa using ht⟩

/-- A copy with three cells of room behind it. -/
structure Copy (w : World) (q : Nat) (t : TypeId) (k : IntKind) (xs : List Int) (f : Int) : Prop where
  blk : Blk w q t (ivs k (xs ++ [f, f, f])).toArray

theorem take_set_snoc (l : List Value) (i : Nat) (u : Value) (h : i < l.length) : (l.set i u).take (i + 1) = l.take i ++ [u] := by
  rw [List.take_succ_eq_append_getElem (by simpa using h), List.take_set, List.set_eq_of_length_le (by simp; omega)]
  simp

theorem list_ne_at {xs ys : List Int} {j : Nat} (h : xs.getD j 0 ≠ ys.getD j 0) : decide (xs = ys) = false := by
  simp; intro e; subst e; exact h rfl

theorem list_eq_all {xs ys : List Int} (hl : xs.length = ys.length) (h : ∀ i, i < xs.length → xs.getD i 0 = ys.getD i 0) : xs = ys := by
  apply List.ext_getElem hl
  intro i h1 h2
  have := h i h1
  simpa [List.getD, h1, h2] using this

theorem Copy.row {w : World} {q : Nat} {t : TypeId} {k : IntKind} {xs : List Int} {f : Int} (h : Copy w q t k xs f) : Row w k (some ⟨q, 0, none⟩) xs.length xs :=
  ⟨rfl, fun j hj => ⟨q, 0, rfl, h.blk.lt, by
    rw [h.blk.cell (0 + j), Nat.zero_add, List.getElem?_toArray, ivs_get (by simp; omega)]
    simp [List.getD, List.getElem?_append_left hj]⟩⟩

end Go.Proofs.Ytbbkdgbgfncjaaa
