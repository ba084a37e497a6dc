/- Lists of numbers of 32 bits that are told, or laid; fresh worlds. -/
import Derived.Test.YtbbkdgbgfncjaaaFixMath
namespace Go.Proofs.Ytbbkdgbgfncjaaa
open Go.RowKit
set_option maxRecDepth 100000

theorem Row.laidF (w : World) (e : TypeId) (k : IntKind) (xs : List Int) : Row (w.alloc (.cells (ivs k xs).toArray e)) k (some ⟨w.heap.size, 0, none⟩) xs.length xs :=
  ⟨rfl, fun j hj => ⟨w.heap.size, 0, rfl, by simp, by
    rw [(Blk.new w e (ivs k xs).toArray).cell, Nat.zero_add, List.getElem?_toArray, ivs_get hj]⟩⟩
theorem I32.dec {l : List Int} (h : (l.all fun v => decide (-2147483648 ≤ v ∧ v < 2147483648)) = true) : I32 l := fun v hv => of_decide_eq_true (List.all_eq_true.1 h v hv)
/-- A list that reads as xs is told. -/
def RetRow (w w' : World) (e : Ending) (n : Nat) (xs : List Int) : Prop := ∃ B cB, e = .returned (.slice B n cB) ∧ Row w' .i32 B n xs ∧ Fresh w w'
theorem RetRow.of {w w' : World} {e : Ending} {n : Nat} {xs : List Int} (hn : xs.length = n) (h : ∃ u, e = .returned u ∧ NewRow w w' 21 .i32 u xs) : RetRow w w' e n xs := by
  obtain ⟨u, rfl, hu, _, hf⟩ := h
  obtain ⟨B, cB, rfl, hr, _⟩ := hu.row
  rw [hn] at hr
  rw [hn]
  exact ⟨B, cB, rfl, hr, hf⟩
theorem Fresh.two {a b c : World} (h : Fresh a b) (k : Fresh b c) : Fresh a c := h.trans k fun _ _ e => e
theorem Row.fresh {w w' : World} {k : IntKind} {A : Option Addr} {n : Nat} {xs : List Int} (h : Row w k A n xs) (hf : Fresh w w') : Row w' k A n xs := h.kept hf fun _ _ _ _ => id

end Go.Proofs.Ytbbkdgbgfncjaaa
