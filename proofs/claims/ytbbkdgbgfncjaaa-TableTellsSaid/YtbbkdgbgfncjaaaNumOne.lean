/- One text, written raw out of new memory. -/
import Derived.Test.YtbbkdgbgfncjaaaNumW
namespace Go.Proofs.Ytbbkdgbgfncjaaa
open Go.RowKit
set_option maxRecDepth 100000

/-- One text is written raw, out of new memory. -/
theorem nRawOne_any (g : Nat) (v : Value) (bs : List Int) (A : Option Addr) (n c : Nat) (xs : List Int) (t : TypeId) (w V : World) (h : NW w g v bs) (hf : Fresh w V) (hr : Row V .u8 A n xs) (hA : ∀ b o, A = some ⟨b, o, none⟩ → w.heap.size ≤ b) (hl : bs.length + xs.length ≤ 140737488355328) :
    Calls Try.prog 23 #[.pointer (some ⟨g, 0, none⟩), .slice (some ⟨V.heap.size, 0, none⟩) 1 1] (V.alloc (.cells #[.slice A n c] t)) fun e w' => e = .returned (.tuple #[]) ∧ NPost w w' g v (bs ++ xs) := by
  have hfa : Fresh V (V.alloc (.cells #[.slice A n c] t)) := (Kept.refl _ _).alloc _
  have hw := hf.trans hfa fun _ _ e => e
  have hp := Parts.one (c := c) (t := t) (F := NFoot g v) hr (fun b o e _ hf2 => by have := hA b o e; have := h.lt b hf2; omega) (fun hf2 => by have := h.lt _ hf2; have := hf.size; omega)
  refine (nRaw_any g v bs _ 1 1 [xs] _ (h.kept hw (fun _ _ => id)) hp (by omega) (by simpa using hl)).mono fun e w' ⟨he, hq⟩ => ⟨he, ?_⟩
  simpa using NPost.after hw hq

end Go.Proofs.Ytbbkdgbgfncjaaa
