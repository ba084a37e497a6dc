/- Lists of texts in memory. -/
import Derived.Test.YtbbkdgbgfncjaaaKit
namespace Go.Proofs.Ytbbkdgbgfncjaaa
open Go.RowKit
set_option maxRecDepth 100000

/-- Some texts; nothing of them lies in F. -/
structure Parts (w : World) (P : Option Addr) (m : Nat) (L : List (List Int)) (F : Nat → Prop) : Prop where
  len : L.length = m
  at_ : ∀ j, j < m → ∃ b o A n c, P = some ⟨b, o, none⟩ ∧ b < w.heap.size ∧ ¬ F b ∧ w.cell? ⟨b, o + j, none⟩ = some (.slice A n c) ∧ Row w .u8 A n (L.getD j []) ∧ (∀ b' o', A = some ⟨b', o', none⟩ → 0 < n → ¬ F b')

theorem Parts.kept {w w' : World} {P : Option Addr} {m : Nat} {L : List (List Int)} {F S : Nat → Prop} (h : Parts w P m L F) (hk : Kept S w w') (hs : ∀ b, b < w.heap.size → ¬ F b → ¬ S b) : Parts w' P m L F :=
  ⟨h.len, fun j hj => by
    obtain ⟨b, o, A, n, c, e, hb, hf, hc, hr, hA⟩ := h.at_ j hj
    refine ⟨b, o, A, n, c, e, Nat.lt_of_lt_of_le hb hk.size, hf, (hk.cell (p := ⟨b, o + j, none⟩) hb (hs b hb hf)).trans hc, hr.kept hk (fun b' o' e' hn => ?_), hA⟩
    obtain ⟨b2, o2, e2, hb2, _⟩ := hr.at_ 0 hn
    rw [e'] at e2
    injection e2 with e2
    injection e2 with e2
    subst e2
    exact hs _ hb2 (hA _ _ e' hn)⟩

theorem flat_take {L : List (List Int)} {j : Nat} (hj : j < L.length) : (L.take (j + 1)).flatten = (L.take j).flatten ++ L.getD j [] := by
  rw [List.take_succ_eq_append_getElem hj]; simp [hj, -List.take_append_getElem]
theorem flat_le {L : List (List Int)} {j : Nat} (hj : j < L.length) : (L.take j).flatten.length + (L.getD j []).length ≤ L.flatten.length := by
  have e := flat_take hj
  have : L.flatten = (L.take (j + 1)).flatten ++ (L.drop (j + 1)).flatten := by rw [← List.flatten_append, List.take_append_drop]
  rw [this, e]; simp

/-- One text, in a list of its own. -/
theorem Parts.one {w : World} {A : Option Addr} {n c : Nat} {xs : List Int} {F : Nat → Prop} {t : TypeId} (hr : Row w .u8 A n xs) (hA : ∀ b o, A = some ⟨b, o, none⟩ → 0 < n → ¬ F b) (hF : ¬ F w.heap.size) :
    Parts (w.alloc (.cells #[.slice A n c] t)) (some ⟨w.heap.size, 0, none⟩) 1 [xs] F :=
  ⟨rfl, fun j hj => by
    obtain rfl : j = 0 := by omega
    refine ⟨w.heap.size, 0, A, n, c, rfl, by simp, hF, (Blk.new w t #[.slice A n c]).cell 0, hr.kept ((Kept.refl (fun _ => False) w).alloc _) (fun _ _ _ _ => id), hA⟩⟩

end Go.Proofs.Ytbbkdgbgfncjaaa
