/- A part of a list of numbers of one's own, put anew. -/
import Derived.Test.YtodmchjdflpbpaaGreatArr
import Derived.Test.YtodmchjdflpbpaaGreatAppNew
namespace Go.Proofs.YtodmchjdflpbpaaGreat
open Go.RowKit
set_option maxRecDepth 100000

/-- Some of the numbers of a block are put anew. -/
theorem Own.splice {w : World} {e : TypeId} {k : IntKind} {g cap f : Nat} {xs ys : List Int} (h : Own w e k (.slice (some ⟨g, 0, none⟩) xs.length cap) xs) (hf : f + ys.length ≤ xs.length) :
    ∃ cur : Array Value, w.heap[g]? = some (.cells cur e (0, 0)) ∧ f + ys.length ≤ cur.size ∧
      Own (w.setRow g (cur.toList.take f ++ (ivs k ys ++ cur.toList.drop (f + ys.length))).toArray) e k (.slice (some ⟨g, 0, none⟩) xs.length cap) (xs.take f ++ (ys ++ xs.drop (f + ys.length))) ∧
      Kept (fun i => i = g) w (w.setRow g (cur.toList.take f ++ (ivs k ys ++ cur.toList.drop (f + ys.length))).toArray) := by
  have h0 : Own w e k (.slice (some ⟨g, 0, none⟩) xs.length cap) xs := h
  rcases h.2 with ⟨h', _⟩ | ⟨g', cap', cur, h', hb0, hg, hnc, hmx, hsz, htk⟩
  · simp at h'
  · injection h' with e1 _ e3
    injection e1 with e1
    injection e1 with e1 _
    subst e1 e3
    have hblk : Blk w g e cur := hg
    rw [Nat.mul_one] at hsz htk
    have hl : (xs.take f ++ (ys ++ xs.drop (f + ys.length))).length = xs.length := by simp only [List.length_append, List.length_take, List.length_drop]; omega
    refine ⟨cur, hg, by omega, ?_, (Kept.refl (fun i => i = g) w).rowed _ (fun _ => rfl)⟩
    unfold Own
    rw [hl]
    refine ⟨by rw [ivs_length, hl, Nat.mul_one], .inr ⟨g, cap, _, rfl, Nat.zero_le _, hblk.rowed, hnc, hmx, ?_, ?_⟩⟩
    · simp only [List.size_toArray, List.length_append, List.length_take, List.length_drop, ivs_length, Array.length_toList]
      omega
    · rw [Nat.mul_one]
      have hA : cur.toList.take f = (ivs k xs).take f := by rw [← htk, List.take_take, Nat.min_eq_left (by omega)]
      have hC : (cur.toList.drop (f + ys.length)).take (xs.length - f - ys.length) = (ivs k xs).drop (f + ys.length) := by rw [← htk, List.drop_take]; congr 1; omega
      have hlA : (cur.toList.take f).length = f := by rw [List.length_take, Array.length_toList]; omega
      show List.take xs.length (cur.toList.take f ++ (ivs k ys ++ cur.toList.drop (f + ys.length))) = _
      have hB : (ivs k ys).take (xs.length - f) = ivs k ys := List.take_of_length_le (by rw [ivs_length]; omega)
      rw [List.take_append, hlA, List.take_take, Nat.min_eq_right (by omega), List.take_append, ivs_length, hC, hA, hB]
      simp [ivs]

end Go.Proofs.YtodmchjdflpbpaaGreat
