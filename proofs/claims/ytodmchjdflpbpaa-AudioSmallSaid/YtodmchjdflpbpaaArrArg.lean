/- An argument that is an array of numbers, by value. -/
import Derived.Test.YtodmchjdflpbpaaLaw
namespace Go.Proofs.Ytodmchjdflpbpaa
open Go.ChangeShapes Go.WideShapes Go.ChangeAt Go.RowKit

theorem okWide_array {P : Program} {w : World} {r : Reach} {base : Nat} {t e : TypeId} {n : Nat} {v : Value} (ht : P.underlying t = some (.array n e)) (h : Value.okWide P w r base t v) : ∃ cs : Array Value, v = .agg cs ∧ cs.size = P.cellsOf t := by
  simp only [Value.okWide, ht] at h
  obtain ⟨cs, h1, h2, _⟩ := h
  exact ⟨cs, h1, h2⟩
theorem open_nums {H : Type} {enc : TypeId × Value → H} {P : Program} {W : World} {base : Nat} {t e : TypeId} {n : Nat} {k : IntKind} {v : Value} {d : DataW H} {p : List MemPlace} (ht : P.underlying t = some (.array n e)) (he : P.underlying e = some (.int k)) (hC : P.cellsOf t = n) (hC1 : P.cellsOf e = 1)
    (hv : Value.okWide P W .any base t v) (h : DataW.Trod enc P W 0 (fun _ => true) true t v d p) :
    ∃ xs : List Int, v = .agg (ivs k xs).toArray ∧ xs.length = n ∧ (∀ x ∈ xs, (Lit.int k x).wf = true) := by
  obtain ⟨cs, rfl, hsz⟩ := okWide_array ht hv
  rw [hC] at hsz
  obtain ⟨fuel, hf⟩ := h
  obtain ⟨ys, m, _, _, _, hyl, hi⟩ := DataW.trod_array ht hf
  have one : ∀ i, ∃ x : Int, ∀ h : i < n, cs[i]'(by omega) = .int k x ∧ (Lit.int k x).wf = true := fun i => by
    by_cases hin : i < n
    · have h1 := hi i hin
      rw [hC1, Nat.mul_one, List.getElem?_eq_getElem (by omega)] at h1
      have h2 : ((Value.cells (.agg cs)).toList.drop i).take 1 = [cs[i]'(by omega)] := by
        show ((cs.toList).drop i).take 1 = _
        rw [List.drop_eq_getElem_cons (by simpa using (by omega : i < cs.size))]
        simp
      rw [h2] at h1
      obtain ⟨x, hx, _, hw⟩ := DataW.trod_int he h1
      simp only [List.cons.injEq, and_true] at hx
      exact ⟨x, fun _ => ⟨hx, hw⟩⟩
    · exact ⟨0, fun h => absurd h hin⟩
  obtain ⟨F, hF⟩ := Classical.axiomOfChoice one
  refine ⟨(List.range n).map F, ?_, by simp, fun x hx => ?_⟩
  · congr 1
    apply Array.ext
    · simp [ivs_length, hsz]
    · intro i h1 h2
      rw [(hF i (by omega)).1]
      simp [ivs]
  · simp only [List.mem_map, List.mem_range] at hx
    obtain ⟨i, hi, rfl⟩ := hx
    exact (hF i hi).2

end Go.Proofs.Ytodmchjdflpbpaa
