/- Arguments that are lists: of texts (strings), of lists of numbers. -/
import Derived.Test.YtcpmjaoglbgmbaaLaw
namespace Go.Proofs.Ytcpmjaoglbgmbaa
open Go.ChangeShapes Go.WideShapes Go.ChangeAt Go.RowKit

/-- A slice of things of one cell each. -/
theorem open_list {H : Type} {enc : TypeId × Value → H} {P : Program} {W : World} {base : Nat} {t e : TypeId} {v : Value} {d : DataW H} {p : List MemPlace} (ht : P.underlying t = some (.slice e)) (hC : P.cellsOf e = 1)
    (hv : Value.okWide P W .any base t v) (h : DataW.Trod enc P W 0 (fun _ => true) true t v d p) :
    ∃ A n c, v = .slice A n c ∧ (A = none → c = 0) ∧ n ≤ maxLen ∧ n ≤ c ∧ ∀ i, i < n →
      ∃ b o u y m, A = some ⟨b, o, none⟩ ∧ b < W.heap.size ∧ W.cell? ⟨b, o + i, none⟩ = some u ∧ DataW.trod enc P W 0 (fun _ => true) true m e [u] = some y := by
  obtain ⟨A, n, c, rfl⟩ := okWide_slice ht hv
  obtain ⟨fuel, hf⟩ := h
  rcases Go.Deep.open_slice ht hf with ⟨hcs, _⟩ | ⟨a, l, c', m', n', D, Pl, hcs, _, hl, hm, hmm, _, hi⟩
  · simp [Value.cells] at hcs
    obtain ⟨rfl, rfl, rfl⟩ := hcs
    exact ⟨none, 0, 0, rfl, fun _ => rfl, by omega, by omega, fun i hi => by omega⟩
  · simp [Value.cells] at hcs
    obtain ⟨rfl, rfl, rfl⟩ := hcs
    have hm' : m' = c := by simpa using hmm
    have one : ∀ i, i < m' → ∃ u y m, W.cell? (a.add i) = some u ∧ DataW.trod enc P W 0 (fun _ => true) true m e [u] = some y := fun i hin => by
      obtain ⟨cs', hc, ht'⟩ := hi i hin
      rw [hC] at hc
      obtain ⟨_, hcl, hat⟩ := World.cells?_some hc
      obtain ⟨u, rfl⟩ : ∃ u, cs' = [u] := by
        match cs', hcl with
        | [u], _ => exact ⟨u, rfl⟩
      have := hat 0 (by omega)
      rw [Go.Deep.add_add, Nat.mul_one, Nat.add_zero] at this
      exact ⟨u, _, _, this, ht'⟩
    refine ⟨some a, n, c, rfl, (fun e => by cases e), by omega, hl, fun i hin => ?_⟩
    obtain ⟨u0, _, _, h30, _⟩ := one 0 (by omega)
    obtain ⟨u, y, k, h3, h4⟩ := one i (by omega)
    obtain ⟨b, o, rfl, e2⟩ := add_none h30
    rw [e2] at h3
    exact ⟨b, o, u, y, k, rfl, World.block_lt_of_cell? W _ h3, h3, h4⟩

/-- A list of strings in memory. -/
def Names (w : World) (A : Option Addr) (n : Nat) (S : Nat → ByteArray) : Prop := ∀ i, i < n → ∃ b o, A = some ⟨b, o, none⟩ ∧ b < w.heap.size ∧ w.cell? ⟨b, o + i, none⟩ = some (.string (S i)) ∧ (S i).size ≤ maxLen
theorem Names.kept {w w' : World} {A : Option Addr} {n : Nat} {S : Nat → ByteArray} (h : Names w A n S) (hk : Fresh w w') : Names w' A n S := fun i hi => by
  obtain ⟨b, o, e, hb, hc, hs⟩ := h i hi
  exact ⟨b, o, e, Nat.lt_of_lt_of_le hb hk.size, (hk.cell (p := ⟨b, o + i, none⟩) hb id).trans hc, hs⟩
theorem open_names {H : Type} {enc : TypeId × Value → H} {P : Program} {W : World} {base : Nat} {t e : TypeId} {v : Value} {d : DataW H} {p : List MemPlace} (ht : P.underlying t = some (.slice e)) (he : P.underlying e = some .string) (hC : P.cellsOf e = 1)
    (hv : Value.okWide P W .any base t v) (h : DataW.Trod enc P W 0 (fun _ => true) true t v d p) :
    ∃ A n c S, v = .slice A n c ∧ (A = none → c = 0) ∧ n ≤ maxLen ∧ n ≤ c ∧ Names W A n S := by
  obtain ⟨A, n, c, rfl, hz, hn, hnc, hi⟩ := open_list ht hC hv h
  have hS : ∀ i, ∃ s : ByteArray, i < n → ∃ b o, A = some ⟨b, o, none⟩ ∧ b < W.heap.size ∧ W.cell? ⟨b, o + i, none⟩ = some (.string s) ∧ s.size ≤ maxLen := fun i => by
    by_cases hin : i < n
    · obtain ⟨b, o, u, y, m, e1, hb, hc, ht'⟩ := hi i hin
      obtain ⟨s, hs, _, hl⟩ := DataW.trod_string he ht'
      simp only [List.cons.injEq, and_true] at hs
      subst hs
      exact ⟨s, fun _ => ⟨b, o, e1, hb, hc, hl⟩⟩
    · exact ⟨⟨#[]⟩, fun h => absurd h hin⟩
  obtain ⟨S, hS⟩ := Classical.axiomOfChoice hS
  exact ⟨A, n, c, S, rfl, hz, hn, hnc, hS⟩

/-- A list of lists of numbers in memory. -/
def Conts (w : World) (k : IntKind) (A : Option Addr) (n : Nat) (T : Nat → List Int) : Prop := ∀ i, i < n → ∃ b o B m c, A = some ⟨b, o, none⟩ ∧ b < w.heap.size ∧ w.cell? ⟨b, o + i, none⟩ = some (.slice B m c) ∧ Row w k B m (T i) ∧ m ≤ c ∧ m ≤ maxLen ∧ (∀ x ∈ T i, (Lit.int k x).wf = true)
theorem Conts.kept {w w' : World} {k : IntKind} {A : Option Addr} {n : Nat} {T : Nat → List Int} (h : Conts w k A n T) (hk : Fresh w w') : Conts w' k A n T := fun i hi => by
  obtain ⟨b, o, B, m, c, e, hb, hc, hr, h1, h2, h3⟩ := h i hi
  exact ⟨b, o, B, m, c, e, Nat.lt_of_lt_of_le hb hk.size, (hk.cell (p := ⟨b, o + i, none⟩) hb id).trans hc, hr.kept hk (fun _ _ _ _ => id), h1, h2, h3⟩
theorem open_conts {H : Type} {enc : TypeId × Value → H} {P : Program} {W : World} {base : Nat} {t e b0 : TypeId} {k : IntKind} {v : Value} {d : DataW H} {p : List MemPlace} (ht : P.underlying t = some (.slice e)) (he : P.underlying e = some (.slice b0)) (hb0 : P.underlying b0 = some (.int k)) (hC : P.cellsOf e = 1) (hC2 : P.cellsOf b0 = 1)
    (hv : Value.okWide P W .any base t v) (h : DataW.Trod enc P W 0 (fun _ => true) true t v d p) :
    ∃ A n c T, v = .slice A n c ∧ (A = none → c = 0) ∧ n ≤ maxLen ∧ n ≤ c ∧ Conts W k A n T := by
  obtain ⟨A, n, c, rfl, hz, hn, hnc, hi⟩ := open_list ht hC hv h
  have hS : ∀ i, ∃ l : List Int, i < n → ∃ b o B m c, A = some ⟨b, o, none⟩ ∧ b < W.heap.size ∧ W.cell? ⟨b, o + i, none⟩ = some (.slice B m c) ∧ Row W k B m l ∧ m ≤ c ∧ m ≤ maxLen ∧ (∀ x ∈ l, (Lit.int k x).wf = true) := fun i => by
    by_cases hin : i < n
    · obtain ⟨b, o, u, y, m, e1, hb, hc, ht'⟩ := hi i hin
      obtain ⟨B, m2, c2, xs, rfl, _, hr, hw, h1, h2⟩ := open_cell he hb0 hC2 ht'
      exact ⟨xs, fun _ => ⟨b, o, B, m2, c2, e1, hb, hc, hr, h1, h2, hw⟩⟩
    · exact ⟨[], fun h => absurd h hin⟩
  obtain ⟨T, hT⟩ := Classical.axiomOfChoice hS
  exact ⟨A, n, c, T, rfl, hz, hn, hnc, hT⟩

end Go.Proofs.Ytcpmjaoglbgmbaa
