/- How long an argument that is a slice of numbers can be: the form's own reach. -/
import Derived.Test.YtfaoolkhepihkaaLaw
import Derived.SizedLaws
namespace Go.Proofs.Ytfaoolkhepihkaa
open Go.ChangeShapes Go.WideShapes Go.ChangeAt Go.RowKit

theorem sized_row {H : Type} {enc : TypeId × Value → H} {P : Program} {W : World} {ts : List TypeId} {ds : List (DataW H)} {j : Nat} {t e : TypeId} {k : IntKind} {A : Option Addr} {n c : Nat} {d : DataW H} {p : List MemPlace}
    (hsz : (DataW.weightsEach P ts ds).all (· ≤ reachBytes) = true) (hj : ts[j]? = some t) (hd : ds[j]? = some d) (ht : P.underlying t = some (.slice e)) (he : P.underlying e = some (.int k)) (hc : P.cellsOf e = 1)
    (h : DataW.Trod enc P W 0 (fun _ => true) true t (.slice A n c) d p) : n * P.bytesOf e ≤ 140737488351232 := by
  obtain ⟨fuel, hf⟩ := h
  rcases open_ints ht he hc hf with ⟨hcs, _⟩ | ⟨a, l, c', zs, hcs, _, hl, hm, hz, hdd, hcell, hwz⟩
  · simp [Value.cells] at hcs
    obtain ⟨rfl, rfl, rfl⟩ := hcs
    simp
  · simp [Value.cells] at hcs
    obtain ⟨rfl, rfl, rfl⟩ := hcs
    have hd' : d = .slice (lits k (zs.take n)) (lits k (zs.drop n)) := by injection hdd
    subst hd'
    have := sized_slice hsz (j := j) (t := t) (e := e) hj hd ht
    have hz' : zs.length = c := by simpa using hz
    simp only [lits, List.length_map, List.length_take, List.length_drop, reachBytes] at this
    have h1 : n ≤ min n zs.length + (zs.length - n) := by omega
    exact Nat.le_trans (Nat.mul_le_mul_right _ h1) this

/-- An argument that is a slice of numbers, with all that is known of it. -/
theorem open_sized {H : Type} {enc : TypeId × Value → H} {P : Program} {W : World} {base : Nat} {ts : List TypeId} {ds : List (DataW H)} {j : Nat} {t e : TypeId} {k : IntKind} {v : Value} {d : DataW H} {p : List MemPlace}
    (hsz : (DataW.weightsEach P ts ds).all (· ≤ reachBytes) = true) (hj : ts[j]? = some t) (hd : ds[j]? = some d) (ht : P.underlying t = some (.slice e)) (he : P.underlying e = some (.int k)) (hc : P.cellsOf e = 1)
    (hv : Value.okWide P W .any base t v) (h : DataW.Trod enc P W 0 (fun _ => true) true t v d p) :
    ∃ A n c xs, v = .slice A n c ∧ (A = none → c = 0) ∧ Row W k A n xs ∧ (∀ x ∈ xs, (Lit.int k x).wf = true) ∧ n ≤ c ∧ n * P.bytesOf e ≤ 140737488351232 := by
  obtain ⟨A, n, c, xs, rfl, hnil, hr, hw, _⟩ := open_row ht he hc hv h
  have hs := sized_row hsz hj hd ht he hc h
  refine ⟨A, n, c, xs, rfl, hnil, hr, hw, ?_, hs⟩
  obtain ⟨fuel, hf⟩ := h
  rcases open_ints ht he hc hf with ⟨hcs, _⟩ | ⟨a, l, c', zs, hcs, _, hl, _⟩
  · simp [Value.cells] at hcs
    omega
  · simp [Value.cells] at hcs
    omega

end Go.Proofs.Ytfaoolkhepihkaa
