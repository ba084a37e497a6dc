/- An argument that is a list of bits with their chances. -/
import Derived.Test.YtfdeacoaimnfeaaCodMath
import Derived.Test.YtfdeacoaimnfeaaLaw
namespace Go.Proofs.Ytfdeacoaimnfeaa
open Go.ChangeShapes Go.WideShapes Go.ChangeAt Go.RowKit

/-- The slice at S reads as the pairs L. -/
structure BitL (w : World) (S : Option Addr) (m : Nat) (L : List (Int × Int)) : Prop where
  len : L.length = m
  at_ : ∀ i, i < m → ∃ (b o : Nat) (x : Int × Int), S = some ⟨b, o, none⟩ ∧ b < w.heap.size ∧ L[i]? = some x ∧
    w.cell? ⟨b, o + i * 2, none⟩ = some (.int .i64 x.1) ∧ w.cell? ⟨b, o + i * 2 + 1, none⟩ = some (.int .i64 x.2)

theorem BitL.fresh {w w' : World} {S : Option Addr} {m : Nat} {L : List (Int × Int)} (h : BitL w S m L) (hf : Fresh w w') : BitL w' S m L :=
  ⟨h.len, fun i hi => by
    obtain ⟨b, o, x, e, hb, hx, c0, c1⟩ := h.at_ i hi
    exact ⟨b, o, x, e, Nat.lt_of_lt_of_le hb hf.size, hx, (hf.cell (p := ⟨b, o + i * 2, none⟩) hb id).trans c0, (hf.cell (p := ⟨b, o + i * 2 + 1, none⟩) hb id).trans c1⟩⟩

/-- The bit and the chance that count. -/
def bc (x : Int × Int) : Bool × Nat := (x.1 != 0, cl x.2)
theorem bc_le (L : List (Int × Int)) : ∀ x ∈ L.map bc, x.2 ≤ 4095 := by
  intro x hx
  simp only [List.mem_map] at hx
  obtain ⟨y, _, rfl⟩ := hx
  exact (cl_bd y.2).2

theorem open_bits {H : Type} {enc : TypeId × Value → H} {W : World} {base : Nat} {v : Value} {d : DataW H} {p : List MemPlace}
    (hv : Value.okWide Try.prog W .any base 22 v) (h : DataW.Trod enc Try.prog W 0 (fun _ => true) true 22 v d p) :
    ∃ A n c L, v = .slice A n c ∧ (A = none → c = 0) ∧ n ≤ maxLen ∧ BitL W A n L := by
  obtain ⟨S, m, c, rfl, hnil, hm, hs⟩ := open_recs Try.underlying22 Try.underlying30 (by kernel_rfl) (by kernel_rfl) hv h
  obtain ⟨f, hf⟩ := Go.Deep.choose_lt (α := Int × Int) (n := m) (p := fun i x => ∃ (b o : Nat), S = some ⟨b, o, none⟩ ∧ b < W.heap.size ∧
      W.cell? ⟨b, o + i * 2, none⟩ = some (.int .i64 x.1) ∧ W.cell? ⟨b, o + i * 2 + 1, none⟩ = some (.int .i64 x.2)) (fun i hi => by
    obtain ⟨b, o, u0, y0, m0, rfl, hb, hc0, ht0⟩ := hs i hi 0 _ rfl
    obtain ⟨b1, o1, u1, y1, m1, e1, _, hc1, ht1⟩ := hs i hi 1 _ rfl
    injection e1 with e1; injection e1 with e1 e1'; subst e1; subst e1'
    obtain ⟨B, hB, _, _⟩ := DataW.trod_int Try.underlying3 ht0
    obtain ⟨C, hC, _, _⟩ := DataW.trod_int Try.underlying3 ht1
    simp only [List.cons.injEq, and_true] at hB hC
    subst hB; subst hC
    exact ⟨(B, C), b, o, rfl, hb, hc0, hc1⟩)
  refine ⟨S, m, c, (List.range m).map f, rfl, hnil, hm, ⟨by simp, fun i hi => ?_⟩⟩
  obtain ⟨b, o, e, hb, h0, h1⟩ := hf i hi
  exact ⟨b, o, f i, e, hb, by simp [hi], h0, h1⟩

end Go.Proofs.Ytfdeacoaimnfeaa
