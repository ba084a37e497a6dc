/- Arguments of laws: from well formed numbers to bounds; a length modulo k. -/
import Derived.Test.YtbbkdgbgfncjaaaLaw
namespace Go.Proofs.Ytbbkdgbgfncjaaa
open Go.ChangeShapes Go.WideShapes Go.ChangeAt Go.RowKit
set_option maxRecDepth 100000

theorem range_bytes {xs : List Int} (h : ∀ x ∈ xs, (Lit.int .u8 x).wf = true) : ∀ x ∈ xs, 0 ≤ x ∧ x < 256 := fun x hx => by
  have := bounds_u8 (h x hx)
  omega
theorem u64_mod (n : Int) (k : Int) (hk : 0 < k) : ∃ r : Nat, (r : Int) < k ∧ (IntKind.u64.wrap n).tmod k = (r : Int) := by
  have h0 : 0 ≤ IntKind.u64.wrap n := by rw [IntKind.wrap_u64]; omega
  generalize IntKind.u64.wrap n = y at *
  rw [Int.tmod_eq_emod_of_nonneg h0]
  have h1 := Int.emod_nonneg y (show k ≠ 0 by omega)
  have h2 := Int.emod_lt_of_pos y hk
  exact ⟨(y % k).toNat, by omega, by omega⟩

theorem range_ints32 {xs : List Int} (h : ∀ x ∈ xs, (Lit.int .i32 x).wf = true) : ∀ x ∈ xs, -2147483648 ≤ x ∧ x < 2147483648 := fun x hx => by
  have := bounds_i32 (h x hx)
  omega
end Go.Proofs.Ytbbkdgbgfncjaaa
