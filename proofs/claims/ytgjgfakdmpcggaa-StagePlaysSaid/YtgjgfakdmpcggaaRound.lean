/- The contract of the document's Round. -/
import Derived.Test.YtgjgfakdmpcggaaGueMath
import Derived.Lib.MinMax
namespace Go.Proofs.Ytgjgfakdmpcggaa
open Go.RowKit

set_option maxHeartbeats 400000 in
theorem qRound_any (n : Nat) (i : Int) (w : World) (h0 : 0 < n) (hn : n ≤ 65536) :
    Calls Try.prog 20 #[.int .i64 i, .int .i64 n] w fun e w' => e = .returned (.int .i64 (pl i n : Nat)) ∧ w' = w := by
  have h1 := tmod_bd (i := i) h0
  have h2 := round_int (i := i) h0
  have hp := pl_lt i h0
  generalize pl i n = k at *
  go_enter Try.func20, Try.ntmps20
  go_wp2
  go_ret
  exact ⟨rfl, rfl⟩

end Go.Proofs.Ytgjgfakdmpcggaa
