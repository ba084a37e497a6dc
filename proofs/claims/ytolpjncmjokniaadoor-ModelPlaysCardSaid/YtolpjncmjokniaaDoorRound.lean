/- The contract of the document's Round. -/
import Derived.Test.YtolpjncmjokniaaDoorGueMath
import Derived.Lib.MinMax
namespace Go.Proofs.YtolpjncmjokniaaDoor
open Go.RowKit

set_option maxHeartbeats 400000 in
theorem qRound_any (n : Nat) (i : Int) (w : World) (h0 : 0 < n) (hn : n ≤ 65536) :
    Calls Tryd.prog 41 #[.int .i64 i, .int .i64 n] w fun e w' => e = .returned (.int .i64 (pl i n : Nat)) ∧ w' = w := by
  have h1 := tmod_bd (i := i) h0
  have h2 := round_int (i := i) h0
  have hp := pl_lt i h0
  generalize pl i n = k at *
  go_enter Tryd.func41, Tryd.ntmps41
  go_wp2
  go_ret
  exact ⟨rfl, rfl⟩

end Go.Proofs.YtolpjncmjokniaaDoor
