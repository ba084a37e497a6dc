/- What the laws of WAV files ask of the code; awake. -/
import Derived.Test.YtodmchjdflpbpaaWavM
namespace Go.Proofs.Ytodmchjdflpbpaa
open Go.RowKit
set_option maxRecDepth 100000

attribute [local go_sem ↓] Go.wp_at_zero Go.wp_at_succ


theorem laidB (w : World) (e : TypeId) (xs : List Int) : Row (w.alloc (.cells (ivs .u8 xs).toArray e)) .u8 (some ⟨w.heap.size, 0, none⟩) xs.length xs := Row.of_cells (heap_alloc_new w _)


end Go.Proofs.Ytodmchjdflpbpaa
