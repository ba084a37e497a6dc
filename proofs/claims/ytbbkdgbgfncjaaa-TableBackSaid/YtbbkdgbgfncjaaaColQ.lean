/- The document's Turn, Back, Apart, Together of colours. -/
import Derived.Test.YtbbkdgbgfncjaaaColMath
import Derived.Test.YtbbkdgbgfncjaaaAppNew
import Derived.Test.YtbbkdgbgfncjaaaZeros
import Derived.Test.YtbbkdgbgfncjaaaCut
import Derived.Deep.RegionHeld3
import Derived.Deep.DrawnRows
import Derived.Lib.MinMax
namespace Go.Proofs.Ytbbkdgbgfncjaaa
open Go.RowKit
set_option maxRecDepth 100000

attribute [local go_sem ↓] Go.wp_at_zero Go.wp_at_succ

theorem Try.infoCol : (Try.prog.info? 5).map (fun i => (i.zero, i.size, i.bytes)) = some (some (.int .u8 0), 1, 1) := by kernel_rfl
theorem NewRow.none (w : World) (e : TypeId) (k : IntKind) : NewRow w w e k (.slice none 0 0) [] := ⟨Own.nil _ _ _, fun g e => (by cases e), Kept.refl _ _⟩





end Go.Proofs.Ytbbkdgbgfncjaaa
