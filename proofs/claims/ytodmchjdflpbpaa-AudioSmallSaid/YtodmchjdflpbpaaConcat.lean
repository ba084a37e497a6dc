/- slices.Grow of nil bytes, slices.Concat of texts. -/
import Derived.Test.YtodmchjdflpbpaaNumR
import Derived.Lib.AppendZerosOnto
import Derived.BigQuiet
import Derived.Deep.DrawnRows
namespace Go.Proofs.Ytodmchjdflpbpaa
open Go.RowKit
set_option maxRecDepth 100000

attribute [local go_sem ↓] Go.wp_at_zero Go.wp_at_succ



end Go.Proofs.Ytodmchjdflpbpaa
