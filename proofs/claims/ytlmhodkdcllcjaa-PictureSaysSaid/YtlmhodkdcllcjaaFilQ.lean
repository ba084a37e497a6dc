/- The document's Paeth, guess, Row, Unrow, Best of filters. -/
import Derived.Test.YtlmhodkdcllcjaaFilMath
import Derived.Test.YtlmhodkdcllcjaaColQ
import Derived.Deep.RegionLaw
import Derived.Deep.AppendLies
namespace Go.Proofs.Ytlmhodkdcllcjaa
open Go.RowKit
set_option maxRecDepth 100000

attribute [local go_sem ↓] Go.wp_at_zero Go.wp_at_succ




end Go.Proofs.Ytlmhodkdcllcjaa
