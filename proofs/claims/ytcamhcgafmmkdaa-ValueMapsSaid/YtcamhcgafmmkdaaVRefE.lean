/-
  Layer 2: the reference Order.
-/
import Derived.Test.YtcamhcgafmmkdaaVRefD
import Derived.Test.YtcamhcgafmmkdaaVal2
namespace Go.Proofs.Ytcamhcgafmmkdaa
set_option linter.unusedVariables false
open Go.RowKit
open M (V)





end Go.Proofs.Ytcamhcgafmmkdaa
