/-
  Layer 2: the reference Order.
-/
import Derived.Test.YtfcbieiefdbbpaaVRefD
import Derived.Test.YtfcbieiefdbbpaaVal2
namespace Go.Proofs.Ytfcbieiefdbbpaa
set_option linter.unusedVariables false
open Go.RowKit
open M (V)





end Go.Proofs.Ytfcbieiefdbbpaa
