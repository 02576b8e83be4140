/-
  Layer 2: the reference Order.
-/
import Derived.Test.YtkodmhopollnpaaGreatVRefD
import Derived.Test.YtkodmhopollnpaaGreatVal2
namespace Go.Proofs.YtkodmhopollnpaaGreat
set_option linter.unusedVariables false
open Go.RowKit
open M (V)





end Go.Proofs.YtkodmhopollnpaaGreat
