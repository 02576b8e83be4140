/-
  Layer 2: the reference Order.
-/
import Derived.Test.YtdkggnciamfcmaaGreatDoorVRefD
import Derived.Test.YtdkggnciamfcmaaGreatDoorVal2
namespace Go.Proofs.YtdkggnciamfcmaaGreatDoor
set_option linter.unusedVariables false
open Go.RowKit
open M (V)





end Go.Proofs.YtdkggnciamfcmaaGreatDoor
