/-
  Layer 2: the code's Order.
-/
import Derived.Test.YtdkggnciamfcmaaGreatDoorVCodE
import Derived.Test.YtdkggnciamfcmaaGreatDoorVRefE
import Derived.Test.YtdkggnciamfcmaaGreatDoorVal5
import Derived.Laws.Externs
namespace Go.Proofs.YtdkggnciamfcmaaGreatDoor
set_option linter.unusedVariables false
open Go.RowKit
open M (V)










end Go.Proofs.YtdkggnciamfcmaaGreatDoor
