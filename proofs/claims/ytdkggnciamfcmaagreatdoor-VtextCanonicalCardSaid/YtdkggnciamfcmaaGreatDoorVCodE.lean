/-
  Layer 2: the code's Same.
-/
import Derived.Test.YtdkggnciamfcmaaGreatDoorVCodD
import Derived.Test.YtdkggnciamfcmaaGreatDoorVRefD
import Derived.Test.YtdkggnciamfcmaaGreatDoorVMem2
namespace Go.Proofs.YtdkggnciamfcmaaGreatDoor
set_option linter.unusedVariables false
open Go.RowKit
open M (V)





end Go.Proofs.YtdkggnciamfcmaaGreatDoor
