/-
  Layer 1: PutBool.
-/
import Derived.Test.YtkodmhopollnpaaGreatPut
namespace Go.Proofs.YtkodmhopollnpaaGreat
open Go.RowKit

def yb (b : Bool) : UInt8 := if b then 1 else 0


end Go.Proofs.YtkodmhopollnpaaGreat
