/-
  Layer 1: the reference PutText.
-/
import Derived.Test.YtkodmhopollnpaaGreatPut
import Derived.Deep.QuietTactic
import Derived.BigQuiet
namespace Go.Proofs.YtkodmhopollnpaaGreat
open Go.RowKit

theorem take_snoc_str (s : ByteArray) (k : Nat) (h : k < s.size) : s.data.toList.take (k + 1) = s.data.toList.take k ++ [s[k]] := by
  rw [List.take_succ_eq_append_getElem (by simpa using h)]; rfl


end Go.Proofs.YtkodmhopollnpaaGreat
