/-
  What all texts import; small laws of integers.
-/
import Derived.Test.YtffolfnaalijnaaDoorRows
import Derived.Test.YtffolfnaalijnaaDoorMath
import Derived.WalkKit
import Derived.WalkSpells
import Derived.WalkLawsBesides
import Derived.Lib.Hide
import Derived.Lib.Zigzag
namespace Go.Proofs.YtffolfnaalijnaaDoor
open Go.RowKit

theorem ret_int {k : IntKind} {a b : Int} (h : a = b) : Ending.returned (.int k a) = .returned (.int k b) := by rw [h]
theorem ret_bool {a b : Bool} (h : a = b) : Ending.returned (.bool a) = .returned (.bool b) := by rw [h]

theorem zig_pos {n : Int} (h : 0 ≤ n) : n * 2 = ((M.zig n : Nat) : Int) := by unfold M.zig; rw [if_neg (by omega)]; omega
theorem zig_neg {n : Int} (h : n < 0) : 2 * -(n + 1) + 1 = ((M.zig n : Nat) : Int) := by unfold M.zig; rw [if_pos h]; omega
theorem zig_lib (n : Int) : Lib.zigzag n = M.zig n := by unfold Lib.zigzag M.zig; split <;> split <;> omega

end Go.Proofs.YtffolfnaalijnaaDoor
