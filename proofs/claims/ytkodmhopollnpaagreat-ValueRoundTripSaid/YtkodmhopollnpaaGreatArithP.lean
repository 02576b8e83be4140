/-
  Layer 1: fold, zigzag.
-/
import Derived.Test.YtkodmhopollnpaaGreatMem
namespace Go.Proofs.YtkodmhopollnpaaGreat
open Go.RowKit

set_option maxHeartbeats 400000 in
theorem fold_any (n : Int) (w : World) (h1 : -9223372036854775808 ≤ n) (h2 : n ≤ 9223372036854775807) :
    Calls Tryz.prog 113 #[.int .i64 n] w fun e w' => e = .returned (.int .u64 (M.zig n)) ∧ w = w' := by
  by_cases h0 : n < 0
  · go_enter Tryz.func113, Tryz.ntmps113
    go_wp2
    go_ret
    exact ⟨ret_int (by rw [Lib.zigzag_neg h1 h0, zig_lib]), rfl⟩
  · go_enter Tryz.func113, Tryz.ntmps113
    go_wp2
    go_ret
    exact ⟨ret_int (zig_pos (by omega)), rfl⟩


end Go.Proofs.YtkodmhopollnpaaGreat
