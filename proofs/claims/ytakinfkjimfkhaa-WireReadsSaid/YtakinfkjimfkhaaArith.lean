/-
  Layer 1: the leaf functions that only compute: fold, zigzag, unfold.
-/
import Derived.Test.YtakinfkjimfkhaaRows
import Derived.Test.YtakinfkjimfkhaaMath
import Derived.WalkKit
import Derived.WalkSpells
import Derived.WalkLawsBesides
import Derived.Lib.Hide
import Derived.Lib.Zigzag
namespace Go.Proofs.Ytakinfkjimfkhaa
open Go.RowKit

theorem ret_int {k : IntKind} {a b : Int} (h : a = b) : Ending.returned (.int k a) = .returned (.int k b) := by rw [h]
theorem ret_bool {a b : Bool} (h : a = b) : Ending.returned (.bool a) = .returned (.bool b) := by rw [h]

theorem zig_pos {n : Int} (h : 0 ≤ n) : n * 2 = ((M.zig n : Nat) : Int) := by unfold M.zig; rw [if_neg (by omega)]; omega
theorem zig_neg {n : Int} (h : n < 0) : 2 * -(n + 1) + 1 = ((M.zig n : Nat) : Int) := by unfold M.zig; rw [if_pos h]; omega
theorem zig_lib (n : Int) : Lib.zigzag n = M.zig n := by unfold Lib.zigzag M.zig; split <;> split <;> omega

set_option maxHeartbeats 400000 in
theorem fold_any (n : Int) (w : World) (h1 : -9223372036854775808 ≤ n) (h2 : n ≤ 9223372036854775807) :
    Calls Try.prog 44 #[.int .i64 n] w fun e w' => e = .returned (.int .u64 (M.zig n)) ∧ w = w' := by
  by_cases h0 : n < 0
  · go_enter Try.func44, Try.ntmps44
    go_wp2
    go_ret
    exact ⟨ret_int (by rw [Lib.zigzag_neg h1 h0, zig_lib]), rfl⟩
  · go_enter Try.func44, Try.ntmps44
    go_wp2
    go_ret
    exact ⟨ret_int (zig_pos (by omega)), rfl⟩

set_option maxHeartbeats 400000 in
theorem zigzag_any (n : Int) (w : World) (h1 : -9223372036854775808 ≤ n) (h2 : n ≤ 9223372036854775807) :
    Calls Try.prog 31 #[.int .i64 n] w fun e w' => e = .returned (.int .u64 (M.zig n)) ∧ w = w' := by
  by_cases h0 : 0 ≤ n
  · go_enter Try.func31, Try.ntmps31
    go_wp2
    go_ret
    exact ⟨ret_int (by rw [← zig_pos h0]; omega), rfl⟩
  · go_enter Try.func31, Try.ntmps31
    go_wp2
    go_ret
    exact ⟨ret_int (zig_neg (by omega)), rfl⟩

set_option maxHeartbeats 400000 in
theorem unfold_any (u : Nat) (w : World) (h : u < 18446744073709551616) :
    Calls Try.prog 45 #[.int .u64 u] w fun e w' => e = .returned (.int .i64 (M.zag u)) ∧ w = w' := by
  by_cases h0 : u % 2 = 1
  · have hb : ((u : Int) % 2 == 1) = true := by rw [beq_iff_eq]; omega
    have h0' := Lib.hid h0
    clear h0
    go_enter Try.func45, Try.ntmps45
    go_wp2
    go_ret
    exact ⟨ret_int (by rw [show (u : Int) / 2 = ((u / 2 : Nat) : Int) by omega, Lib.i64_not _ (by omega)]; unfold M.zag; rw [if_pos h0'.out]), rfl⟩
  · have hb : ((u : Int) % 2 == 1) = false := by rw [beq_eq_false_iff_ne]; omega
    have h0' := Lib.hid h0
    clear h0
    go_enter Try.func45, Try.ntmps45
    go_wp2
    go_ret
    exact ⟨ret_int (by unfold M.zag; rw [if_neg h0'.out]; omega), rfl⟩
end Go.Proofs.Ytakinfkjimfkhaa
