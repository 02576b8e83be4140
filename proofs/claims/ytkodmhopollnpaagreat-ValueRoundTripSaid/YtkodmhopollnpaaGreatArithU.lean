/-
  Layer 1: unfold.
-/
import Derived.Test.YtkodmhopollnpaaGreatMem
namespace Go.Proofs.YtkodmhopollnpaaGreat
open Go.RowKit

set_option maxHeartbeats 400000 in
theorem unfold_any (u : Nat) (w : World) (h : u < 18446744073709551616) :
    Calls Tryz.prog 112 #[.int .u64 u] w fun e w' => e = .returned (.int .i64 (M.zag u)) ∧ w = w' := by
  by_cases h0 : u % 2 = 1
  · have hb : ((u : Int) % 2 == 1) = true := by rw [beq_iff_eq]; omega
    have h0' := Lib.hid h0
    clear h0
    go_enter Tryz.func112, Tryz.ntmps112
    go_wp2
    go_ret
    exact ⟨ret_int (by rw [show (u : Int) / 2 = ((u / 2 : Nat) : Int) by omega, Lib.i64_not _ (by omega)]; unfold M.zag; rw [if_pos h0'.out]), rfl⟩
  · have hb : ((u : Int) % 2 == 1) = false := by rw [beq_eq_false_iff_ne]; omega
    have h0' := Lib.hid h0
    clear h0
    go_enter Tryz.func112, Tryz.ntmps112
    go_wp2
    go_ret
    exact ⟨ret_int (by unfold M.zag; rw [if_neg h0'.out]; omega), rfl⟩
end Go.Proofs.YtkodmhopollnpaaGreat
