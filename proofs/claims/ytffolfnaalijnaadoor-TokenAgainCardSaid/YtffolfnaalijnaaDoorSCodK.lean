/-
  Layer 7: keywords, the code's.
-/
import Derived.Test.YtffolfnaalijnaaDoorSCodA
namespace Go.Proofs.YtffolfnaalijnaaDoor
set_option linter.unusedVariables false
open Go.RowKit

set_option maxRecDepth 100000 in
set_option maxHeartbeats 4000000 in
theorem keyword_any (s : ByteArray) (w : World) :
    Calls Tryd.prog 14 #[.string s] w fun e w' => e = .returned (.bool (Z.kw s.data.toList)) ∧ w' = w := by
  obtain ⟨B, hB⟩ : ∃ B, B = Z.kw s.data.toList := ⟨_, rfl⟩
  rw [← hB]
  have HB := Lib.hid hB
  clear hB
  go_enter Tryd.func14, Tryd.ntmps14
  go_wp2
  all_goals first | (exfalso; simp_all; done) | skip
  all_goals go_ret
  all_goals refine ⟨?_, rfl⟩
  all_goals (rw [HB.out, ← ByteArray.toList_eq]; simp only [Z.kw, Z.keywords, List.contains, List.elem, *]; rfl)
end Go.Proofs.YtffolfnaalijnaaDoor
