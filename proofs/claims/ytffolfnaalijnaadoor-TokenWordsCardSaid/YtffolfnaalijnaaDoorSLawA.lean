/-
  Layer 7: the law of keywords.
-/
import Derived.Test.YtffolfnaalijnaaDoorSRefA
namespace Go.Proofs.YtffolfnaalijnaaDoor
set_option linter.unusedVariables false
open Go.RowKit

set_option maxRecDepth 100000 in
set_option maxHeartbeats 2000000 in
theorem wordsW (s : ByteArray) (W : World) (G : Gates W) :
    Calls Tryd.prog 4 #[.string s] W fun e w' => e = .returned (.bool true) ∧ Below W.heap.size W w' := by
  have HG := Lib.hid G
  clear G
  obtain ⟨B, hB⟩ : ∃ B, B = Z.kw s.data.toList := ⟨_, rfl⟩
  have HB := Lib.hid hB
  clear hB
  go_enter Tryd.func4, Tryd.ntmps4
  go_wp2_with fail
  refine (keyword_any s W).mono ?_
  rintro e w1 ⟨rfl, rfl⟩
  rw [← HB.out]
  go_wp2_with fail
  refine (rkeyword_any s _).mono ?_
  rintro e w2 ⟨rfl, hb2⟩
  rw [← HB.out]
  have HB2 := Lib.hid hb2
  have HG2 := Lib.hid (HG.out.below hb2)
  clear hb2
  have e1 : (B == B) = true := by simp
  go_wp2_with fail
  refine (works_any w2 HG2.out).mono ?_
  rintro e w3 ⟨rfl, hb3⟩
  have HB3 := Lib.hid (HB2.out.trans (hb3.mono HB2.out.size))
  clear hb3
  go_wp2_with fail
  go_ret
  exact ⟨rfl, HB3.out⟩
end Go.Proofs.YtffolfnaalijnaaDoor
