/-
  Layer 7: the law of Scan.
-/
import Derived.Test.YtffolfnaalijnaaDoorSRefE
import Derived.Test.YtffolfnaalijnaaDoorSLawC
namespace Go.Proofs.YtffolfnaalijnaaDoor
set_option linter.unusedVariables false
open Go.RowKit

set_option maxRecDepth 100000 in
set_option maxHeartbeats 4000000 in
theorem scanW (s : ByteArray) (W : World) (hs : s.size ≤ maxLen) (G : Gates W) :
    Calls Tryd.prog 3 #[.string s] W fun e w' => e = .returned (.bool true) ∧ Below W.heap.size W w' := by
  have hs63 := hs
  unfold maxLen at hs63
  have HG := Lib.hid G
  clear G
  by_cases hmid : 5000 < s.size ∧ s.size ≤ 16384
  · obtain ⟨m1, m2⟩ := hmid
    have d1 : decide (5000 < (s.size : Int)) = true := by simp; omega
    have d2 : decide ((s.size : Int) ≤ 16384) = true := by simp; omega
    go_enter Tryd.func3, Tryd.ntmps3
    go_wp2_with fail
    refine (works_any W HG.out).mono ?_
    rintro e w1 ⟨rfl, hb⟩
    go_wp2_with fail
    go_ret
    exact ⟨rfl, hb⟩
  · have hd : decide (5000 < (s.size : Int)) = false ∨ (decide (5000 < (s.size : Int)) = true ∧ decide ((s.size : Int) ≤ 16384) = false) := by
      by_cases h : 5000 < s.size
      · exact .inr ⟨by simp; omega, by simp; omega⟩
      · exact .inl (by simp; omega)
    have HS := Lib.hid hs
    clear hmid hs
    rcases hd with d1 | ⟨d1, d2⟩
    all_goals (
      go_enter Tryd.func3, Tryd.ntmps3
      go_wp2_with fail
      refine (scan_any s W HS.out HG.out).mono ?_
      intro e w1 hse
      obtain ⟨T, O, er, n, A, c, hsc, hn, hnn, rfl, hT, hb1⟩ := scan_parts hse
      have HB1 := Lib.hid hb1
      have HG1 := Lib.hid (HG.out.below hb1)
      have HT := Lib.hid hT
      have HN := Lib.hid hn
      have HSC := Lib.hid hsc
      clear hb1 hse hT hn hsc
      go_wp2_with fail
      refine (rscan_any s w1 HS.out).mono ?_
      intro e w2 hse
      obtain ⟨T2, O2, er2, n2, A2, c2, hsc2, hn2, hnn2, rfl, hT2, hb2⟩ := scan_parts hse
      rw [HSC.out] at hsc2
      simp only [Prod.mk.injEq] at hsc2
      obtain ⟨rfl, rfl, rfl⟩ := hsc2
      obtain rfl : n = n2 := by rw [hn2, HN.out]
      have HT1 := Lib.hid (HT.out.below hb2 (Nat.le_refl _))
      have HT2 := Lib.hid hT2
      have HB2 := Lib.hid (HB1.out.trans (hb2.mono HB1.out.size))
      have HG2 := Lib.hid (HG1.out.below hb2)
      have e1 : ((O : Int) == (O : Int)) = true := by simp
      have e2 : (er == er) = true := by simp
      clear hb2 hse hT2 hn2 HT
      go_wp2_with fail
      refine (equal_any HT1.out HT2.out (by omega) (by omega)).mono ?_
      rintro e w3 ⟨rfl, m, rfl⟩
      rw [decide_eq_true (rfl : T = T)]
      have HG3 : Hid (Gates (w2.drewN m)) := Lib.hid (HG2.out.below (below7_drewN (Below.refl _ _) m))
      have HB3 : Hid (Below W.heap.size W (w2.drewN m)) := Lib.hid (below7_drewN HB2.out m)
      go_wp2_with fail
      refine (works_any _ HG3.out).mono ?_
      rintro e w4 ⟨rfl, hb4⟩
      have HB4 := Lib.hid (HB3.out.trans (hb4.mono HB3.out.size))
      clear hb4
      go_wp2_with fail
      go_ret
      exact ⟨rfl, HB4.out⟩)
end Go.Proofs.YtffolfnaalijnaaDoor
