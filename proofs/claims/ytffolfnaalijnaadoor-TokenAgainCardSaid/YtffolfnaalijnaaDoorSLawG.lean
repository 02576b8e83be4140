/-
  Layer 7: the law of texts spelled and scanned again.
-/
import Derived.Test.YtffolfnaalijnaaDoorSRefE
import Derived.Test.YtffolfnaalijnaaDoorSLawC
import Derived.Test.YtffolfnaalijnaaDoorSCodS
import Derived.Test.YtffolfnaalijnaaDoorSMatE
namespace Go.Proofs.YtffolfnaalijnaaDoor
set_option linter.unusedVariables false
open Go.RowKit

theorem alike_core {l m : List Z.Tok} (h : l.map Z.core = m.map Z.core) : Alike l m := by
  have hl : l.length = m.length := by have := congrArg List.length h; simpa using this
  refine ⟨hl, fun j hj => ?_⟩
  have hj2 : j < m.length := by omega
  have e1 : l.getD j default = l[j] := by simp [List.getD, hj]
  have e2 : m.getD j default = m[j] := by simp [List.getD, hj2]
  have h3 : (l.map Z.core)[j]? = (m.map Z.core)[j]? := by rw [h]
  simp [hj, hj2] at h3
  rw [e1, e2]
  unfold Z.core at h3
  simp only [Prod.mk.injEq] at h3
  exact h3

set_option maxRecDepth 100000 in
set_option maxHeartbeats 8000000 in
theorem againW (s : ByteArray) (W : World) (hs : s.size ≤ maxLen) (G : Gates W) :
    Calls Tryd.prog 6 #[.string s] W fun e w' => e = .returned (.bool true) ∧ Below W.heap.size W w' := by
  have hs63 := hs
  unfold maxLen at hs63
  have HG := Lib.hid G
  have HS := Lib.hid hs
  clear G hs
  by_cases hbig : 400 < s.size
  · go_enter Tryd.func6, Tryd.ntmps6
    go_wp2_with fail
    refine (works_any W HG.out).mono ?_
    rintro e w1 ⟨rfl, hb⟩
    go_wp2_with fail
    go_ret
    exact ⟨rfl, hb⟩
  have hs4 : s.size ≤ 400 := by omega
  have hbi : decide (400 < (s.size : Int)) = false := by simp; omega
  clear hbig
  obtain ⟨T, O, er, hsc⟩ : ∃ T O er, Z.scan s.data.toList = (T, O, er) := ⟨_, _, _, rfl⟩
  by_cases her : er = 0
  · subst her
    have hag := Z.scan_again hsc (by rw [l7_len]; exact hs4)
    obtain ⟨hfit, hlen, hback⟩ := hag
    have HSC := Lib.hid hsc
    have HF := Lib.hid hfit
    have HLE := Lib.hid hlen
    have HBK := Lib.hid hback
    obtain ⟨S, hS⟩ : ∃ S, S = bS (Z.spell T) := ⟨_, rfl⟩
    have zS : S.size ≤ 9223372036854775807 := by
      have := Z.spell_len hfit
      rw [hS, bS_size]; omega
    have HSS := Lib.hid hS
    clear hsc hfit hlen hback hS
    go_enter Tryd.func6, Tryd.ntmps6
    go_wp2_with fail
    refine (scan_any s W HS.out HG.out).mono ?_
    intro e w1 hse
    obtain ⟨T1, O1, er1, n, A, c, hsc, hn, hnn, rfl, hT, hb1⟩ := scan_parts hse
    rw [HSC.out] at hsc
    simp only [Prod.mk.injEq] at hsc
    obtain ⟨rfl, rfl, rfl⟩ := hsc
    have HB1 := Lib.hid hb1
    have HG1 := Lib.hid (HG.out.below hb1)
    have HT := Lib.hid hT
    have HN := Lib.hid hn
    clear hb1 hse hT hn
    go_wp2_with fail
    refine (spell7_any HT.out (Nat.le_refl _) HF.out (by omega) HG1.out).mono ?_
    rintro e w2 ⟨rfl, hb2⟩
    have HB2 := Lib.hid (HB1.out.trans (hb2.mono HB1.out.size))
    have HG2 := Lib.hid (HG1.out.below hb2)
    have HT2 := Lib.hid (HT.out.below hb2 (Nat.le_refl _))
    have hz12 := hb2.size
    rw [← HSS.out]
    clear hb2 HT HG1 HB1
    by_cases hlong : 16384 < S.size
    · have d1 : decide (16384 < (S.size : Int)) = true := by simp; omega
      clear hlong
      go_wp2_with fail
      refine (works_any _ HG2.out).mono ?_
      rintro e w3 ⟨rfl, hb3⟩
      have HB3 := Lib.hid (HB2.out.trans (hb3.mono HB2.out.size))
      clear hb3
      go_wp2_with fail
      go_ret
      exact ⟨rfl, HB3.out⟩
    · have d1 : decide (16384 < (S.size : Int)) = false := by simp; omega
      have hSd : S.data.toList = Z.spell T := by rw [HSS.out]; rfl
      have hbk := HBK.out (by rw [← hSd, l7_len]; omega)
      rw [← hSd] at hbk
      obtain ⟨hb0, hbc⟩ := hbk
      obtain ⟨M, O2, er2, hsc2⟩ : ∃ M O er, Z.scan S.data.toList = (M, O, er) := ⟨_, _, _, rfl⟩
      rw [hsc2] at hb0 hbc
      have hb0 : er2 = 0 := hb0
      have hbc : M.map Z.core = T.map Z.core := hbc
      subst hb0
      have HSC2 := Lib.hid hsc2
      have HAL := Lib.hid (alike_core hbc.symm)
      have HFM : Hid (Z.Fits 100000 M) := Lib.hid (Z.fits_core hbc HF.out)
      have HSM : Hid (S = bS (Z.spell M)) := Lib.hid (by rw [HSS.out, Z.spell_core hbc])
      have HSZ : Hid (S.size ≤ maxLen) := Lib.hid (by unfold maxLen; exact zS)
      clear hlong hSd hbc hsc2 HBK
      go_wp2_with fail
      refine (scan_any S w2 HSZ.out HG2.out).mono ?_
      intro e w3 hse
      obtain ⟨T3, O3, er3, n3, A3, c3, hsc, hn3, hnn3, rfl, hT3, hb3⟩ := scan_parts hse
      rw [HSC2.out] at hsc
      simp only [Prod.mk.injEq] at hsc
      obtain ⟨rfl, rfl, rfl⟩ := hsc
      have HB3 := Lib.hid (HB2.out.trans (hb3.mono HB2.out.size))
      have HG3 := Lib.hid (HG2.out.below hb3)
      have HT1 := Lib.hid (HT2.out.below hb3 hz12)
      have HT3 := Lib.hid hT3
      clear hb3 hse hT3 hn3 HT2
      go_wp2_with fail
      refine (same_any HT1.out HT3.out (by omega) HAL.out).mono ?_
      rintro e w4 ⟨rfl, m, rfl⟩
      have HG4 : Hid (Gates (w3.drewN m)) := Lib.hid (HG3.out.below (below7_drewN (Below.refl _ _) m))
      have HB4 : Hid (Below W.heap.size W (w3.drewN m)) := Lib.hid (below7_drewN HB3.out m)
      have HT4 := Lib.hid (HT3.out.below (below7_drewN (Below.refl w3.heap.size w3) m) (Nat.le_refl _))
      have hz4 : w3.heap.size ≤ (w3.drewN m).heap.size := Nat.le_refl _
      clear HT3 HG3 HB3 HT1
      go_wp2_with fail
      refine (spell7_any HT4.out hz4 HFM.out (by omega) HG4.out).mono ?_
      rintro e w5 ⟨rfl, hb5⟩
      have HB5 := Lib.hid (HB4.out.trans (hb5.mono HB4.out.size))
      have HG5 := Lib.hid (HG4.out.below hb5)
      rw [← HSM.out]
      clear hb5
      go_wp2_with fail
      refine (works_any _ HG5.out).mono ?_
      rintro e w6 ⟨rfl, hb6⟩
      have HB6 := Lib.hid (HB5.out.trans (hb6.mono HB5.out.size))
      clear hb6
      go_wp2_with fail
      go_ret
      exact ⟨rfl, HB6.out⟩
  · have hen : (er != 0) = true := by rw [bne_iff_ne]; exact her
    have HSC := Lib.hid hsc
    clear hsc her
    go_enter Tryd.func6, Tryd.ntmps6
    go_wp2_with fail
    refine (scan_any s W HS.out HG.out).mono ?_
    intro e w1 hse
    obtain ⟨T1, O1, er1, n, A, c, hsc, hn, hnn, rfl, hT, hb1⟩ := scan_parts hse
    rw [HSC.out] at hsc
    simp only [Prod.mk.injEq] at hsc
    obtain ⟨rfl, rfl, rfl⟩ := hsc
    have HB1 := Lib.hid hb1
    have HG1 := Lib.hid (HG.out.below hb1)
    clear hb1 hse hT hn
    go_wp2_with fail
    refine (rscan_any s w1 HS.out).mono ?_
    intro e w2 hse
    obtain ⟨T2, O2, er2, n2, A2, c2, hsc2, hn2, hnn2, rfl, hT2, hb2⟩ := scan_parts hse
    rw [HSC.out] at hsc2
    simp only [Prod.mk.injEq] at hsc2
    obtain ⟨rfl, rfl, rfl⟩ := hsc2
    have HB2 := Lib.hid (HB1.out.trans (hb2.mono HB1.out.size))
    have HG2 := Lib.hid (HG1.out.below hb2)
    have e2 : (er == er) = true := by simp
    clear hb2 hse hT2 hn2
    go_wp2_with fail
    refine (works_any _ HG2.out).mono ?_
    rintro e w4 ⟨rfl, hb4⟩
    have HB4 := Lib.hid (HB2.out.trans (hb4.mono HB2.out.size))
    clear hb4
    go_wp2_with fail
    go_ret
    exact ⟨rfl, HB4.out⟩
end Go.Proofs.YtffolfnaalijnaaDoor
