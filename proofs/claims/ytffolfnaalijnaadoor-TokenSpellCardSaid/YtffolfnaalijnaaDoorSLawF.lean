/-
  Layer 7: the law of Spell and Quote.
-/
import Derived.Test.YtffolfnaalijnaaDoorSCodS
import Derived.Test.YtffolfnaalijnaaDoorSRefS
import Derived.Test.YtffolfnaalijnaaDoorSOpn
namespace Go.Proofs.YtffolfnaalijnaaDoor
set_option linter.unusedVariables false
open Go.RowKit

set_option maxRecDepth 100000 in
set_option maxHeartbeats 8000000 in
theorem spellW {W : World} {A : Option Addr} {n c : Nat} {s : ByteArray} (h : ∃ l, TR W 0 W.heap.size A n c l ∧ ∀ t ∈ l, OkTok t) (hs : s.size ≤ maxLen) (G : Gates W) :
    Calls Tryd.prog 5 #[.slice A n c, .string s] W fun e w' => e = .returned (.bool true) ∧ Below W.heap.size W w' := by
  obtain ⟨l, hT, hO⟩ := h
  have hnl : n ≤ 9223372036854775807 := by have h1 := hT.cap; have h2 := hT.most; unfold maxLen at h2; omega
  have hsl := hs
  unfold maxLen at hsl
  have HG := Lib.hid G
  have HT := Lib.hid hT
  have HO := Lib.hid hO
  have HL := Lib.hid hT.len
  clear hT hO hs G
  by_cases hbig : 100 < n ∨ 500 < s.size
  · have hd : decide (100 < (n : Int)) = true ∨ (decide (100 < (n : Int)) = false ∧ decide (500 < (s.size : Int)) = true) := by
      by_cases h : 100 < n
      · exact .inl (by simp; omega)
      · exact .inr ⟨by simp; omega, by simp; omega⟩
    clear hbig
    rcases hd with d1 | ⟨d1, d2⟩
    all_goals (
      go_enter Tryd.func5, Tryd.ntmps5
      go_wp2_with fail
      refine (works_any W HG.out).mono ?_
      rintro e w1 ⟨rfl, hb⟩
      go_wp2_with fail
      go_ret
      exact ⟨rfl, hb⟩)
  · have hn : n ≤ 100 := by omega
    have hsz : s.size ≤ 500 := by omega
    have d1 : decide (100 < (n : Int)) = false := by simp; omega
    have d2 : decide (500 < (s.size : Int)) = false := by simp; omega
    clear hbig
    go_enter Tryd.func5, Tryd.ntmps5
    go_wp2_with fail
    go_loopw [4, 6, 18] (fun x _ i wr => ∃ j : Nat, j ≤ n ∧ i = .int .i64 j ∧ Hid (∀ q, q < j → (l.getD q default).t.length ≤ 200) ∧ Hid (Below W.heap.size W wr)) (fun _ _ i _ => n - (intOf i).toNat)
    case atStart => exact ⟨0, Nat.zero_le _, rfl, Lib.hid (fun q hq => absurd hq (Nat.not_lt_zero _)), Lib.hid (Below.refl _ _)⟩
    case round =>
      obtain ⟨j, hj, rfl, HQ, HB⟩ := hrel
      by_cases hlt : j < n
      · have hTR := HT.out.below HB.out (Nat.le_refl _)
        obtain ⟨b, off, rfl, _, hbh, hc⟩ := hTR.at_ (by omega)
        obtain ⟨c0, c1, c2, c3⟩ := hc j hlt
        have hok := HO.out (l.getD j default) (by
          have hjl : j < l.length := by rw [HL.out]; exact hlt
          rw [show l.getD j default = l[j] by simp [List.getD, hjl]]; exact List.getElem_mem hjl)
        have hz := hok.1
        obtain ⟨t, ht⟩ : ∃ t, t = l.getD j default := ⟨_, rfl⟩
        rw [← ht] at c0 c1 c2 c3 hz
        have HTT := Lib.hid ht
        clear hc hTR ht hok
        obtain ⟨k, p, tx, v⟩ := t
        simp only at c0 c1 c2 c3 hz
        obtain ⟨T, hT⟩ : ∃ T, T = bS tx := ⟨_, rfl⟩
        rw [← hT] at c2
        have zT : T.size ≤ 9223372036854775807 := by rw [hT, bS_size]; unfold maxLen at hz; omega
        have HTX : Hid (T.size = (l.getD j default).t.length) := Lib.hid (by rw [hT, bS_size, ← HTT.out])
        clear hT hz
        have j0 : (0 : Int) ≤ (j : Int) := by omega
        have j1 : (j : Int) < (n : Int) := by omega
        have hji : decide ((j : Int) < (n : Int)) = true := by simp; omega
        have HB1 := Lib.hid (HB.out.alloc HB.out.size (.cells #[.int .i64 k, .int .i64 p, .string T, .int .i64 v] 30))
        obtain ⟨⟨r0, r1, r2, r3⟩, t0, t1, t2, t3⟩ := row4_cells (al1_heap wr (.cells #[.int .i64 k, .int .i64 p, .string T, .int .i64 v] 30))
        by_cases hbg : 200 < T.size
        · have d3 : decide (200 < (T.size : Int)) = true := by simp; omega
          clear hbg
          go_wp2_with fail
          refine (works_any _ (HG.out.below HB1.out)).mono ?_
          rintro e w2 ⟨rfl, hb2⟩
          have HB2 := Lib.hid (HB1.out.trans (hb2.mono HB1.out.size))
          clear hb2
          go_wp2_with fail
          go_ret
          exact ⟨rfl, HB2.out⟩
        · have d3 : decide (200 < (T.size : Int)) = false := by simp; omega
          have HQ1 : Hid (∀ q, q < j + 1 → (l.getD q default).t.length ≤ 200) := Lib.hid fun q hq => by
            rcases Nat.lt_or_ge q j with h1 | h1
            · exact HQ.out q h1
            · obtain rfl : q = j := by omega
              rw [← HTX.out]; omega
          clear hbg
          go_wp2_with fail
          go_roundw
          case rel => exact ⟨j + 1, hlt, by go_num, HQ1, HB1⟩
          case measure => simp [intOf]; omega
      · obtain rfl : j = n := by omega
        have hji : decide ((j : Int) < (j : Int)) = false := by simp
        have HFT : Hid (Z.Fits 100000 l) := Lib.hid fun t ht => by
          obtain ⟨i, hi, rfl⟩ := List.getElem_of_mem ht
          have h1 := HQ.out i (by rw [← HL.out]; exact hi)
          rw [show l.getD i default = l[i] by simp [List.getD, hi]] at h1
          have h2 := HO.out _ ht
          exact ⟨by omega, h2.2.1, h2.2.2⟩
        have HT1 := Lib.hid (HT.out.below HB.out (Nat.le_refl _))
        have hbz := HB.out.size
        obtain ⟨X, hX⟩ : ∃ X, X = bS (Z.spell l) := ⟨_, rfl⟩
        obtain ⟨Y, hY⟩ : ∃ Y, Y = bS (Z.quote s.data.toList) := ⟨_, rfl⟩
        have HX := Lib.hid hX; have HY := Lib.hid hY
        clear hX hY
        go_wp2_with fail
        refine (spell7_any HT1.out hbz HFT.out (by omega) (HG.out.below HB.out)).mono ?_
        rintro e w2 ⟨rfl, hb2⟩
        have HB2 := Lib.hid (HB.out.trans (hb2.mono hbz))
        have HT2 := Lib.hid (HT1.out.below hb2 hbz)
        rw [← HX.out]
        clear hb2
        go_wp2_with fail
        refine (rspell_any HT2.out HB2.out.size HFT.out (by omega)).mono ?_
        rintro e w3 ⟨rfl, hb3⟩
        have HB3 := Lib.hid (HB2.out.trans (hb3.mono HB2.out.size))
        rw [← HX.out]
        clear hb3
        go_wp2_with fail
        refine (quote_any s w3 (by omega)).mono ?_
        rintro e w4 ⟨rfl, hb4⟩
        have HB4 := Lib.hid (HB3.out.trans (hb4.mono HB3.out.size))
        rw [← HY.out]
        clear hb4
        go_wp2_with fail
        refine (rquote7_any s w4 (by omega)).mono ?_
        rintro e w5 ⟨rfl, hb5⟩
        have HB5 := Lib.hid (HB4.out.trans (hb5.mono HB4.out.size))
        rw [← HY.out]
        clear hb5
        go_wp2_with fail
        refine (works_any _ (HG.out.below HB5.out)).mono ?_
        rintro e w6 ⟨rfl, hb6⟩
        have HB6 := Lib.hid (HB5.out.trans (hb6.mono HB5.out.size))
        clear hb6
        go_wp2_with fail
        go_ret
        exact ⟨rfl, HB6.out⟩
end Go.Proofs.YtffolfnaalijnaaDoor
