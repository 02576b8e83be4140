/-
  Layer 7: the laws' comparison of two lists of tokens; the chapter's examples.
-/
import Derived.Test.YtffolfnaalijnaaDoorSCodL
import Derived.Test.YtffolfnaalijnaaDoorSCodQ
import Derived.Test.YtffolfnaalijnaaDoorSEqt
namespace Go.Proofs.YtffolfnaalijnaaDoor
set_option linter.unusedVariables false
open Go.RowKit

set_option maxRecDepth 100000 in
set_option maxHeartbeats 4000000 in
theorem equal_any {w : World} {lo hi lo' hi' n n' c c' : Nat} {A A' : Option Addr} {l l' : List Z.Tok} (h : TR w lo hi A n c l) (h' : TR w lo' hi' A' n' c' l') (hn1 : n ≤ 1000000) (hn2 : n' ≤ 1000000) :
    Calls Tryd.prog 13 #[.slice A n c, .slice A' n' c'] w fun e w' => e = .returned (.bool (decide (l = l'))) ∧ ∃ m, w' = w.drewN m := by
  have hl := h.len
  have hl' := h'.len
  obtain ⟨B, hB⟩ : ∃ B, B = decide (l = l') := ⟨_, rfl⟩
  rw [← hB]
  have HB := Lib.hid hB
  have HL := Lib.hid hl; have HL' := Lib.hid hl'
  have HH := Lib.hid h; have HH' := Lib.hid h'
  clear h h' hB hl hl'
  by_cases hnn : n = n'
  · subst hnn
    go_enter Tryd.func13, Tryd.ntmps13
    go_wp2_with fail
    go_loopw [5, 13] (fun _ i wr => ∃ (j m : Nat), j ≤ n ∧ i = .int .i64 j ∧ wr = w.drewN m ∧ Hid (∀ q, q < j → l.getD q default = l'.getD q default)) (fun _ i _ => n - (intOf i).toNat)
    case atStart => exact ⟨0, 0, Nat.zero_le _, rfl, rfl, Lib.hid fun q hq => absurd hq (Nat.not_lt_zero _)⟩
    case round =>
      obtain ⟨j, m, hj, rfl, rfl, HE⟩ := hrel
      by_cases hlt : j < n
      · obtain ⟨b, off, rfl, _, _, hc⟩ := HH.out.at_ (by omega)
        obtain ⟨b', off', rfl, _, _, hc'⟩ := HH'.out.at_ (by omega)
        obtain ⟨c0, c1, c2, c3⟩ := hc j hlt
        obtain ⟨d0, d1, d2, d3⟩ := hc' j hlt
        obtain ⟨t, ht⟩ : ∃ t, t = l.getD j default := ⟨_, rfl⟩
        obtain ⟨t', ht'⟩ : ∃ t, t = l'.getD j default := ⟨_, rfl⟩
        rw [← ht] at c0 c1 c2 c3
        rw [← ht'] at d0 d1 d2 d3
        have HT := Lib.hid ht; have HT' := Lib.hid ht'
        have j0 : (0 : Int) ≤ (j : Int) := by omega
        have j1 : (j : Int) < (n : Int) := by omega
        have hji : decide ((j : Int) < (n : Int)) = true := by simp; omega
        have hgd := fun (w : World) (op : BinOp) (x y : Operand) (xs ys : Array Value) => tok_guard op x y xs ys w
        have hnq := fun (w : World) => tok_neq w t.k t.pos t.v t'.k t'.pos t'.v (bS t.t) (bS t'.t)
        obtain ⟨D, hD⟩ : ∃ D, D = decide (t = t') := ⟨_, rfl⟩
        simp only [tok_dec, ← hD] at hnq
        have HD := Lib.hid hD
        clear hc hc' ht ht' hD
        cases D with
        | false =>
          go_wp2_with fail
          go_quiet (fail)
          go_wp2_with fail
          go_ret
          refine ⟨?_, _, World.drewN_drewN _ _ _⟩
          have hne : l ≠ l' := fun e => by
            have := HD.out
            rw [HT.out, HT'.out, e] at this
            simp at this
          rw [HB.out, decide_eq_false hne]; rfl
        | true =>
          go_wp2_with fail
          go_quiet (fail)
          go_wp2_with fail
          go_roundw
          case rel =>
            refine ⟨j + 1, m + nq, hlt, by go_num, rfl, Lib.hid fun q hq => ?_⟩
            rcases Nat.lt_or_ge q j with h1 | h1
            · exact HE.out q h1
            · obtain rfl : q = j := by omega
              have := of_decide_eq_true HD.out.symm
              rw [← HT.out, ← HT'.out]; exact this
          case measure => simp [intOf]; omega
      · have hji : decide ((j : Int) < (n : Int)) = false := by simp; omega
        go_wp2_with fail
        go_ret
        refine ⟨?_, _, rfl⟩
        have heq : l = l' := by
          apply List.ext_getElem
          · rw [HL.out, HL'.out]
          · intro q h1 h2
            have := HE.out q (by have := HL.out; omega)
            simpa [List.getD, h1, h2] using this
        rw [HB.out, decide_eq_true heq]; rfl
  · have hne : ((n : Int) != (n' : Int)) = true := by rw [bne_iff_ne]; omega
    have hbf : B = false := by
      rw [HB.out]
      exact decide_eq_false (fun e => hnn (by rw [← HL.out, ← HL'.out, e]))
    subst hbf
    clear hnn
    go_enter Tryd.func13, Tryd.ntmps13
    go_wp2_with fail
    go_ret
    exact ⟨rfl, 0, rfl⟩

/-! The chapter's examples. -/
def wantEx : List Z.Tok := [⟨2, 0, [108, 101, 116], 0⟩, ⟨1, 4, [120], 0⟩, ⟨5, 6, [61], 0⟩, ⟨3, 8, [], 10⟩, ⟨5, 10, [59], 0⟩, ⟨0, 11, [], 0⟩]
theorem ex_scan1 : Z.scan (⟨#[108, 101, 116, 32, 120, 32, 61, 32, 49, 48, 59]⟩ : ByteArray).data.toList = (wantEx, 0, 0) := by kernel_rfl
theorem ex_scan2 : Z.scan (⟨#[97, 32, 33, 98]⟩ : ByteArray).data.toList = ([], 2, 3) := by kernel_rfl
theorem ex_quote : bS (Z.quote (⟨#[97, 10]⟩ : ByteArray).data.toList) = ⟨#[34, 97, 92, 110, 34]⟩ := by kernel_rfl
theorem want_row (w : World) : TR (w.alloc (.cells #[.int .i64 2, .int .i64 0, .string ⟨#[108, 101, 116]⟩, .int .i64 0, .int .i64 1, .int .i64 4, .string ⟨#[120]⟩, .int .i64 0, .int .i64 5, .int .i64 6, .string ⟨#[61]⟩, .int .i64 0, .int .i64 3, .int .i64 8, .string ⟨#[]⟩, .int .i64 10, .int .i64 5, .int .i64 10, .string ⟨#[59]⟩, .int .i64 0, .int .i64 0, .int .i64 11, .string ⟨#[]⟩, .int .i64 0] 30)) w.heap.size (w.heap.size + 1) (some ⟨w.heap.size, 0, none⟩) 6 6 wantEx :=
  TR.row (l := wantEx) (al1_heap _ _) (Nat.le_refl _) (by decide) (Nat.le_refl _) (by omega) (fun q hq => by show ((rowCells wantEx).toArray)[q]? = _; simp)

set_option maxRecDepth 100000 in
set_option maxHeartbeats 4000000 in
theorem works_any (w : World) (G : Gates w) :
    Calls Tryd.prog 10 #[] w fun e w' => e = .returned (.bool true) ∧ Below w.heap.size w w' := by
  have HG := Lib.hid G
  clear G
  go_enter Tryd.func10, Tryd.ntmps10
  go_wp2_with fail
  refine (scan_any _ w (by decide) HG.out).mono ?_
  rintro e w1 ⟨A, c, rfl, h1, hb1⟩
  rw [ex_scan1] at h1
  rw [ex_scan1]
  have H1 := Lib.hid h1
  have HB1 := Lib.hid hb1
  have HG1 := Lib.hid (HG.out.below hb1)
  clear h1 hb1
  go_wp2_with fail
  refine (scan_any _ w1 (by decide) HG1.out).mono ?_
  rintro e w2 ⟨A2, c2, rfl, _, hb2⟩
  rw [ex_scan2]
  have HB2 := Lib.hid (HB1.out.trans (hb2.mono HB1.out.size))
  have H2 := Lib.hid (H1.out.below hb2 (Nat.le_refl _))
  have hz2 := hb2.size
  clear hb2
  go_wp2_with fail
  have hw := want_row w2
  refine (equal_any (n := wantEx.length) (n' := 6) (H2.out.below ((Below.refl w1.heap.size w2).alloc hz2 _) (Nat.le_refl _)) hw (by decide) (by decide)).mono ?_
  rintro e w3 ⟨rfl, m, rfl⟩
  have HB3 := Lib.hid (below7_drewN (HB2.out.alloc HB2.out.size (.cells #[.int .i64 2, .int .i64 0, .string ⟨#[108, 101, 116]⟩, .int .i64 0, .int .i64 1, .int .i64 4, .string ⟨#[120]⟩, .int .i64 0, .int .i64 5, .int .i64 6, .string ⟨#[61]⟩, .int .i64 0, .int .i64 3, .int .i64 8, .string ⟨#[]⟩, .int .i64 10, .int .i64 5, .int .i64 10, .string ⟨#[59]⟩, .int .i64 0, .int .i64 0, .int .i64 11, .string ⟨#[]⟩, .int .i64 0] 30)) m)
  generalize (w2.alloc (.cells #[.int .i64 2, .int .i64 0, .string ⟨#[108, 101, 116]⟩, .int .i64 0, .int .i64 1, .int .i64 4, .string ⟨#[120]⟩, .int .i64 0, .int .i64 5, .int .i64 6, .string ⟨#[61]⟩, .int .i64 0, .int .i64 3, .int .i64 8, .string ⟨#[]⟩, .int .i64 10, .int .i64 5, .int .i64 10, .string ⟨#[59]⟩, .int .i64 0, .int .i64 0, .int .i64 11, .string ⟨#[]⟩, .int .i64 0] 30)).drewN m = w3 at *
  rw [decide_eq_true (rfl : wantEx = wantEx)]
  clear hw H2 hz2
  go_wp2_with fail
  refine (quote_any _ w3 (by decide)).mono ?_
  rintro e w4 ⟨rfl, hb4⟩
  rw [ex_quote]
  have HB4 := Lib.hid (HB3.out.trans (hb4.mono HB3.out.size))
  clear hb4
  go_wp2_with fail
  go_ret
  exact ⟨rfl, HB4.out⟩
end Go.Proofs.YtffolfnaalijnaaDoor
