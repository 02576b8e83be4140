/-
  Layer 7: the law of literals; lists of tokens that differ in offsets alone.
-/
import Derived.Test.YtffolfnaalijnaaDoorSCodM
import Derived.Test.YtffolfnaalijnaaDoorSMatC
namespace Go.Proofs.YtffolfnaalijnaaDoor
set_option linter.unusedVariables false
open Go.RowKit

/-- Equal apart from At. -/
def Alike (l l' : List Z.Tok) : Prop := l.length = l'.length ∧ ∀ j, j < l.length → (l.getD j default).k = (l'.getD j default).k ∧ (l.getD j default).t = (l'.getD j default).t ∧ (l.getD j default).v = (l'.getD j default).v

set_option maxRecDepth 100000 in
set_option maxHeartbeats 4000000 in
theorem same_any {w : World} {lo hi lo' hi' n n' c c' : Nat} {A A' : Option Addr} {l l' : List Z.Tok} (h : TR w lo hi A n c l) (h' : TR w lo' hi' A' n' c' l') (hn1 : n ≤ 1000000) (ha : Alike l l') :
    Calls Tryd.prog 20 #[.slice A n c, .slice A' n' c'] w fun e w' => e = .returned (.bool true) ∧ ∃ m, w' = w.drewN m := by
  have hl := h.len
  have hl' := h'.len
  obtain rfl : n = n' := by rw [← hl, ← hl', ha.1]
  have HL := Lib.hid hl
  have HH := Lib.hid h; have HH' := Lib.hid h'; have HA := Lib.hid ha
  clear h h' hl hl' ha
  go_enter Tryd.func20, Tryd.ntmps20
  go_wp2_with fail
  go_loopw [5, 13] (fun _ i wr => ∃ (j m : Nat), j ≤ n ∧ i = .int .i64 j ∧ wr = w.drewN m) (fun _ i _ => n - (intOf i).toNat)
  case atStart => exact ⟨0, 0, Nat.zero_le _, rfl, rfl⟩
  case round =>
    obtain ⟨j, m, hj, rfl, rfl⟩ := hrel
    by_cases hlt : j < n
    · obtain ⟨b, off, rfl, _, _, hc⟩ := HH.out.at_ (by omega)
      obtain ⟨b', off', rfl, _, _, hc'⟩ := HH'.out.at_ (by omega)
      obtain ⟨c0, c1, c2, c3⟩ := hc j hlt
      obtain ⟨d0, d1, d2, d3⟩ := hc' j hlt
      obtain ⟨q1, q2, q3⟩ := HA.out.2 j (by rw [HL.out]; exact hlt)
      rw [← q1] at d0
      rw [← q2] at d2
      rw [← q3] at d3
      obtain ⟨k, hk⟩ : ∃ k, k = (l.getD j default).k := ⟨_, rfl⟩
      obtain ⟨v, hv⟩ : ∃ v, v = (l.getD j default).v := ⟨_, rfl⟩
      obtain ⟨T, hT⟩ : ∃ T, T = bS (l.getD j default).t := ⟨_, rfl⟩
      rw [← hk] at c0 d0
      rw [← hv] at c3 d3
      rw [← hT] at c2 d2
      have j0 : (0 : Int) ≤ (j : Int) := by omega
      have j1 : (j : Int) < (n : Int) := by omega
      have hji : decide ((j : Int) < (n : Int)) = true := by simp; omega
      have e1 : (k != k) = false := by simp
      have e2 : (T.toList != T.toList) = false := by simp
      have e3 : (v != v) = false := by simp
      clear hc hc' q1 q2 q3 hk hv hT c1 d1
      go_wp2_with fail
      go_quiet (fail)
      go_wp2_with fail
      go_roundw
      case rel => exact ⟨j + 1, m + nq, hlt, by go_num, rfl⟩
      case measure => simp [intOf]; omega
    · have hji : decide ((j : Int) < (n : Int)) = false := by simp; omega
      go_wp2_with fail
      go_ret
      exact ⟨rfl, _, rfl⟩

set_option maxRecDepth 100000 in
set_option maxHeartbeats 4000000 in
theorem literalW (s : ByteArray) (W : World) (hs : s.size ≤ maxLen) (G : Gates W) :
    Calls Tryd.prog 7 #[.string s] W fun e w' => e = .returned (.bool true) ∧ Below W.heap.size W w' := by
  unfold maxLen at hs
  have HG := Lib.hid G
  clear G
  by_cases hbig : 500 < s.size
  · go_enter Tryd.func7, Tryd.ntmps7
    go_wp2_with fail
    refine (works_any W HG.out).mono ?_
    rintro e w1 ⟨rfl, hb⟩
    go_wp2_with fail
    go_ret
    exact ⟨rfl, hb⟩
  · have hs5 : s.size ≤ 500 := by omega
    have hbi : decide (500 < (s.size : Int)) = false := by simp; omega
    clear hbig hs
    obtain ⟨q, hq⟩ : ∃ q, q = bS (Z.quote s.data.toList) := ⟨_, rfl⟩
    have hql : q.data.toList = Z.quote s.data.toList := by rw [hq]; rfl
    have hqs : q.size = (Z.quote s.data.toList).length := by rw [hq, bS_size]
    have hsc := Z.scan_quote s.data.toList (by rw [l7_len]; omega)
    rw [← hql] at hsc
    have hqz : q.size ≤ 10000 := by
      have h1 := Z.quote_ge s.data.toList
      have h2 := Z.escs_len s.data.toList
      rw [l7_len] at h2
      omega
    have HQ := Lib.hid hq
    have HSC : Hid (Z.scan q.data.toList = ([⟨4, 0, s.data.toList, 0⟩, ⟨0, (q.size : Int), [], 0⟩], 0, 0)) := Lib.hid (by rw [hsc, hql, hqs])
    clear hq hql hqs hsc
    go_enter Tryd.func7, Tryd.ntmps7
    go_wp2_with fail
    refine (quote_any s W (by omega)).mono ?_
    rintro e w1 ⟨rfl, hb1⟩
    rw [← HQ.out]
    have HB1 := Lib.hid hb1
    have HG1 := Lib.hid (HG.out.below hb1)
    clear hb1
    go_wp2_with fail
    refine (scan_any q w1 (by unfold maxLen; omega) HG1.out).mono ?_
    rintro e w2 ⟨A, c, rfl, hT, hb2⟩
    rw [HSC.out] at hT ⊢
    have HB2 := Lib.hid (HB1.out.trans (hb2.mono HB1.out.size))
    have HG2 := Lib.hid (HG1.out.below hb2)
    obtain ⟨b, off, rfl, _, _, hc⟩ := hT.at_ (show 0 < 2 by decide)
    obtain ⟨c0, c1, c2, c3⟩ := hc 0 (show 0 < 2 by decide)
    obtain ⟨d0, d1, d2, d3⟩ := hc 1 (show 1 < 2 by decide)
    replace c0 : w2.cell? ⟨b, off, none⟩ = some (.int .i64 4) := c0
    replace c1 : w2.cell? ⟨b, off + 1, none⟩ = some (.int .i64 0) := c1
    replace c2 : w2.cell? ⟨b, off + 2, none⟩ = some (.string s) := c2
    replace c3 : w2.cell? ⟨b, off + 3, none⟩ = some (.int .i64 0) := c3
    replace d0 : w2.cell? ⟨b, off + 4, none⟩ = some (.int .i64 0) := d0
    replace d1 : w2.cell? ⟨b, off + 5, none⟩ = some (.int .i64 (q.size : Int)) := d1
    replace d2 : w2.cell? ⟨b, off + 6, none⟩ = some (.string ⟨#[]⟩) := d2
    replace d3 : w2.cell? ⟨b, off + 7, none⟩ = some (.int .i64 0) := d3
    have hgd := fun (w : World) (op : BinOp) (x y : Operand) (xs ys : Array Value) => tok_guard op x y xs ys w
    have he1 := fun (w : World) => tok_eql w 4 0 0 4 0 0 s s
    have he2 := fun (w : World) => tok_eql w 0 (q.size : Int) 0 0 (q.size : Int) 0 ⟨#[]⟩ ⟨#[]⟩
    simp only [beq_self_eq_true, Bool.and_self] at he1 he2
    clear hb2 hT hc
    go_wp2_with fail
    refine (works_any w2 HG2.out).mono ?_
    rintro e w3 ⟨rfl, hb3⟩
    have HB3 := Lib.hid (HB2.out.trans (hb3.mono HB2.out.size))
    clear hb3
    go_wp2_with fail
    go_ret
    exact ⟨rfl, HB3.out⟩
end Go.Proofs.YtffolfnaalijnaaDoor
