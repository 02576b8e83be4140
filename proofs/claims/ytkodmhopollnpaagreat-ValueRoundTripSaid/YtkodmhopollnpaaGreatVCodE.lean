/-
  Layer 2: the code's Same.
-/
import Derived.Test.YtkodmhopollnpaaGreatVCodD
import Derived.Test.YtkodmhopollnpaaGreatVRefD
import Derived.Test.YtkodmhopollnpaaGreatVMem2
namespace Go.Proofs.YtkodmhopollnpaaGreat
set_option linter.unusedVariables false
open Go.RowKit
open M (V)

set_option maxRecDepth 100000 in
set_option maxHeartbeats 1000000 in
theorem keysEqual_any {A A' : Option Addr} {n c n' c' lo hi lo' hi' : Nat} {l l' : List ByteArray} {w : World} (h : KS w lo hi A n c l) (h' : KS w lo' hi' A' n' c' l') (hhi : hi ≤ w.heap.size) (hhi' : hi' ≤ w.heap.size) (r : Bool) (hr : r = true ↔ l = l') :
    Calls Tryz.prog 45 #[.slice A n c, .slice A' n' c'] w fun e w' => e = .returned (.bool r) ∧ Below w.heap.size w w' := by
  have hcap := h.cap
  have hmost := h.most
  have hcap' := h'.cap
  have hmost' := h'.most
  have HL := Lib.hid h.len
  have HL' := Lib.hid h'.len
  have HK := Lib.hid h
  have HK' := Lib.hid h'
  have HR := Lib.hid hr
  clear h h' hr
  by_cases hn : n = n'
  case neg =>
    have hb : ((n : Int) != (n' : Int)) = true := by rw [bne_iff_ne]; omega
    have hr : r = false := by
      cases r with
      | false => rfl
      | true => exact absurd (by rw [← HL.out, ← HL'.out, HR.out.1 rfl]) hn
    subst hr
    clear hn
    go_enter Tryz.func45, Tryz.ntmps45
    go_wp2_with fail
    go_ret
    exact ⟨rfl, Below.refl _ _⟩
  subst hn
  go_enter Tryz.func45, Tryz.ntmps45
  go_wp2_with fail
  go_loopw [13] (fun y wr => ∃ (j : Nat), y = .int .i64 j ∧ j ≤ n ∧ Hid (∀ q, q < j → l.getD q ByteArray.empty = l'.getD q ByteArray.empty) ∧ Below w.heap.size w wr) (fun y _ => n - (intOf y).toNat)
  case atStart => exact ⟨0, rfl, by omega, Lib.hid (fun q h => absurd h (by omega)), Below.refl _ _⟩
  case round =>
    obtain ⟨j, rfl, hj, HN, hb⟩ := hrel
    by_cases hlt : j < n
    · obtain ⟨b, off, rfl, c0⟩ := HK.out.item hb hhi hlt
      obtain ⟨b', off', rfl, c0'⟩ := HK'.out.item hb hhi' hlt
      generalize hx : l.getD j ByteArray.empty = x at *
      generalize hy : l'.getD j ByteArray.empty = y at *
      have HX := Lib.hid hx; have HY := Lib.hid hy
      clear hx hy
      by_cases hq : x = y
      · subst hq
        go_wp2_with fail
        go_quiet (fail)
        go_wp2_with fail
        refine ⟨⟨j + 1, by go_num, by omega, Lib.hid (fun q h => ?_), below_drewN hb _⟩, by simp [intOf]; omega⟩
        rcases Nat.lt_or_ge q j with h' | h'
        · exact HN.out q h'
        · obtain rfl : q = j := by omega
          rw [HX.out, HY.out]
      · have hs2 : x.toList ≠ y.toList := fun h => hq (M.toList_inj h)
        have hb2 : (x.toList == y.toList) = false := by rw [beq_eq_false_iff_ne]; exact hs2
        have hr : r = false := by
          cases r with
          | false => rfl
          | true => exact absurd (by rw [← HX.out, ← HY.out, HR.out.1 rfl]) hq
        clear hq hs2
        subst hr
        go_wp2_with fail
        go_quiet (fail)
        go_wp2_with fail
        go_ret
        exact ⟨rfl, below_drewN hb _⟩
    · have hr : r = true := HR.out.2 (by
        refine List.ext_getElem (by rw [HL.out, HL'.out]) fun i h1 h2 => ?_
        have := HN.out i (by rw [HL.out] at h1; omega)
        simpa [List.getD, List.getElem?_eq_getElem h1, List.getElem?_eq_getElem h2] using this)
      subst hr
      go_wp2_with fail
      go_ret
      exact ⟨rfl, hb⟩

def sameAt (d : Nat) : Prop := ∀ (v v' : Value) (t t' : V) (lo hi lo' hi' d' : Nat) (w : World), VB w lo hi d v t → VB w lo' hi' d' v' t' → hi ≤ w.heap.size → hi' ≤ w.heap.size →
  Calls Tryz.prog 23 #[v, v'] w fun e w' => e = .returned (.bool (V.same t t')) ∧ Below w.heap.size w w'

set_option maxRecDepth 100000 in
set_option maxHeartbeats 2000000 in
theorem itemsEqual_any {d d' : Nat} (ih : sameAt d) {A A' : Option Addr} {n c n' c' lo hi lo' hi' : Nat} {l l' : List V} {w : World} (h : IS w lo hi (VB w lo hi d) A n c l) (h' : IS w lo' hi' (VB w lo' hi' d') A' n' c' l') (hhi : hi ≤ w.heap.size) (hhi' : hi' ≤ w.heap.size) (r : Bool) (hr : r = true ↔ l = l') :
    Calls Tryz.prog 46 #[.slice A n c, .slice A' n' c', .func (.func 23) #[] #[]] w fun e w' => e = .returned (.bool r) ∧ Below w.heap.size w w' := by
  have hcap := h.cap
  have hmost := h.most
  have hcap' := h'.cap
  have hmost' := h'.most
  have HL := Lib.hid h.len
  have HL' := Lib.hid h'.len
  have HI := Lib.hid h
  have HI' := Lib.hid h'
  have HR := Lib.hid hr
  have IH := Lib.hid ih
  clear h h' hr ih
  by_cases hn : n = n'
  case neg =>
    have hb : ((n : Int) != (n' : Int)) = true := by rw [bne_iff_ne]; omega
    have hr : r = false := by
      cases r with
      | false => rfl
      | true => exact absurd (by rw [← HL.out, ← HL'.out, HR.out.1 rfl]) hn
    subst hr
    clear hn
    go_enter Tryz.func46, Tryz.ntmps46
    go_wp2_with fail
    go_ret
    exact ⟨rfl, Below.refl _ _⟩
  subst hn
  go_enter Tryz.func46, Tryz.ntmps46
  go_wp2_with fail
  go_loopw [17] (fun y wr => ∃ (j : Nat), y = .int .i64 j ∧ j ≤ n ∧ Hid (∀ q, q < j → l.getD q default = l'.getD q default) ∧ Below w.heap.size w wr) (fun y _ => n - (intOf y).toNat)
  case atStart => exact ⟨0, rfl, by omega, Lib.hid (fun q h => absurd h (by omega)), Below.refl _ _⟩
  case round =>
    obtain ⟨j, rfl, hj, HN, hb⟩ := hrel
    by_cases hlt : j < n
    · obtain ⟨b, off, kk, ii, ss, x, y, rfl, c0, c1, c2, c3, c4, hv⟩ := HI.out.item hb hhi hlt
      obtain ⟨b', off', kk', ii', ss', x', y', rfl, c0', c1', c2', c3', c4', hv'⟩ := HI'.out.item hb hhi' hlt
      have hbs := hb.size
      obtain ⟨A1, n1', cc1, B1, m1', e1', rfl, rfl⟩ := hv.cells
      obtain ⟨A2, n2', cc2, B2, m2', e2', rfl, rfl⟩ := hv'.cells
      have hlt1 := World.block_lt_of_cell? wr _ c0
      have hlt2 := World.block_lt_of_cell? wr _ c0'
      simp only at hlt1 hlt2
      have hb2 := (hb.alloc hbs (.cells #[.int .i64 kk, .int .i64 ii, .string ss, .slice A1 n1' cc1, .slice B1 m1' e1'] 31)).alloc (by simp; omega) (.cells #[.int .i64 kk', .int .i64 ii', .string ss', .slice A2 n2' cc2, .slice B2 m2' e2'] 31)
      generalize hq : l.getD j default = q at *
      generalize hr : l'.getD j default = r' at *
      have HQ := Lib.hid hq; have HR' := Lib.hid hr
      clear hq hr
      go_wp2_with fail
      refine (IH.out _ _ _ _ _ _ _ _ _ _ (hv.alloc2 (by omega) _ _) (hv'.alloc2 (by omega) _ _) (by simp; omega) (by simp; omega)).mono ?_
      rintro e w1 ⟨rfl, hb3⟩
      have hb4 := below_step hb2 hb3
      clear hb2 hb3 c0 c1 c2 c3 c4 c0' c1' c2' c3' c4' hv hv'
      by_cases hqr : q = r'
      · have HE := Lib.hid (V.same_yes hqr)
        have HQR := Lib.hid hqr
        clear hqr
        rw [HE.out]
        go_wp2_with fail
        refine ⟨⟨j + 1, by go_num, by omega, Lib.hid (fun a h => ?_), hb4⟩, by simp [intOf]; omega⟩
        rcases Nat.lt_or_ge a j with h' | h'
        · exact HN.out a h'
        · obtain rfl : a = j := by omega
          rw [HQ.out, HR'.out, HQR.out]
      · have HE := Lib.hid (V.same_no hqr)
        have hr : r = false := by
          cases r with
          | false => rfl
          | true => exact absurd (by rw [← HQ.out, ← HR'.out, HR.out.1 rfl]) hqr
        clear hqr
        subst hr
        rw [HE.out]
        go_wp2_with fail
        go_ret
        exact ⟨rfl, hb4⟩
    · have hr : r = true := HR.out.2 (by
        refine List.ext_getElem (by rw [HL.out, HL'.out]) fun i h1 h2 => ?_
        have := HN.out i (by rw [HL.out] at h1; omega)
        simpa [List.getD, List.getElem?_eq_getElem h1, List.getElem?_eq_getElem h2] using this)
      subst hr
      go_wp2_with fail
      go_ret
      exact ⟨rfl, hb⟩

set_option maxRecDepth 100000 in
set_option maxHeartbeats 2000000 in
theorem same_step (d : Nat) (ih : sameAt d) : sameAt (d + 1) := by
  intro v v' t t' lo hi lo' hi' d' w h h' hhi hhi'
  match d', h' with
  | 0, h' => exact h'.elim
  | d' + 1, h' =>
  obtain ⟨k, n, s, its, ks⟩ := t
  obtain ⟨k', n', s', its', ks'⟩ := t'
  obtain ⟨A, m, c, B, p, e, rfl, k1, k2, n1, n2, s1, hI, hK⟩ := h
  obtain ⟨A', m', c', B', p', e', rfl, k1', k2', n1', n2', s1', hI', hK'⟩ := h'
  simp only [V.k, V.n, V.s, V.its, V.ks] at *
  have IH := Lib.hid ih
  have done : ∀ {o o' : Obj}, Below w.heap.size w ((w.alloc o).alloc o') := fun {o o'} => ((Below.refl _ _).alloc (Nat.le_refl _) _).alloc (by simp) _
  have HI := Lib.hid hI; have HK := Lib.hid hK; have HI' := Lib.hid hI'; have HK' := Lib.hid hK'
  clear ih hI hK hI' hK'
  by_cases hk : k = k'
  case neg =>
    have hb : (k == k') = false := by rw [beq_eq_false_iff_ne]; exact hk
    have HN := Lib.hid hk
    clear hk
    go_enter Tryz.func23, Tryz.ntmps23
    go_wp2_with fail
    go_ret
    exact ⟨ret_bool (V.same_no fun h => HN.out (by injection h)).symm, done⟩
  subst hk
  by_cases hn : n = n'
  case neg =>
    have hb : (n == n') = false := by rw [beq_eq_false_iff_ne]; exact hn
    have HN := Lib.hid hn
    clear hn
    go_enter Tryz.func23, Tryz.ntmps23
    go_wp2_with fail
    go_ret
    exact ⟨ret_bool (V.same_no fun h => HN.out (by injection h)).symm, done⟩
  subst hn
  by_cases hs : s = s'
  case neg =>
    have hs2 : s.toList ≠ s'.toList := fun h => hs (M.toList_inj h)
    have hb : (s.toList == s'.toList) = false := by rw [beq_eq_false_iff_ne]; exact hs2
    have HN := Lib.hid hs
    clear hs hs2
    go_enter Tryz.func23, Tryz.ntmps23
    go_wp2_with fail
    go_ret
    exact ⟨ret_bool (V.same_no fun h => HN.out (by injection h)).symm, done⟩
  subst hs
  by_cases hks : ks = ks'
  case neg =>
    have HN := Lib.hid hks
    clear hks
    go_enter Tryz.func23, Tryz.ntmps23
    go_wp2_with fail
    refine (keysEqual_any (HK.out.later (pair_below _ _ _) hhi) (HK'.out.later (pair_below _ _ _) hhi') (by simp; omega) (by simp; omega) false (by simp; exact HN.out)).mono ?_
    rintro e w1 ⟨rfl, hb1⟩
    go_wp2_with fail
    go_ret
    exact ⟨ret_bool (V.same_no fun h => HN.out (by injection h)).symm, below_step done hb1⟩
  subst hks
  go_enter Tryz.func23, Tryz.ntmps23
  go_wp2_with fail
  refine (keysEqual_any (HK.out.later (pair_below _ _ _) hhi) (HK'.out.later (pair_below _ _ _) hhi') (by simp; omega) (by simp; omega) true (by simp)).mono ?_
  rintro e w1 ⟨rfl, hb1⟩
  have hb2 : Below (w.heap.size + 2) ((w.alloc (.cells #[.int .i64 k, .int .i64 n, .string s, .slice A m c, .slice B p e] 31)).alloc (.cells #[.int .i64 k, .int .i64 n, .string s, .slice A' m' c', .slice B' p' e'] 31)) w1 := two_step (Below.refl _ _) hb1
  obtain ⟨⟨b0, b1, b2, b3, b4⟩, g0, g1, g2, g3, g4⟩ := two5 hb2
  have hz := two_size hb2
  go_wp2_with fail
  refine (itemsEqual_any IH.out (HI.out.later (two_below hb2) hhi) (HI'.out.later (two_below hb2) hhi') (by omega) (by omega) (V.same (.mk k n s its ks) (.mk k n s its' ks)) (by rw [V.same_iff]; simp)).mono ?_
  rintro e w2 ⟨rfl, hb3⟩
  go_wp2_with fail
  go_ret
  exact ⟨rfl, two_below (two_step hb2 hb3)⟩

theorem same_at : ∀ d, sameAt d
  | 0 => fun _ _ _ _ _ _ _ _ _ _ h _ _ _ => h.elim
  | d + 1 => same_step d (same_at d)
theorem sameX {v v' : Value} {t t' : V} {lo hi lo' hi' : Nat} {w : World} (h : VX w lo hi v t) (h' : VX w lo' hi' v' t') (hhi : hi ≤ w.heap.size) (hhi' : hi' ≤ w.heap.size) :
    Calls Tryz.prog 23 #[v, v'] w fun e w' => e = .returned (.bool (V.same t t')) ∧ Below w.heap.size w w' := by
  obtain ⟨d, h⟩ := h
  obtain ⟨d', h'⟩ := h'
  exact same_at d v v' t t' lo hi lo' hi' d' w h h' hhi hhi'
end Go.Proofs.YtkodmhopollnpaaGreat
