/-
  Layer 2: the reference Same.
-/
import Derived.Test.YtdkggnciamfcmaaGreatDoorVRefC
import Derived.StillTailTactics
namespace Go.Proofs.YtdkggnciamfcmaaGreatDoor
set_option linter.unusedVariables false
open Go.RowKit
open M (V)

def rSameAt (d : Nat) : Prop := ∀ (v v' : Value) (t t' : V) (lo hi lo' hi' d' : Nat) (w : World), VB w lo hi d v t → VB w lo' hi' d' v' t' → hi ≤ w.heap.size → hi' ≤ w.heap.size →
  Calls Tryz.prog 17 #[v, v'] w fun e w' => e = .returned (.bool (V.same t t')) ∧ Below w.heap.size w w'

set_option maxRecDepth 100000 in
set_option maxHeartbeats 2000000 in
theorem rSame_step (d : Nat) (ih : rSameAt d) : rSameAt (d + 1) := by
  intro v v' t t' lo hi lo' hi' d' w h h' hhi hhi'
  match d', h' with
  | 0, h' => exact h'.elim
  | d' + 1, h' =>
  obtain ⟨k, n, s, its, ks⟩ := t
  obtain ⟨k', n', s', its', ks'⟩ := t'
  obtain ⟨A, m, c, B, p, e, rfl, k1, k2, n1, n2, s1, hI, hK⟩ := h
  obtain ⟨A', m', c', B', p', e', rfl, k1', k2', n1', n2', s1', hI', hK'⟩ := h'
  simp only [V.k, V.n, V.s, V.its, V.ks] at *
  have hcap := hI.cap
  have hmost := hI.most
  have hcap2 := hK.cap
  have hmost2 := hK.most
  have hcap' := hI'.cap
  have hmost' := hI'.most
  have hcap2' := hK'.cap
  have hmost2' := hK'.most
  have HL := Lib.hid hI.len
  have HL2 := Lib.hid hK.len
  have HL' := Lib.hid hI'.len
  have HL2' := Lib.hid hK'.len
  have HI := Lib.hid hI
  have HK := Lib.hid hK
  have HI' := Lib.hid hI'
  have HK' := Lib.hid hK'
  have IH := Lib.hid ih
  clear ih hI hK hI' hK'
  have done : ∀ {o o' : Obj}, Below w.heap.size w ((w.alloc o).alloc o') := fun {o o'} => ((Below.refl _ _).alloc (Nat.le_refl _) _).alloc (by simp) _
  by_cases hk : k = k'
  case neg =>
    have hb : (k != k') = true := by rw [bne_iff_ne]; exact hk
    have HN := Lib.hid hk
    clear hk
    go_enter Tryz.func17, Tryz.ntmps17
    go_wp2_with fail
    go_ret
    exact ⟨ret_bool (V.same_no fun h => HN.out (by injection h)).symm, done⟩
  subst hk
  by_cases hn : n = n'
  case neg =>
    have hb : (n != n') = true := by rw [bne_iff_ne]; exact hn
    have HN := Lib.hid hn
    clear hn
    go_enter Tryz.func17, Tryz.ntmps17
    go_wp2_with fail
    go_ret
    exact ⟨ret_bool (V.same_no fun h => HN.out (by injection h)).symm, done⟩
  subst hn
  by_cases hs : s = s'
  case neg =>
    have hs2 : s.toList ≠ s'.toList := fun h => hs (M.toList_inj h)
    have hb : (s.toList == s'.toList) = false := by rw [beq_eq_false_iff_ne]; exact hs2
    have HN := Lib.hid hs
    clear hs hs2
    go_enter Tryz.func17, Tryz.ntmps17
    go_wp2_with fail
    go_ret
    exact ⟨ret_bool (V.same_no fun h => HN.out (by injection h)).symm, done⟩
  subst hs
  by_cases hm : m = m'
  case neg =>
    have hb : ((m : Int) != (m' : Int)) = true := by rw [bne_iff_ne]; omega
    have HN := Lib.hid hm
    clear hm
    go_enter Tryz.func17, Tryz.ntmps17
    go_wp2_with fail
    go_ret
    exact ⟨ret_bool (V.same_no fun h => HN.out (by injection h with _ _ _ h; rw [← HL.out, ← HL'.out, h])).symm, done⟩
  subst hm
  by_cases hp : p = p'
  case neg =>
    have hb : ((p : Int) != (p' : Int)) = true := by rw [bne_iff_ne]; omega
    have HN := Lib.hid hp
    clear hp
    go_enter Tryz.func17, Tryz.ntmps17
    go_wp2_with fail
    go_ret
    exact ⟨ret_bool (V.same_no fun h => HN.out (by injection h with _ _ _ _ h; rw [← HL2.out, ← HL2'.out, h])).symm, done⟩
  subst hp
  go_enter Tryz.func17, Tryz.ntmps17
  go_wp2_with fail
  clear done
  go_loopw [5] (fun y wr => ∃ (j : Nat), y = .int .i64 j ∧ j ≤ p ∧ Hid (∀ q, q < j → ks.getD q ByteArray.empty = ks'.getD q ByteArray.empty) ∧ Below (w.heap.size + 2) ((w.alloc (.cells #[.int .i64 k, .int .i64 n, .string s, .slice A m c, .slice B p e] 25)).alloc (.cells #[.int .i64 k, .int .i64 n, .string s, .slice A' m c', .slice B' p e'] 25)) wr) (fun y _ => p - (intOf y).toNat)
  case atStart => exact ⟨0, rfl, by omega, Lib.hid (fun q h => absurd h (by omega)), Below.refl _ _⟩
  case round =>
    obtain ⟨j, rfl, hj, HN, hbox⟩ := hrel
    obtain ⟨⟨b0, b1, b2, b3, b4⟩, g0, g1, g2, g3, g4⟩ := two5 hbox
    by_cases hlt : j < p
    · obtain ⟨b, off, rfl, c0⟩ := HK.out.item (two_below hbox) hhi hlt
      obtain ⟨b', off', rfl, c0'⟩ := HK'.out.item (two_below hbox) hhi' hlt
      generalize hx : ks.getD j ByteArray.empty = x at *
      generalize hy : ks'.getD j ByteArray.empty = y at *
      have HX := Lib.hid hx; have HY := Lib.hid hy
      clear hx hy
      by_cases hq : x = y
      · subst hq
        go_wp2_with fail
        go_quiet (fail)
        go_wp2_with fail
        refine ⟨⟨j + 1, by go_num, by omega, Lib.hid (fun q h => ?_), two_drewN hbox _⟩, by simp [intOf]; omega⟩
        rcases Nat.lt_or_ge q j with h' | h'
        · exact HN.out q h'
        · obtain rfl : q = j := by omega
          rw [HX.out, HY.out]
      · have hs2 : x.toList ≠ y.toList := fun h => hq (M.toList_inj h)
        have hb : (x.toList == y.toList) = false := by rw [beq_eq_false_iff_ne]; exact hs2
        have HQ := Lib.hid hq
        clear hq hs2
        go_wp2_with fail
        go_quiet (fail)
        go_wp2_with fail
        go_ret
        exact ⟨ret_bool (V.same_no fun h => HQ.out (by injection h with _ _ _ _ h; rw [← HX.out, ← HY.out, h])).symm, below_drewN (two_below hbox) _⟩
    · have HKS : Hid (ks = ks') := Lib.hid (by
        refine List.ext_getElem (by rw [HL2.out, HL2'.out]) fun i h1 h2 => ?_
        have := HN.out i (by rw [HL2.out] at h1; omega)
        simpa [List.getD, List.getElem?_eq_getElem h1, List.getElem?_eq_getElem h2] using this)
      obtain ⟨wo, rfl⟩ : ∃ wo : World, wo = wr := ⟨_, rfl⟩
      go_wp2_with fail
      go_loopw [6] (fun y wr => ∃ (j : Nat), y = .int .i64 j ∧ j ≤ m ∧ Hid (∀ q, q < j → its.getD q default = its'.getD q default) ∧ Below (w.heap.size + 2) ((w.alloc (.cells #[.int .i64 k, .int .i64 n, .string s, .slice A m c, .slice B p e] 25)).alloc (.cells #[.int .i64 k, .int .i64 n, .string s, .slice A' m c', .slice B' p e'] 25)) wr) (fun y _ => m - (intOf y).toNat)
      case atStart => exact ⟨0, rfl, by omega, Lib.hid (fun q h => absurd h (by omega)), hbox⟩
      case round =>
        clear b0 b1 b2 b3 b4 g0 g1 g2 g3 g4 hbox
        obtain ⟨i, rfl, hi2, HM, hbox⟩ := hrel
        obtain ⟨⟨b0, b1, b2, b3, b4⟩, g0, g1, g2, g3, g4⟩ := two5 hbox
        by_cases hlt2 : i < m
        · obtain ⟨b, off, kk, ii, ss, x, y, rfl, c0, c1, c2, c3, c4, hv⟩ := HI.out.item (two_below hbox) hhi hlt2
          obtain ⟨b', off', kk', ii', ss', x', y', rfl, c0', c1', c2', c3', c4', hv'⟩ := HI'.out.item (two_below hbox) hhi' hlt2
          have hbs := two_size hbox
          generalize hq : its.getD i default = q at *
          generalize hr : its'.getD i default = r at *
          have HQ := Lib.hid hq; have HR := Lib.hid hr
          clear hq hr
          go_wp2_with fail
          go_still_tail 10, (by kernel_rfl)
          change wpList _ _ _ _ _ wr.drew
          have hv2 := hv.kept (show Kept lo hi wr wr.drew from fun _ _ _ => rfl)
          have hv2' := hv'.kept (show Kept lo' hi' wr wr.drew from fun _ _ _ => rfl)
          have hbox2 := below_drew hbox
          have hbs2 := two_size hbox2
          generalize wr.drew = w2 at *
          go_wp2_with fail
          refine (IH.out _ _ _ _ _ _ _ _ _ _ hv2 hv2' (by omega) (by omega)).mono ?_
          rintro e w1 ⟨rfl, hb1⟩
          have hbox' := two_step hbox2 hb1
          clear b0 b1 b2 b3 b4 g0 g1 g2 g3 g4 c0 c1 c2 c3 c4 c0' c1' c2' c3' c4' hv hv' hv2 hv2'
          by_cases hqr : q = r
          · have HE := Lib.hid (V.same_yes hqr)
            have HQR := Lib.hid hqr
            clear hqr
            rw [HE.out]
            go_wp2_with fail
            refine ⟨⟨i + 1, by go_num, by omega, Lib.hid (fun a h => ?_), hbox'⟩, by simp [intOf]; omega⟩
            rcases Nat.lt_or_ge a i with h' | h'
            · exact HM.out a h'
            · obtain rfl : a = i := by omega
              rw [HQ.out, HR.out, HQR.out]
          · have HE := Lib.hid (V.same_no hqr)
            have HQR := Lib.hid hqr
            clear hqr
            rw [HE.out]
            go_wp2_with fail
            go_ret
            exact ⟨ret_bool (V.same_no fun h => HQR.out (by injection h with _ _ _ h _; rw [← HQ.out, ← HR.out, h])).symm, two_below hbox'⟩
        · go_wp2_with fail
          go_ret
          refine ⟨ret_bool (V.same_yes ?_).symm, two_below hbox⟩
          have e : its = its' := by
            refine List.ext_getElem (by rw [HL.out, HL'.out]) fun i h1 h2 => ?_
            have := HM.out i (by rw [HL.out] at h1; omega)
            simpa [List.getD, List.getElem?_eq_getElem h1, List.getElem?_eq_getElem h2] using this
          rw [e, HKS.out]

theorem rSame_at : ∀ d, rSameAt d
  | 0 => fun _ _ _ _ _ _ _ _ _ _ h _ _ _ => h.elim
  | d + 1 => rSame_step d (rSame_at d)
theorem rSameX {v v' : Value} {t t' : V} {lo hi lo' hi' : Nat} {w : World} (h : VX w lo hi v t) (h' : VX w lo' hi' v' t') (hhi : hi ≤ w.heap.size) (hhi' : hi' ≤ w.heap.size) :
    Calls Tryz.prog 17 #[v, v'] w fun e w' => e = .returned (.bool (V.same t t')) ∧ Below w.heap.size w w' := by
  obtain ⟨d, h⟩ := h
  obtain ⟨d', h'⟩ := h'
  exact rSame_at d v v' t t' lo hi lo' hi' d' w h h' hhi hhi'
end Go.Proofs.YtdkggnciamfcmaaGreatDoor
