/-
  Layer 2: the reference Order.
-/
import Derived.Test.YthmlpogflllcnaaVRefD
import Derived.Test.YthmlpogflllcnaaVal2
namespace Go.Proofs.Ythmlpogflllcnaa
set_option linter.unusedVariables false
open Go.RowKit
open M (V)

theorem sign_any (a b : Bool) (w : World) :
    Calls Try.prog 79 #[.bool a, .bool b] w fun e w' => e = .returned (.int .i64 (if a = true then -1 else if b = true then 1 else 0)) ∧ w = w' := by
  cases a <;> cases b
  all_goals
    go_enter Try.func79, Try.ntmps79
    go_wp2_with fail
    go_ret
    exact ⟨rfl, rfl⟩

def rCmpAt (d : Nat) : Prop := ∀ (v v' : Value) (t t' : V) (lo hi lo' hi' d' : Nat) (w : World), VB w lo hi d v t → VB w lo' hi' d' v' t' → hi ≤ w.heap.size → hi' ≤ w.heap.size → t.wf = true → t'.wf = true →
  Calls Try.prog 61 #[v, v'] w fun e w' => e = .returned (.int .i64 (V.cmp t t')) ∧ Below w.heap.size w w'

set_option maxRecDepth 100000 in
set_option maxHeartbeats 4000000 in
theorem rCmp_step (d : Nat) (ih : rCmpAt d) : rCmpAt (d + 1) := by
  intro v v' t t' lo hi lo' hi' d' w h h' hhi hhi' hw hw'
  match d', h' with
  | 0, h' => exact h'.elim
  | d' + 1, h' =>
  obtain ⟨k, n, s, its, ks⟩ := t
  obtain ⟨k', n', s', its', ks'⟩ := t'
  obtain ⟨A, m, c, B, p, e, rfl, k1, k2, n1, n2, s1, hI, hK⟩ := h
  obtain ⟨A', m', c', B', p', e', rfl, k1', k2', n1', n2', s1', hI', hK'⟩ := h'
  have hmap := M.wf_map hw
  have hmap' := M.wf_map hw'
  have hwi := M.wf_items hw
  have hwi' := M.wf_items hw'
  clear hw hw'
  simp only [V.k, V.n, V.s, V.its, V.ks] at *
  have hcap := hI.cap
  have hmost := hI.most
  have hcap2 := hK.cap
  have hmost2 := hK.most
  have hcap' := hI'.cap
  have hmost' := hI'.most
  have hcap2' := hK'.cap
  have hmost2' := hK'.most
  have HL := Lib.hid hI.len
  have HL2 := Lib.hid hK.len
  have HL' := Lib.hid hI'.len
  have HL2' := Lib.hid hK'.len
  rw [HL.out, HL2.out] at hmap
  rw [HL'.out, HL2'.out] at hmap'
  have HI := Lib.hid hI
  have HK := Lib.hid hK
  have HI' := Lib.hid hI'
  have HK' := Lib.hid hK'
  have IH := Lib.hid ih
  have HM := Lib.hid hmap; have HM' := Lib.hid hmap'; have HWI := Lib.hid hwi; have HWI' := Lib.hid hwi'
  clear ih hI hK hI' hK' hmap hmap' hwi hwi'
  have done : ∀ {o o' : Obj}, Below w.heap.size w ((w.alloc o).alloc o') := fun {o o'} => ((Below.refl _ _).alloc (Nat.le_refl _) _).alloc (by simp) _
  by_cases hk : k = k'
  case neg =>
    have hb : (k != k') = true := by rw [bne_iff_ne]; exact hk
    have HN := Lib.hid hk
    clear hk
    go_enter Try.func61, Try.ntmps61
    go_wp2_with fail
    refine (sign_any _ _ _).mono ?_
    rintro e w' ⟨rfl, rfl⟩
    go_wp2_with fail
    all_goals go_ret
    all_goals exact ⟨ret_int (by rw [V.cmp_kind HN.out]; simp [*]), done⟩
  subst hk
  by_cases hn : n = n'
  case neg =>
    have hb : (n != n') = true := by rw [bne_iff_ne]; exact hn
    have HN := Lib.hid hn
    clear hn
    go_enter Try.func61, Try.ntmps61
    go_wp2_with fail
    refine (sign_any _ _ _).mono ?_
    rintro e w' ⟨rfl, rfl⟩
    go_wp2_with fail
    all_goals go_ret
    all_goals exact ⟨ret_int (by rw [V.cmp_int HN.out]; simp [*]), done⟩
  subst hn
  by_cases hs : s = s'
  case neg =>
    have hs2 : s.toList ≠ s'.toList := fun h => hs (M.toList_inj h)
    have hb : (s.toList == s'.toList) = false := by rw [beq_eq_false_iff_ne]; exact hs2
    have HN := Lib.hid hs
    clear hs hs2
    go_enter Try.func61, Try.ntmps61
    go_wp2_with fail
    refine (sign_any _ _ _).mono ?_
    rintro e w' ⟨rfl, rfl⟩
    go_wp2_with fail
    all_goals go_ret
    all_goals exact ⟨ret_int (by rw [V.cmp_text HN.out]; simp [*]), done⟩
  subst hs
  rw [V.cmp_items]
  go_enter Try.func61, Try.ntmps61
  go_wp2_with fail
  clear done
  go_loopw [5] (fun y wr => ∃ (j : Nat), y = .int .i64 j ∧ j ≤ m ∧ j ≤ m' ∧ Hid (V.cmps (k == 5) its ks its' ks' = V.cmps (k == 5) (its.drop j) (ks.drop j) (its'.drop j) (ks'.drop j)) ∧ Below (w.heap.size + 2) ((w.alloc (.cells #[.int .i64 k, .int .i64 n, .string s, .slice A m c, .slice B p e] 26)).alloc (.cells #[.int .i64 k, .int .i64 n, .string s, .slice A' m' c', .slice B' p' e'] 26)) wr) (fun y _ => m - (intOf y).toNat)
  case atStart => exact ⟨0, rfl, by omega, by omega, Lib.hid rfl, Below.refl _ _⟩
  case round =>
    obtain ⟨j, rfl, hj, hj', HN, hbox⟩ := hrel
    obtain ⟨⟨b0, b1, b2, b3, b4⟩, g0, g1, g2, g3, g4⟩ := two5 hbox
    by_cases hlt : j < m ∧ j < m'
    · obtain ⟨hlt, hlt'⟩ := hlt
      have HW := Lib.hid (V.wfs_get HWI.out j (by rw [HL.out]; exact hlt))
      have HW' := Lib.hid (V.wfs_get HWI'.out j (by rw [HL'.out]; exact hlt'))
      by_cases hk5 : k = 5
      · subst hk5
        have hpm : p = m := HM.out rfl
        have hpm' : p' = m' := HM'.out rfl
        obtain ⟨b9, off9, rfl, c9⟩ := HK.out.item (two_below hbox) hhi (by omega : j < p)
        obtain ⟨b8, off8, rfl, c8⟩ := HK'.out.item (two_below hbox) hhi' (by omega : j < p')
        subst hpm; subst hpm'
        generalize hx : ks.getD j ByteArray.empty = kx at *
        generalize hy : ks'.getD j ByteArray.empty = ky at *
        have HX := Lib.hid hx; have HY := Lib.hid hy
        clear hx hy
        by_cases hxy : kx = ky
        · have HKEY : Hid (((5 : Int) == 5) = true → ks.getD j ByteArray.empty = ks'.getD j ByteArray.empty) := Lib.hid (fun _ => by rw [HX.out, HY.out, hxy])
          subst hxy
          obtain ⟨b, off, kk, ii, ss, x, y, rfl, c0, c1, c2, c3, c4, hv⟩ := HI.out.item (two_below hbox) hhi (by omega : j < p)
          obtain ⟨b', off', kk', ii', ss', x', y', rfl, c0', c1', c2', c3', c4', hv'⟩ := HI'.out.item (two_below hbox) hhi' (by omega : j < p')
          have hbs := two_size hbox
          generalize hq : its.getD j default = q at *
          generalize hr : its'.getD j default = r at *
          have HQ := Lib.hid hq.symm; have HR := Lib.hid hr.symm
          clear hq hr
          go_wp2_with fail
          go_quiet (fail)
          go_wp2_with fail
          obtain ⟨wq, hwq, b3q, g3q, c0q, c1q, c2q, c3q, c4q, c0q', c1q', c2q', c3q', c4q', hvq, hvq', hboxq⟩ : ∃ wq : World, wq = wr.drewN nq ∧ wq.cell? ⟨w.heap.size, 3, none⟩ = some (.slice (some ⟨b, off, none⟩) p c) ∧ wq.cell? ⟨w.heap.size + 1, 3, none⟩ = some (.slice (some ⟨b', off', none⟩) p' c') ∧
              wq.cell? ⟨b, off + j * 5, none⟩ = some (.int .i64 kk) ∧ wq.cell? ⟨b, off + j * 5 + 1, none⟩ = some (.int .i64 ii) ∧ wq.cell? ⟨b, off + j * 5 + 2, none⟩ = some (.string ss) ∧ wq.cell? ⟨b, off + j * 5 + 3, none⟩ = some x ∧ wq.cell? ⟨b, off + j * 5 + 4, none⟩ = some y ∧
              wq.cell? ⟨b', off' + j * 5, none⟩ = some (.int .i64 kk') ∧ wq.cell? ⟨b', off' + j * 5 + 1, none⟩ = some (.int .i64 ii') ∧ wq.cell? ⟨b', off' + j * 5 + 2, none⟩ = some (.string ss') ∧ wq.cell? ⟨b', off' + j * 5 + 3, none⟩ = some x' ∧ wq.cell? ⟨b', off' + j * 5 + 4, none⟩ = some y' ∧
              VB wq lo hi d (.agg #[.int .i64 kk, .int .i64 ii, .string ss, x, y]) q ∧ VB wq lo' hi' d' (.agg #[.int .i64 kk', .int .i64 ii', .string ss', x', y']) r ∧ Below (w.heap.size + 2) _ wq :=
            ⟨_, rfl, b3, g3, c0, c1, c2, c3, c4, c0', c1', c2', c3', c4', hv.kept (show Kept lo hi wr (wr.drewN nq) from fun _ _ _ => rfl), hv'.kept (show Kept lo' hi' wr (wr.drewN nq) from fun _ _ _ => rfl), two_drewN hbox nq⟩
          rw [← hwq]
          have hbsq := two_size hboxq
          clear hwq b0 b1 b2 b3 b4 g0 g1 g2 g3 g4 c0 c1 c2 c3 c4 c0' c1' c2' c3' c4' hv hv' hbox
          go_still_tail 10, (by kernel_rfl)
          change wpList _ _ _ _ _ wq.drew
          go_wp2_with fail
          refine (IH.out _ _ _ _ _ _ _ _ _ _ (hvq.kept (show Kept lo hi wq wq.drew from fun _ _ _ => rfl)) (hvq'.kept (show Kept lo' hi' wq wq.drew from fun _ _ _ => rfl)) (by exact (by omega : hi ≤ wq.heap.size)) (by exact (by omega : hi' ≤ wq.heap.size)) HW.out HW'.out).mono ?_
          rintro e w1 ⟨rfl, hb1⟩
          have hbox' := two_step (by exact below_drew hboxq) hb1
          clear b3q g3q c0q c1q c2q c3q c4q c0q' c1q' c2q' c3q' c4q' hvq hvq' hboxq
          have hsm := V.cmp_small q r
          obtain ⟨C, hC⟩ : ∃ C, C = q.cmp r := ⟨_, rfl⟩
          rw [← hC] at hsm ⊢
          have HC := Lib.hid hC
          clear hC
          by_cases hz : C = 0
          · have hz1 : (C != 0) = false := by rw [hz]; rfl
            have HZ := Lib.hid hz
            clear hz
            go_wp2_with fail
            refine ⟨⟨j + 1, by go_num, by omega, by omega, Lib.hid (by rw [HN.out, V.cmps_next (by rw [HL.out]; omega) (by rw [HL'.out]; omega) HKEY.out (by rw [← HQ.out, ← HR.out, ← HC.out]; exact HZ.out)]), hbox'⟩, by simp [intOf]; omega⟩
          · have hz1 : (C != 0) = true := by rw [bne_iff_ne]; exact hz
            have HZ := Lib.hid hz
            clear hz
            go_wp2_with fail
            go_ret
            exact ⟨ret_int (by rw [HN.out, V.cmps_item (by rw [HL.out]; omega) (by rw [HL'.out]; omega) HKEY.out (by rw [← HQ.out, ← HR.out, ← HC.out]; exact HZ.out), ← HQ.out, ← HR.out, ← HC.out]), two_below hbox'⟩
        · have hs2 : kx.toList ≠ ky.toList := fun h => hxy (M.toList_inj h)
          have hb : (kx.toList == ky.toList) = false := by rw [beq_eq_false_iff_ne]; exact hs2
          have HXY := Lib.hid hxy
          clear hxy hs2
          go_wp2_with fail
          go_quiet (fail)
          go_wp2_with fail
          obtain ⟨wq, hwq, b4q, g4q, c9q, c8q, hboxq⟩ : ∃ wq : World, wq = wr.drewN nq ∧ wq.cell? ⟨w.heap.size, 4, none⟩ = some (.slice (some ⟨b9, off9, none⟩) p e) ∧ wq.cell? ⟨w.heap.size + 1, 4, none⟩ = some (.slice (some ⟨b8, off8, none⟩) p' e') ∧
              wq.cell? ⟨b9, off9 + j, none⟩ = some (.string kx) ∧ wq.cell? ⟨b8, off8 + j, none⟩ = some (.string ky) ∧ Below (w.heap.size + 2) _ wq := ⟨_, rfl, b4, g4, c9, c8, two_drewN hbox nq⟩
          rw [← hwq]
          clear hwq b0 b1 b2 b3 b4 g0 g1 g2 g3 g4 c9 c8 hbox
          go_still_tail 11, (by kernel_rfl)
          change wpList _ _ _ _ _ wq.drew
          go_wp2_with fail
          refine (sign_any _ _ _).mono ?_
          rintro e w' ⟨rfl, rfl⟩
          have hsm : (if Go.Op.bytesLess kx.toList ky.toList = true then (-1 : Int) else if true = true then 1 else 0) = V.cmps ((5 : Int) == 5) its ks its' ks' := by
            rw [HN.out, V.cmps_key (m := (5 : Int) == 5) (its := its) (its' := its') (ks := ks) (ks' := ks') (i := j) (by rw [HL.out]; omega) (by rw [HL'.out]; omega) rfl (by rw [HX.out, HY.out]; exact HXY.out), HX.out, HY.out]; rfl
          obtain ⟨C, hC⟩ : ∃ C : Int, C = (if Go.Op.bytesLess kx.toList ky.toList = true then (-1 : Int) else if true = true then 1 else 0) := ⟨_, rfl⟩
          rw [← hC] at hsm ⊢
          have HSM := Lib.hid hsm
          clear hsm hC
          go_wp2_with fail
          go_ret
          exact ⟨ret_int HSM.out, below_drew (two_below hboxq)⟩
      · have hk6 : (k == 5) = false := by rw [beq_eq_false_iff_ne]; exact hk5
        have HKEY : Hid ((k == 5) = true → ks.getD j ByteArray.empty = ks'.getD j ByteArray.empty) := Lib.hid (fun h => by rw [hk6] at h; cases h)
        have HK5 := Lib.hid hk5
        clear hk5
        obtain ⟨b, off, kk, ii, ss, x, y, rfl, c0, c1, c2, c3, c4, hv⟩ := HI.out.item (two_below hbox) hhi (by omega : j < m)
        obtain ⟨b', off', kk', ii', ss', x', y', rfl, c0', c1', c2', c3', c4', hv'⟩ := HI'.out.item (two_below hbox) hhi' (by omega : j < m')
        have hbs := two_size hbox
        generalize hq : its.getD j default = q at *
        generalize hr : its'.getD j default = r at *
        have HQ := Lib.hid hq.symm; have HR := Lib.hid hr.symm
        clear hq hr
        go_wp2_with fail
        go_quiet (fail)
        go_wp2_with fail
        obtain ⟨wq, hwq, b3q, g3q, c0q, c1q, c2q, c3q, c4q, c0q', c1q', c2q', c3q', c4q', hvq, hvq', hboxq⟩ : ∃ wq : World, wq = wr.drewN nq ∧ wq.cell? ⟨w.heap.size, 3, none⟩ = some (.slice (some ⟨b, off, none⟩) m c) ∧ wq.cell? ⟨w.heap.size + 1, 3, none⟩ = some (.slice (some ⟨b', off', none⟩) m' c') ∧
            wq.cell? ⟨b, off + j * 5, none⟩ = some (.int .i64 kk) ∧ wq.cell? ⟨b, off + j * 5 + 1, none⟩ = some (.int .i64 ii) ∧ wq.cell? ⟨b, off + j * 5 + 2, none⟩ = some (.string ss) ∧ wq.cell? ⟨b, off + j * 5 + 3, none⟩ = some x ∧ wq.cell? ⟨b, off + j * 5 + 4, none⟩ = some y ∧
            wq.cell? ⟨b', off' + j * 5, none⟩ = some (.int .i64 kk') ∧ wq.cell? ⟨b', off' + j * 5 + 1, none⟩ = some (.int .i64 ii') ∧ wq.cell? ⟨b', off' + j * 5 + 2, none⟩ = some (.string ss') ∧ wq.cell? ⟨b', off' + j * 5 + 3, none⟩ = some x' ∧ wq.cell? ⟨b', off' + j * 5 + 4, none⟩ = some y' ∧
            VB wq lo hi d (.agg #[.int .i64 kk, .int .i64 ii, .string ss, x, y]) q ∧ VB wq lo' hi' d' (.agg #[.int .i64 kk', .int .i64 ii', .string ss', x', y']) r ∧ Below (w.heap.size + 2) _ wq :=
          ⟨_, rfl, b3, g3, c0, c1, c2, c3, c4, c0', c1', c2', c3', c4', hv.kept (show Kept lo hi wr (wr.drewN nq) from fun _ _ _ => rfl), hv'.kept (show Kept lo' hi' wr (wr.drewN nq) from fun _ _ _ => rfl), two_drewN hbox nq⟩
        rw [← hwq]
        have hbsq := two_size hboxq
        clear hwq b0 b1 b2 b3 b4 g0 g1 g2 g3 g4 c0 c1 c2 c3 c4 c0' c1' c2' c3' c4' hv hv' hbox
        go_still_tail 10, (by kernel_rfl)
        change wpList _ _ _ _ _ wq.drew
        go_wp2_with fail
        refine (IH.out _ _ _ _ _ _ _ _ _ _ (hvq.kept (show Kept lo hi wq wq.drew from fun _ _ _ => rfl)) (hvq'.kept (show Kept lo' hi' wq wq.drew from fun _ _ _ => rfl)) (by exact (by omega : hi ≤ wq.heap.size)) (by exact (by omega : hi' ≤ wq.heap.size)) HW.out HW'.out).mono ?_
        rintro e w1 ⟨rfl, hb1⟩
        have hbox' := two_step (by exact below_drew hboxq) hb1
        clear b3q g3q c0q c1q c2q c3q c4q c0q' c1q' c2q' c3q' c4q' hvq hvq' hboxq
        have hsm := V.cmp_small q r
        obtain ⟨C, hC⟩ : ∃ C, C = q.cmp r := ⟨_, rfl⟩
        rw [← hC] at hsm ⊢
        have HC := Lib.hid hC
        clear hC
        by_cases hz : C = 0
        · have hz1 : (C != 0) = false := by rw [hz]; rfl
          have HZ := Lib.hid hz
          clear hz
          go_wp2_with fail
          refine ⟨⟨j + 1, by go_num, by omega, by omega, Lib.hid (by rw [HN.out, V.cmps_next (by rw [HL.out]; omega) (by rw [HL'.out]; omega) HKEY.out (by rw [← HQ.out, ← HR.out, ← HC.out]; exact HZ.out)]), hbox'⟩, by simp [intOf]; omega⟩
        · have hz1 : (C != 0) = true := by rw [bne_iff_ne]; exact hz
          have HZ := Lib.hid hz
          clear hz
          go_wp2_with fail
          go_ret
          exact ⟨ret_int (by rw [HN.out, V.cmps_item (by rw [HL.out]; omega) (by rw [HL'.out]; omega) HKEY.out (by rw [← HQ.out, ← HR.out, ← HC.out]; exact HZ.out), ← HQ.out, ← HR.out, ← HC.out]), two_below hbox'⟩
    · have he := V.cmps_end (m := k == 5) (its := its) (its' := its') (ks := ks) (ks' := ks') (i := j) (by rw [HL.out]; omega) (by rw [HL'.out]; omega) (by rw [HL.out, HL'.out]; exact hlt)
      rw [← HN.out, HL.out, HL'.out] at he
      have HE := Lib.hid he
      clear he
      rcases (show m ≤ j ∨ (j < m ∧ m' ≤ j) by omega) with h1 | ⟨h1, h2⟩
      all_goals
        go_wp2_with fail
        refine (sign_any _ _ _).mono ?_
        rintro e w' ⟨rfl, rfl⟩
        go_wp2_with fail
        all_goals go_ret
        all_goals exact ⟨ret_int (by rw [HE.out]; simp [*]), two_below hbox⟩

theorem rCmp_at : ∀ d, rCmpAt d
  | 0 => fun _ _ _ _ _ _ _ _ _ _ h _ _ _ _ _ => h.elim
  | d + 1 => rCmp_step d (rCmp_at d)
theorem rCmpX {v v' : Value} {t t' : V} {lo hi lo' hi' : Nat} {w : World} (h : VX w lo hi v t) (h' : VX w lo' hi' v' t') (hhi : hi ≤ w.heap.size) (hhi' : hi' ≤ w.heap.size) (hw : t.wf = true) (hw' : t'.wf = true) :
    Calls Try.prog 61 #[v, v'] w fun e w' => e = .returned (.int .i64 (V.cmp t t')) ∧ Below w.heap.size w w' := by
  obtain ⟨d, h⟩ := h
  obtain ⟨d', h'⟩ := h'
  exact rCmp_at d v v' t t' lo hi lo' hi' d' w h h' hhi hhi' hw hw'

set_option maxRecDepth 100000 in
set_option maxHeartbeats 1000000 in
theorem rOrderX {v v' : Value} {t t' : V} {lo hi lo' hi' : Nat} {w : World} (h : VX w lo hi v t) (h' : VX w lo' hi' v' t') (hhi : hi ≤ w.heap.size) (hhi' : hi' ≤ w.heap.size) :
    Calls Try.prog 36 #[v, v'] w fun e w' => e = .returned (.int .i64 (V.ord t t')) ∧ Below w.heap.size w w' := by
  obtain ⟨A, m, c, B, p, e, rfl⟩ := h.form
  obtain ⟨A', m', c', B', p', e', rfl⟩ := h'.form
  have hb0 : Below (w.heap.size + 2) ((w.alloc (.cells #[.int .i64 t.k, .int .i64 t.n, .string t.s, .slice A m c, .slice B p e] 26)).alloc (.cells #[.int .i64 t'.k, .int .i64 t'.n, .string t'.s, .slice A' m' c', .slice B' p' e'] 26)) _ := Below.refl _ _
  obtain ⟨⟨b0, b1, b2, b3, b4⟩, g0, g1, g2, g3, g4⟩ := two5 hb0
  have h1 := h.later (two_below hb0) hhi
  have hz := two_size hb0
  cases hw : t.wf with
  | false =>
    have hO : V.ord t t' = 0 := by unfold V.ord; rw [hw]; simp
    have HW := Lib.hid hw; have HO := Lib.hid hO
    clear hw hO
    go_enter Try.func36, Try.ntmps36
    go_wp2_with fail
    refine (rWfX h1 (by omega)).mono ?_
    rintro e w1 ⟨rfl, hb1⟩
    rw [HW.out]
    go_wp2_with fail
    go_ret
    exact ⟨ret_int HO.out.symm, two_below (two_step hb0 hb1)⟩
  | true =>
    cases hw' : t'.wf
    all_goals
      have hO : V.ord t t' = if t'.wf = true then V.cmp t t' else 0 := by unfold V.ord; rw [hw]; simp
      rw [hw'] at hO
      have HW := Lib.hid hw; have HO := Lib.hid hO; have HW' := Lib.hid hw'
      clear hw hO hw'
      go_enter Try.func36, Try.ntmps36
      go_wp2_with fail
      refine (rWfX h1 (by omega)).mono ?_
      rintro e w1 ⟨rfl, hb1⟩
      rw [HW.out]
      have hb2 := two_step hb0 hb1
      clear b0 b1 b2 b3 b4 g0 g1 g2 g3 g4
      obtain ⟨⟨b0, b1, b2, b3, b4⟩, g0, g1, g2, g3, g4⟩ := two5 hb2
      have h2 := h'.later (two_below hb2) hhi'
      have hz2 := two_size hb2
      go_wp2_with fail
      refine (rWfX h2 (by omega)).mono ?_
      rintro e w2 ⟨rfl, hb3⟩
      rw [HW'.out]
      have hb4 := two_step hb2 hb3
      clear b0 b1 b2 b3 b4 g0 g1 g2 g3 g4
      obtain ⟨⟨b0, b1, b2, b3, b4⟩, g0, g1, g2, g3, g4⟩ := two5 hb4
      have hz4 := two_size hb4
    · go_wp2_with fail
      go_ret
      exact ⟨ret_int HO.out.symm, two_below hb4⟩
    · go_wp2_with fail
      refine (rCmpX (h.later (two_below hb4) hhi) (h'.later (two_below hb4) hhi') (by omega) (by omega) HW.out HW'.out).mono ?_
      rintro e w3 ⟨rfl, hb5⟩
      go_wp2_with fail
      go_ret
      exact ⟨ret_int HO.out.symm, two_below (two_step hb4 hb5)⟩
end Go.Proofs.Ythmlpogflllcnaa
