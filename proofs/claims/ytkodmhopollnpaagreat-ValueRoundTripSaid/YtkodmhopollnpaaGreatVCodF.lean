/-
  Layer 2: the code's Order.
-/
import Derived.Test.YtkodmhopollnpaaGreatVCodE
import Derived.Test.YtkodmhopollnpaaGreatVRefE
import Derived.Test.YtkodmhopollnpaaGreatVal5
import Derived.Laws.Externs
namespace Go.Proofs.YtkodmhopollnpaaGreat
set_option linter.unusedVariables false
open Go.RowKit
open M (V)

set_option maxRecDepth 100000 in
theorem compareString_any (a b : ByteArray) (w : World) :
    Calls Tryz.prog 90 #[.string a, .string b] w fun e w' => e = .returned (.int .i64 (Lib.compareBytes a.data.toList b.data.toList)) ∧ w = w' := by
  go_enter Tryz.func90, Tryz.ntmps90
  go_wp2
  rw [run_callFunc_extern Tryz.func110 (by kernel_rfl) (by kernel_rfl) (by kernel_rfl) (e := Extern.BytealgCompare.compare) (by kernel_rfl), Lib.run_compareString]
  simp only [Result.andThen]
  rw [Oper.upon_value]
  go_wp2
  go_ret
  exact ⟨rfl, rfl⟩

set_option maxRecDepth 100000 in
theorem strCompare_any (a b : ByteArray) (w : World) :
    Calls Tryz.prog 69 #[.string a, .string b] w fun e w' => e = .returned (.int .i64 (Lib.compareBytes a.data.toList b.data.toList)) ∧ w = w' := by
  go_enter Tryz.func69, Tryz.ntmps69
  go_wp2_with fail
  refine (compareString_any _ _ _).mono ?_
  rintro e w' ⟨rfl, rfl⟩
  go_wp2_with fail
  go_ret
  exact ⟨rfl, rfl⟩

theorem isNaN_any (a : Int) (w : World) :
    Calls Tryz.prog 93 #[.int .i64 a] w fun e w' => e = .returned (.bool false) ∧ w = w' := by
  go_enter Tryz.func93, Tryz.ntmps93
  go_wp2_with fail
  go_ret
  exact ⟨rfl, rfl⟩

set_option maxRecDepth 100000 in
theorem intCompare_any (a b : Int) (w : World) :
    Calls Tryz.prog 73 #[.int .i64 a, .int .i64 b] w fun e w' => e = .returned (.int .i64 (M.icmp a b)) ∧ w = w' := by
  have h : M.icmp a b = if a < b then -1 else if b < a then 1 else 0 := rfl
  have H := Lib.hid h
  clear h
  rcases (show a < b ∨ (¬ a < b ∧ b < a) ∨ (¬ a < b ∧ ¬ b < a) by omega) with h1 | ⟨h1, h2⟩ | ⟨h1, h2⟩
  all_goals
    go_enter Tryz.func73, Tryz.ntmps73
    go_wp2_with fail
    refine (isNaN_any _ _).mono ?_
    rintro e w' ⟨rfl, rfl⟩
    go_wp2_with fail
    refine (isNaN_any _ _).mono ?_
    rintro e w' ⟨rfl, rfl⟩
    go_wp2_with fail
    go_ret
    exact ⟨ret_int (by rw [H.out]; first | rw [if_pos (by omega)] | rw [if_neg (by omega), if_pos (by omega)] | rw [if_neg (by omega), if_neg (by omega)]), rfl⟩

def cmpAt (d : Nat) : Prop := ∀ (v v' : Value) (t t' : V) (lo hi lo' hi' d' : Nat) (w : World), VB w lo hi d v t → VB w lo' hi' d' v' t' → hi ≤ w.heap.size → hi' ≤ w.heap.size → t.wf = true → t'.wf = true →
  Calls Tryz.prog 47 #[v, v'] w fun e w' => e = .returned (.int .i64 (V.cmp t t')) ∧ Below w.heap.size w w'

set_option maxRecDepth 100000 in
set_option maxHeartbeats 2000000 in
theorem itemsCompare_any {d d' : Nat} (ih : cmpAt d) {A A' : Option Addr} {n c n' c' lo hi lo' hi' : Nat} {l l' : List V} {w : World} (h : IS w lo hi (VB w lo hi d) A n c l) (h' : IS w lo' hi' (VB w lo' hi' d') A' n' c' l') (hhi : hi ≤ w.heap.size) (hhi' : hi' ≤ w.heap.size) (ks ks' : List ByteArray) (hw : V.wfs l = true) (hw' : V.wfs l' = true) :
    Calls Tryz.prog 74 #[.slice A n c, .slice A' n' c', .func (.func 47) #[] #[]] w fun e w' => e = .returned (.int .i64 (V.cmps false l ks l' ks')) ∧ Below w.heap.size w w' := by
  have hcap := h.cap
  have hmost := h.most
  have hcap' := h'.cap
  have hmost' := h'.most
  have HL := Lib.hid h.len
  have HL' := Lib.hid h'.len
  have HI := Lib.hid h
  have HI' := Lib.hid h'
  have IH := Lib.hid ih
  have HWI := Lib.hid hw; have HWI' := Lib.hid hw'
  clear h h' ih hw hw'
  go_enter Tryz.func74, Tryz.ntmps74
  go_wp2_with fail
  go_loopw [13] (fun y wr => ∃ (j : Nat), y = .int .i64 j ∧ j ≤ n ∧ j ≤ n' ∧ Hid (V.cmps false l ks l' ks' = V.cmps false (l.drop j) (ks.drop j) (l'.drop j) (ks'.drop j)) ∧ Below w.heap.size w wr) (fun y _ => n - (intOf y).toNat)
  case atStart => exact ⟨0, rfl, by omega, by omega, Lib.hid rfl, Below.refl _ _⟩
  case round =>
    obtain ⟨j, rfl, hj, hj', HN, hb⟩ := hrel
    have hbs := hb.size
    by_cases hlt : j < n ∧ j < n'
    · obtain ⟨hlt, hlt'⟩ := hlt
      have HW := Lib.hid (V.wfs_get HWI.out j (by rw [HL.out]; exact hlt))
      have HW' := Lib.hid (V.wfs_get HWI'.out j (by rw [HL'.out]; exact hlt'))
      obtain ⟨b, off, kk, ii, ss, x, y, rfl, c0, c1, c2, c3, c4, hv⟩ := HI.out.item hb hhi hlt
      obtain ⟨b', off', kk', ii', ss', x', y', rfl, c0', c1', c2', c3', c4', hv'⟩ := HI'.out.item hb hhi' hlt'
      obtain ⟨A1, n1', cc1, B1, m1', e1', rfl, rfl⟩ := hv.cells
      obtain ⟨A2, n2', cc2, B2, m2', e2', rfl, rfl⟩ := hv'.cells
      have hlt1 := World.block_lt_of_cell? wr _ c0
      have hlt2 := World.block_lt_of_cell? wr _ c0'
      simp only at hlt1 hlt2
      have hb2 := (hb.alloc hbs (.cells #[.int .i64 kk, .int .i64 ii, .string ss, .slice A1 n1' cc1, .slice B1 m1' e1'] 31)).alloc (by simp; omega) (.cells #[.int .i64 kk', .int .i64 ii', .string ss', .slice A2 n2' cc2, .slice B2 m2' e2'] 31)
      generalize hq : l.getD j default = q at *
      generalize hr : l'.getD j default = r at *
      have HQ := Lib.hid hq; have HR := Lib.hid hr
      clear hq hr
      go_wp2_with fail
      refine (IH.out _ _ _ _ _ _ _ _ _ _ (hv.alloc2 (by omega) _ _) (hv'.alloc2 (by omega) _ _) (by simp; omega) (by simp; omega) HW.out HW'.out).mono ?_
      rintro e w1 ⟨rfl, hb3⟩
      have hb4 := below_step hb2 hb3
      have hsm := V.cmp_small q r
      obtain ⟨C, hC⟩ : ∃ C, C = q.cmp r := ⟨_, rfl⟩
      rw [← hC] at hsm ⊢
      have HC := Lib.hid hC
      clear hC hb2 hb3 c0 c1 c2 c3 c4 c0' c1' c2' c3' c4' hv hv'
      by_cases hz : C = 0
      · have hz1 : (C != 0) = false := by rw [hz]; rfl
        have HZ := Lib.hid hz
        clear hz
        go_wp2_with fail
        refine ⟨⟨j + 1, by go_num, by omega, by omega, Lib.hid (by rw [HN.out, V.cmps_next (by rw [HL.out]; omega) (by rw [HL'.out]; omega) (fun h => by cases h) (by rw [HQ.out, HR.out, ← HC.out]; exact HZ.out)]), hb4⟩, by simp [intOf]; omega⟩
      · have hz1 : (C != 0) = true := by rw [bne_iff_ne]; exact hz
        have HZ := Lib.hid hz
        clear hz
        go_wp2_with fail
        go_ret
        exact ⟨ret_int (by rw [HN.out, V.cmps_item (by rw [HL.out]; omega) (by rw [HL'.out]; omega) (fun h => by cases h) (by rw [HQ.out, HR.out, ← HC.out]; exact HZ.out), HQ.out, HR.out, ← HC.out]), hb4⟩
    · have he := V.cmps_end (m := false) (its := l) (its' := l') (ks := ks) (ks' := ks') (i := j) (by rw [HL.out]; omega) (by rw [HL'.out]; omega) (by rw [HL.out, HL'.out]; exact hlt)
      rw [← HN.out, HL.out, HL'.out] at he
      have HE := Lib.hid he
      clear he
      rcases (show j < n ∧ n' ≤ j ∨ n ≤ j ∧ n < n' ∨ n ≤ j ∧ n' ≤ n by omega) with ⟨h1, h2⟩ | ⟨h1, h2⟩ | ⟨h1, h2⟩
      · obtain ⟨b, off, kk, ii, ss, x, y, rfl, c0, c1, c2, c3, c4, hv⟩ := HI.out.item hb hhi h1
        obtain ⟨A1, n1', cc1, B1, m1', e1', rfl, rfl⟩ := hv.cells
        go_wp2_with fail
        go_ret
        exact ⟨ret_int (by rw [HE.out, if_neg (by omega), if_pos (by omega)]), hb.alloc hbs _⟩
      · go_wp2_with fail
        go_ret
        exact ⟨ret_int (by rw [HE.out, if_pos (by omega)]), hb⟩
      · go_wp2_with fail
        go_ret
        exact ⟨ret_int (by rw [HE.out, if_neg (by omega), if_neg (by omega)]), hb⟩

set_option maxRecDepth 100000 in
set_option maxHeartbeats 4000000 in
theorem pairs_any {d : Nat} (ih : cmpAt d) (v v' : Value) (t t' : V) (lo hi lo' hi' d' : Nat) (w : World) (h : VB w lo hi (d + 1) v t) (h' : VB w lo' hi' d' v' t') (hhi : hi ≤ w.heap.size) (hhi' : hi' ≤ w.heap.size) (hw : t.wf = true) (hw' : t'.wf = true) (hk5 : t.k = 5) (hk5' : t'.k = 5) :
    Calls Tryz.prog 75 #[v, v'] w fun e w' => e = .returned (.int .i64 (V.cmps true t.its t.ks t'.its t'.ks)) ∧ Below w.heap.size w w' := by
  match d', h' with
  | 0, h' => exact h'.elim
  | d' + 1, h' =>
  obtain ⟨k, n, s, its, ks⟩ := t
  obtain ⟨k', n', s', its', ks'⟩ := t'
  have h0 := h
  have h0' := h'
  obtain ⟨A, m, c, B, p, e, rfl, k1, k2, n1, n2, s1, hI, hK⟩ := h
  obtain ⟨A', m', c', B', p', e', rfl, k1', k2', n1', n2', s1', hI', hK'⟩ := h'
  simp only [V.k, V.n, V.s, V.its, V.ks] at hI hK hI' hK' k1 k2 n1 n2 s1 k1' k2' n1' n2' s1' h0 h0' ⊢
  have HW := Lib.hid hw
  have HW' := Lib.hid hw'
  clear hw hw'
  have hcap := hI.cap
  have hmost := hI.most
  have hcap2 := hK.cap
  have hmost2 := hK.most
  have hcap' := hI'.cap
  have hmost' := hI'.most
  have hcap2' := hK'.cap
  have hmost2' := hK'.most
  have HL := Lib.hid hI.len
  have HL2 := Lib.hid hK.len
  have HL' := Lib.hid hI'.len
  have HL2' := Lib.hid hK'.len
  have HI := Lib.hid hI
  have HK := Lib.hid hK
  have HI' := Lib.hid hI'
  have HK' := Lib.hid hK'
  have H0 := Lib.hid h0
  have H0' := Lib.hid h0'
  have IH := Lib.hid ih
  clear ih hI hK hI' hK' h0 h0'
  simp only [V.k] at hk5 hk5'
  subst hk5; subst hk5'
  have hpm : p = m := by have := M.wf_map HW.out rfl; rw [HL.out, HL2.out] at this; exact this
  have hpm' : p' = m' := by have := M.wf_map HW'.out rfl; rw [HL'.out, HL2'.out] at this; exact this
  subst hpm; subst hpm'
  have HWI : Hid (V.wfs its = true) := Lib.hid (M.wf_items HW.out)
  have HWI' : Hid (V.wfs its' = true) := Lib.hid (M.wf_items HW'.out)
  rcases Nat.lt_or_ge p' p with hle | hle
  · go_enter Tryz.func75, Tryz.ntmps75
    go_wp2_with fail
    go_loopw [15] (fun y wr => ∃ (j : Nat), y = .int .i64 j ∧ j ≤ p ∧ j ≤ p' ∧ Hid (V.cmps true its ks its' ks' = V.cmps true (its.drop j) (ks.drop j) (its'.drop j) (ks'.drop j)) ∧ Below (w.heap.size + 2) ((w.alloc (.cells #[.int .i64 5, .int .i64 n, .string s, .slice A p c, .slice B p e] 31)).alloc (.cells #[.int .i64 5, .int .i64 n', .string s', .slice A' p' c', .slice B' p' e'] 31)) wr) (fun y _ => p - (intOf y).toNat)
    case atStart => exact ⟨0, rfl, by omega, by omega, Lib.hid rfl, Below.refl _ _⟩
    case round =>
      obtain ⟨j, rfl, hj, hj', HN, hbox⟩ := hrel
      obtain ⟨⟨b0, b1, b2, b3, b4⟩, g0, g1, g2, g3, g4⟩ := two5 hbox
      by_cases hlt : j < p ∧ j < p'
      · obtain ⟨hlt, hlt'⟩ := hlt
        have HWj := Lib.hid (V.wfs_get HWI.out j (by rw [HL.out]; exact hlt))
        have HWj' := Lib.hid (V.wfs_get HWI'.out j (by rw [HL'.out]; exact hlt'))
        obtain ⟨b9, off9, rfl, c9⟩ := HK.out.item (two_below hbox) hhi hlt
        obtain ⟨b8, off8, rfl, c8⟩ := HK'.out.item (two_below hbox) hhi' hlt'
        generalize hx : ks.getD j ByteArray.empty = kx at *
        generalize hy : ks'.getD j ByteArray.empty = ky at *
        have HX := Lib.hid hx; have HY := Lib.hid hy
        clear hx hy
        obtain ⟨C, hC⟩ : ∃ C, C = Lib.compareBytes kx.data.toList ky.data.toList := ⟨_, rfl⟩
        have hsm : -1 ≤ C ∧ C ≤ 1 := by rcases M.cb_small kx.data.toList ky.data.toList with h | h | h <;> omega
        have hcs : C = if kx = ky then 0 else if Go.Op.bytesLess kx.toList ky.toList = true then -1 else 1 := by rw [hC, M.cb_spec]
        have HC := Lib.hid hC; have HCS := Lib.hid hcs
        clear hC hcs
        by_cases hxy : kx = ky
        · have hz : C = 0 := by rw [HCS.out, if_pos hxy]
          have hz1 : (C != 0) = false := by rw [hz]; rfl
          have HKEY : Hid (ks.getD j ByteArray.empty = ks'.getD j ByteArray.empty) := Lib.hid (by rw [HX.out, HY.out, hxy])
          have HXY := Lib.hid hxy
          have HZ := Lib.hid hz
          clear hxy hz
          obtain ⟨b, off, kk, ii, ss, x, y, rfl, c0, c1, c2, c3, c4, hv⟩ := HI.out.item (two_below hbox) hhi hlt
          obtain ⟨b', off', kk', ii', ss', x', y', rfl, c0', c1', c2', c3', c4', hv'⟩ := HI'.out.item (two_below hbox) hhi' hlt'
          have hbs := two_size hbox
          generalize hq : its.getD j default = q at *
          generalize hr : its'.getD j default = r at *
          have HQ := Lib.hid hq; have HR := Lib.hid hr
          clear hq hr
          go_wp2_with fail
          go_still_tail 10, (by kernel_rfl)
          change wpList _ _ _ _ _ wr.drew
          obtain ⟨wq, hwq, b3q, g3q, c0q, c1q, c2q, c3q, c4q, c0q', c1q', c2q', c3q', c4q', hvq, hvq', hboxq⟩ : ∃ wq : World, wq = wr.drew ∧ wq.cell? ⟨w.heap.size, 3, none⟩ = some (.slice (some ⟨b, off, none⟩) p c) ∧ wq.cell? ⟨w.heap.size + 1, 3, none⟩ = some (.slice (some ⟨b', off', none⟩) p' c') ∧
              wq.cell? ⟨b, off + j * 5, none⟩ = some (.int .i64 kk) ∧ wq.cell? ⟨b, off + j * 5 + 1, none⟩ = some (.int .i64 ii) ∧ wq.cell? ⟨b, off + j * 5 + 2, none⟩ = some (.string ss) ∧ wq.cell? ⟨b, off + j * 5 + 3, none⟩ = some x ∧ wq.cell? ⟨b, off + j * 5 + 4, none⟩ = some y ∧
              wq.cell? ⟨b', off' + j * 5, none⟩ = some (.int .i64 kk') ∧ wq.cell? ⟨b', off' + j * 5 + 1, none⟩ = some (.int .i64 ii') ∧ wq.cell? ⟨b', off' + j * 5 + 2, none⟩ = some (.string ss') ∧ wq.cell? ⟨b', off' + j * 5 + 3, none⟩ = some x' ∧ wq.cell? ⟨b', off' + j * 5 + 4, none⟩ = some y' ∧
              VB wq lo hi d (.agg #[.int .i64 kk, .int .i64 ii, .string ss, x, y]) q ∧ VB wq lo' hi' d' (.agg #[.int .i64 kk', .int .i64 ii', .string ss', x', y']) r ∧ Below (w.heap.size + 2) _ wq :=
            ⟨_, rfl, b3, g3, c0, c1, c2, c3, c4, c0', c1', c2', c3', c4', hv.kept (show Kept lo hi wr wr.drew from fun _ _ _ => rfl), hv'.kept (show Kept lo' hi' wr wr.drew from fun _ _ _ => rfl), below_drew hbox⟩
          rw [← hwq]
          have hbsq := two_size hboxq
          clear hwq b0 b1 b2 b3 b4 g0 g1 g2 g3 g4 c0 c1 c2 c3 c4 c0' c1' c2' c3' c4' hv hv' hbox c9 c8
          go_wp2_with fail
          refine (strCompare_any _ _ _).mono ?_
          rintro e w' ⟨rfl, rfl⟩
          rw [← HC.out]
          go_wp2_with fail
          go_still_tail 10, (by kernel_rfl)
          change wpList _ _ _ _ _ wq.drew
          go_wp2_with fail
          refine (IH.out _ _ _ _ _ _ _ _ _ _ (hvq.kept (show Kept lo hi wq wq.drew from fun _ _ _ => rfl)) (hvq'.kept (show Kept lo' hi' wq wq.drew from fun _ _ _ => rfl)) (by exact (by omega : hi ≤ wq.heap.size)) (by exact (by omega : hi' ≤ wq.heap.size)) HWj.out HWj'.out).mono ?_
          rintro e w1 ⟨rfl, hb1⟩
          have hbox' := two_step (below_drew hboxq) hb1
          clear b3q g3q c0q c1q c2q c3q c4q c0q' c1q' c2q' c3q' c4q' hvq hvq' hboxq
          have hsm2 := V.cmp_small q r
          obtain ⟨D, hD⟩ : ∃ D, D = q.cmp r := ⟨_, rfl⟩
          rw [← hD] at hsm2 ⊢
          have HD := Lib.hid hD
          clear hD
          by_cases hz2 : D = 0
          · have hz3 : (D != 0) = false := by rw [hz2]; rfl
            have HZ2 := Lib.hid hz2
            clear hz2
            go_wp2_with fail
            refine ⟨⟨j + 1, by go_num, by omega, by omega, Lib.hid (by rw [HN.out, V.cmps_next (by rw [HL.out]; omega) (by rw [HL'.out]; omega) (fun _ => HKEY.out) (by rw [HQ.out, HR.out, ← HD.out]; exact HZ2.out)]), hbox'⟩, by simp [intOf]; omega⟩
          · have hz3 : (D != 0) = true := by rw [bne_iff_ne]; exact hz2
            have HZ2 := Lib.hid hz2
            clear hz2
            go_wp2_with fail
            go_ret
            exact ⟨ret_int (by rw [HN.out, V.cmps_item (by rw [HL.out]; omega) (by rw [HL'.out]; omega) (fun _ => HKEY.out) (by rw [HQ.out, HR.out, ← HD.out]; exact HZ2.out), HQ.out, HR.out, ← HD.out]), two_below hbox'⟩
        · have hz : C ≠ 0 := by rw [HCS.out, if_neg hxy]; split <;> omega
          have hz1 : (C != 0) = true := by rw [bne_iff_ne]; exact hz
          have HXY := Lib.hid hxy
          have HZ := Lib.hid hz
          clear hxy hz
          go_wp2_with fail
          go_still_tail 10, (by kernel_rfl)
          change wpList _ _ _ _ _ wr.drew
          go_wp2_with fail
          refine (strCompare_any _ _ _).mono ?_
          rintro e w' ⟨rfl, rfl⟩
          rw [← HC.out]
          go_wp2_with fail
          go_ret
          exact ⟨ret_int (by rw [HN.out, V.cmps_key (m := true) (its := its) (its' := its') (ks := ks) (ks' := ks') (i := j) (by rw [HL.out]; omega) (by rw [HL'.out]; omega) rfl (by rw [HX.out, HY.out]; exact HXY.out), HX.out, HY.out, HCS.out, if_neg HXY.out]), below_drew (two_below hbox)⟩
      · have he := V.cmps_end (m := true) (its := its) (its' := its') (ks := ks) (ks' := ks') (i := j) (by rw [HL.out]; omega) (by rw [HL'.out]; omega) (by rw [HL.out, HL'.out]; exact hlt)
        rw [← HN.out, HL.out, HL'.out] at he
        have HE := Lib.hid he
        clear he
        have hx : ¬ j < p' := by omega
        go_wp2_with fail
        refine (intCompare_any _ _ _).mono ?_
        rintro e w' ⟨rfl, rfl⟩
        go_wp2_with fail
        go_ret
        exact ⟨ret_int (by rw [HE.out]; unfold M.icmp; by_cases a1 : p < p' <;> by_cases a2 : p' < p <;> simp [a1, a2]), two_below hbox⟩
  · go_enter Tryz.func75, Tryz.ntmps75
    go_wp2_with fail
    go_loopw [15] (fun y wr => ∃ (j : Nat), y = .int .i64 j ∧ j ≤ p ∧ j ≤ p' ∧ Hid (V.cmps true its ks its' ks' = V.cmps true (its.drop j) (ks.drop j) (its'.drop j) (ks'.drop j)) ∧ Below (w.heap.size + 2) ((w.alloc (.cells #[.int .i64 5, .int .i64 n, .string s, .slice A p c, .slice B p e] 31)).alloc (.cells #[.int .i64 5, .int .i64 n', .string s', .slice A' p' c', .slice B' p' e'] 31)) wr) (fun y _ => p - (intOf y).toNat)
    case atStart => exact ⟨0, rfl, by omega, by omega, Lib.hid rfl, Below.refl _ _⟩
    case round =>
      obtain ⟨j, rfl, hj, hj', HN, hbox⟩ := hrel
      obtain ⟨⟨b0, b1, b2, b3, b4⟩, g0, g1, g2, g3, g4⟩ := two5 hbox
      by_cases hlt : j < p ∧ j < p'
      · obtain ⟨hlt, hlt'⟩ := hlt
        have HWj := Lib.hid (V.wfs_get HWI.out j (by rw [HL.out]; exact hlt))
        have HWj' := Lib.hid (V.wfs_get HWI'.out j (by rw [HL'.out]; exact hlt'))
        obtain ⟨b9, off9, rfl, c9⟩ := HK.out.item (two_below hbox) hhi hlt
        obtain ⟨b8, off8, rfl, c8⟩ := HK'.out.item (two_below hbox) hhi' hlt'
        generalize hx : ks.getD j ByteArray.empty = kx at *
        generalize hy : ks'.getD j ByteArray.empty = ky at *
        have HX := Lib.hid hx; have HY := Lib.hid hy
        clear hx hy
        obtain ⟨C, hC⟩ : ∃ C, C = Lib.compareBytes kx.data.toList ky.data.toList := ⟨_, rfl⟩
        have hsm : -1 ≤ C ∧ C ≤ 1 := by rcases M.cb_small kx.data.toList ky.data.toList with h | h | h <;> omega
        have hcs : C = if kx = ky then 0 else if Go.Op.bytesLess kx.toList ky.toList = true then -1 else 1 := by rw [hC, M.cb_spec]
        have HC := Lib.hid hC; have HCS := Lib.hid hcs
        clear hC hcs
        by_cases hxy : kx = ky
        · have hz : C = 0 := by rw [HCS.out, if_pos hxy]
          have hz1 : (C != 0) = false := by rw [hz]; rfl
          have HKEY : Hid (ks.getD j ByteArray.empty = ks'.getD j ByteArray.empty) := Lib.hid (by rw [HX.out, HY.out, hxy])
          have HXY := Lib.hid hxy
          have HZ := Lib.hid hz
          clear hxy hz
          obtain ⟨b, off, kk, ii, ss, x, y, rfl, c0, c1, c2, c3, c4, hv⟩ := HI.out.item (two_below hbox) hhi hlt
          obtain ⟨b', off', kk', ii', ss', x', y', rfl, c0', c1', c2', c3', c4', hv'⟩ := HI'.out.item (two_below hbox) hhi' hlt'
          have hbs := two_size hbox
          generalize hq : its.getD j default = q at *
          generalize hr : its'.getD j default = r at *
          have HQ := Lib.hid hq; have HR := Lib.hid hr
          clear hq hr
          go_wp2_with fail
          go_still_tail 10, (by kernel_rfl)
          change wpList _ _ _ _ _ wr.drew
          obtain ⟨wq, hwq, b3q, g3q, c0q, c1q, c2q, c3q, c4q, c0q', c1q', c2q', c3q', c4q', hvq, hvq', hboxq⟩ : ∃ wq : World, wq = wr.drew ∧ wq.cell? ⟨w.heap.size, 3, none⟩ = some (.slice (some ⟨b, off, none⟩) p c) ∧ wq.cell? ⟨w.heap.size + 1, 3, none⟩ = some (.slice (some ⟨b', off', none⟩) p' c') ∧
              wq.cell? ⟨b, off + j * 5, none⟩ = some (.int .i64 kk) ∧ wq.cell? ⟨b, off + j * 5 + 1, none⟩ = some (.int .i64 ii) ∧ wq.cell? ⟨b, off + j * 5 + 2, none⟩ = some (.string ss) ∧ wq.cell? ⟨b, off + j * 5 + 3, none⟩ = some x ∧ wq.cell? ⟨b, off + j * 5 + 4, none⟩ = some y ∧
              wq.cell? ⟨b', off' + j * 5, none⟩ = some (.int .i64 kk') ∧ wq.cell? ⟨b', off' + j * 5 + 1, none⟩ = some (.int .i64 ii') ∧ wq.cell? ⟨b', off' + j * 5 + 2, none⟩ = some (.string ss') ∧ wq.cell? ⟨b', off' + j * 5 + 3, none⟩ = some x' ∧ wq.cell? ⟨b', off' + j * 5 + 4, none⟩ = some y' ∧
              VB wq lo hi d (.agg #[.int .i64 kk, .int .i64 ii, .string ss, x, y]) q ∧ VB wq lo' hi' d' (.agg #[.int .i64 kk', .int .i64 ii', .string ss', x', y']) r ∧ Below (w.heap.size + 2) _ wq :=
            ⟨_, rfl, b3, g3, c0, c1, c2, c3, c4, c0', c1', c2', c3', c4', hv.kept (show Kept lo hi wr wr.drew from fun _ _ _ => rfl), hv'.kept (show Kept lo' hi' wr wr.drew from fun _ _ _ => rfl), below_drew hbox⟩
          rw [← hwq]
          have hbsq := two_size hboxq
          clear hwq b0 b1 b2 b3 b4 g0 g1 g2 g3 g4 c0 c1 c2 c3 c4 c0' c1' c2' c3' c4' hv hv' hbox c9 c8
          go_wp2_with fail
          refine (strCompare_any _ _ _).mono ?_
          rintro e w' ⟨rfl, rfl⟩
          rw [← HC.out]
          go_wp2_with fail
          go_still_tail 10, (by kernel_rfl)
          change wpList _ _ _ _ _ wq.drew
          go_wp2_with fail
          refine (IH.out _ _ _ _ _ _ _ _ _ _ (hvq.kept (show Kept lo hi wq wq.drew from fun _ _ _ => rfl)) (hvq'.kept (show Kept lo' hi' wq wq.drew from fun _ _ _ => rfl)) (by exact (by omega : hi ≤ wq.heap.size)) (by exact (by omega : hi' ≤ wq.heap.size)) HWj.out HWj'.out).mono ?_
          rintro e w1 ⟨rfl, hb1⟩
          have hbox' := two_step (below_drew hboxq) hb1
          clear b3q g3q c0q c1q c2q c3q c4q c0q' c1q' c2q' c3q' c4q' hvq hvq' hboxq
          have hsm2 := V.cmp_small q r
          obtain ⟨D, hD⟩ : ∃ D, D = q.cmp r := ⟨_, rfl⟩
          rw [← hD] at hsm2 ⊢
          have HD := Lib.hid hD
          clear hD
          by_cases hz2 : D = 0
          · have hz3 : (D != 0) = false := by rw [hz2]; rfl
            have HZ2 := Lib.hid hz2
            clear hz2
            go_wp2_with fail
            refine ⟨⟨j + 1, by go_num, by omega, by omega, Lib.hid (by rw [HN.out, V.cmps_next (by rw [HL.out]; omega) (by rw [HL'.out]; omega) (fun _ => HKEY.out) (by rw [HQ.out, HR.out, ← HD.out]; exact HZ2.out)]), hbox'⟩, by simp [intOf]; omega⟩
          · have hz3 : (D != 0) = true := by rw [bne_iff_ne]; exact hz2
            have HZ2 := Lib.hid hz2
            clear hz2
            go_wp2_with fail
            go_ret
            exact ⟨ret_int (by rw [HN.out, V.cmps_item (by rw [HL.out]; omega) (by rw [HL'.out]; omega) (fun _ => HKEY.out) (by rw [HQ.out, HR.out, ← HD.out]; exact HZ2.out), HQ.out, HR.out, ← HD.out]), two_below hbox'⟩
        · have hz : C ≠ 0 := by rw [HCS.out, if_neg hxy]; split <;> omega
          have hz1 : (C != 0) = true := by rw [bne_iff_ne]; exact hz
          have HXY := Lib.hid hxy
          have HZ := Lib.hid hz
          clear hxy hz
          go_wp2_with fail
          go_still_tail 10, (by kernel_rfl)
          change wpList _ _ _ _ _ wr.drew
          go_wp2_with fail
          refine (strCompare_any _ _ _).mono ?_
          rintro e w' ⟨rfl, rfl⟩
          rw [← HC.out]
          go_wp2_with fail
          go_ret
          exact ⟨ret_int (by rw [HN.out, V.cmps_key (m := true) (its := its) (its' := its') (ks := ks) (ks' := ks') (i := j) (by rw [HL.out]; omega) (by rw [HL'.out]; omega) rfl (by rw [HX.out, HY.out]; exact HXY.out), HX.out, HY.out, HCS.out, if_neg HXY.out]), below_drew (two_below hbox)⟩
      · have he := V.cmps_end (m := true) (its := its) (its' := its') (ks := ks) (ks' := ks') (i := j) (by rw [HL.out]; omega) (by rw [HL'.out]; omega) (by rw [HL.out, HL'.out]; exact hlt)
        rw [← HN.out, HL.out, HL'.out] at he
        have HE := Lib.hid he
        clear he
        have hx : ¬ j < p := by omega
        go_wp2_with fail
        refine (intCompare_any _ _ _).mono ?_
        rintro e w' ⟨rfl, rfl⟩
        go_wp2_with fail
        go_ret
        exact ⟨ret_int (by rw [HE.out]; unfold M.icmp; by_cases a1 : p < p' <;> by_cases a2 : p' < p <;> simp [a1, a2]), two_below hbox⟩

set_option maxRecDepth 100000 in
set_option maxHeartbeats 4000000 in
theorem cmp_step (d : Nat) (ih : cmpAt d) : cmpAt (d + 1) := by
  intro v v' t t' lo hi lo' hi' d' w h h' hhi hhi' hw hw'
  match d', h' with
  | 0, h' => exact h'.elim
  | d' + 1, h' =>
  obtain ⟨k, n, s, its, ks⟩ := t
  obtain ⟨k', n', s', its', ks'⟩ := t'
  have h0 := h
  have h0' := h'
  obtain ⟨A, m, c, B, p, e, rfl, k1, k2, n1, n2, s1, hI, hK⟩ := h
  obtain ⟨A', m', c', B', p', e', rfl, k1', k2', n1', n2', s1', hI', hK'⟩ := h'
  simp only [V.k, V.n, V.s, V.its, V.ks] at hI hK hI' hK' k1 k2 n1 n2 s1 k1' k2' n1' n2' s1' h0 h0' ⊢
  have HW := Lib.hid hw
  have HW' := Lib.hid hw'
  clear hw hw'
  have hcap := hI.cap
  have hmost := hI.most
  have hcap2 := hK.cap
  have hmost2 := hK.most
  have hcap' := hI'.cap
  have hmost' := hI'.most
  have hcap2' := hK'.cap
  have hmost2' := hK'.most
  have HL := Lib.hid hI.len
  have HL2 := Lib.hid hK.len
  have HL' := Lib.hid hI'.len
  have HL2' := Lib.hid hK'.len
  have HI := Lib.hid hI
  have HK := Lib.hid hK
  have HI' := Lib.hid hI'
  have HK' := Lib.hid hK'
  have H0 := Lib.hid h0
  have H0' := Lib.hid h0'
  have IH := Lib.hid ih
  clear ih hI hK hI' hK' h0 h0'
  have HP := Lib.hid (pairs_any IH.out)
  have hb0 : Below (w.heap.size + 2) ((w.alloc (.cells #[.int .i64 k, .int .i64 n, .string s, .slice A m c, .slice B p e] 31)).alloc (.cells #[.int .i64 k', .int .i64 n', .string s', .slice A' m' c', .slice B' p' e'] 31)) _ := Below.refl _ _
  obtain ⟨⟨b0, b1, b2, b3, b4⟩, g0, g1, g2, g3, g4⟩ := two5 hb0
  have hz := two_size hb0
  by_cases hk : k = k'
  case neg =>
    have hb : (k != k') = true := by rw [bne_iff_ne]; exact hk
    have HN := Lib.hid hk
    clear hk
    go_enter Tryz.func47, Tryz.ntmps47
    go_wp2_with fail
    refine (intCompare_any _ _ _).mono ?_
    rintro e w' ⟨rfl, rfl⟩
    go_wp2_with fail
    go_ret
    exact ⟨ret_int (by
      rw [V.cmp_kind HN.out]
      have := HN.out
      unfold M.icmp
      by_cases a1 : k < k'
      · rw [if_pos a1, if_pos a1]
      · rw [if_neg a1, if_neg a1, if_pos (by omega)]), two_below hb0⟩
  subst hk
  have hb : (k != k) = false := by simp
  by_cases k3 : k = 3
  · subst k3
    have HE := Lib.hid (V.cmp_text3 HW.out HW'.out)
    go_enter Tryz.func47, Tryz.ntmps47
    go_wp2_with fail
    refine (strCompare_any _ _ _).mono ?_
    rintro e w' ⟨rfl, rfl⟩
    go_wp2_with fail
    go_ret
    exact ⟨ret_int HE.out.symm, two_below hb0⟩
  by_cases k4 : k = 4
  · subst k4
    have HE := Lib.hid (V.cmp_list4 HW.out HW'.out)
    go_enter Tryz.func47, Tryz.ntmps47
    go_wp2_with fail
    refine (itemsCompare_any IH.out (HI.out.later (two_below hb0) hhi) (HI'.out.later (two_below hb0) hhi') (by omega) (by omega) ks ks' (M.wf_items HW.out) (M.wf_items HW'.out)).mono ?_
    rintro e w1 ⟨rfl, hb1⟩
    go_wp2_with fail
    go_ret
    exact ⟨ret_int HE.out.symm, two_below (two_step hb0 hb1)⟩
  by_cases k5 : k = 5
  · subst k5
    have HE := Lib.hid (V.cmp_map5 HW.out HW'.out)
    go_enter Tryz.func47, Tryz.ntmps47
    go_wp2_with fail
    refine (HP.out _ _ _ _ _ _ _ _ _ _ (H0.out.later (two_below hb0) hhi) (H0'.out.later (two_below hb0) hhi') (by omega) (by omega) HW.out HW'.out rfl rfl).mono ?_
    rintro e w1 ⟨rfl, hb1⟩
    go_wp2_with fail
    go_ret
    exact ⟨ret_int HE.out.symm, two_below (two_step hb0 hb1)⟩
  · have HE := Lib.hid (V.cmp_plain HW.out HW'.out k3 k4 k5)
    have e3 : (k == 3) = false := by rw [beq_eq_false_iff_ne]; exact k3
    have e4 : (k == 4) = false := by rw [beq_eq_false_iff_ne]; exact k4
    have e5 : (k == 5) = false := by rw [beq_eq_false_iff_ne]; exact k5
    clear k3 k4 k5
    go_enter Tryz.func47, Tryz.ntmps47
    go_wp2_with fail
    refine (intCompare_any _ _ _).mono ?_
    rintro e w' ⟨rfl, rfl⟩
    go_wp2_with fail
    go_ret
    exact ⟨ret_int HE.out.symm, two_below hb0⟩

theorem cmp_at : ∀ d, cmpAt d
  | 0 => fun _ _ _ _ _ _ _ _ _ _ h _ _ _ _ _ => h.elim
  | d + 1 => cmp_step d (cmp_at d)
theorem cmpX {v v' : Value} {t t' : V} {lo hi lo' hi' : Nat} {w : World} (h : VX w lo hi v t) (h' : VX w lo' hi' v' t') (hhi : hi ≤ w.heap.size) (hhi' : hi' ≤ w.heap.size) (hw : t.wf = true) (hw' : t'.wf = true) :
    Calls Tryz.prog 47 #[v, v'] w fun e w' => e = .returned (.int .i64 (V.cmp t t')) ∧ Below w.heap.size w w' := by
  obtain ⟨d, h⟩ := h
  obtain ⟨d', h'⟩ := h'
  exact cmp_at d v v' t t' lo hi lo' hi' d' w h h' hhi hhi' hw hw'

set_option maxRecDepth 100000 in
set_option maxHeartbeats 1000000 in
theorem orderX {v v' : Value} {t t' : V} {lo hi lo' hi' : Nat} {w : World} (h : VX w lo hi v t) (h' : VX w lo' hi' v' t') (hhi : hi ≤ w.heap.size) (hhi' : hi' ≤ w.heap.size) :
    Calls Tryz.prog 24 #[v, v'] w fun e w' => e = .returned (.int .i64 (V.ord t t')) ∧ Below w.heap.size w w' := by
  obtain ⟨A, m, c, B, p, e, rfl⟩ := h.form
  obtain ⟨A', m', c', B', p', e', rfl⟩ := h'.form
  have hb0 : Below (w.heap.size + 2) ((w.alloc (.cells #[.int .i64 t.k, .int .i64 t.n, .string t.s, .slice A m c, .slice B p e] 31)).alloc (.cells #[.int .i64 t'.k, .int .i64 t'.n, .string t'.s, .slice A' m' c', .slice B' p' e'] 31)) _ := Below.refl _ _
  obtain ⟨⟨b0, b1, b2, b3, b4⟩, g0, g1, g2, g3, g4⟩ := two5 hb0
  have h1 := h.later (two_below hb0) hhi
  have hz := two_size hb0
  cases hw : t.wf with
  | false =>
    have hO : V.ord t t' = 0 := by unfold V.ord; rw [hw]; simp
    have HW := Lib.hid hw; have HO := Lib.hid hO
    clear hw hO
    go_enter Tryz.func24, Tryz.ntmps24
    go_wp2_with fail
    refine (wfX h1 (by omega)).mono ?_
    rintro e w1 ⟨rfl, hb1⟩
    rw [HW.out]
    go_wp2_with fail
    go_ret
    exact ⟨ret_int HO.out.symm, two_below (two_step hb0 hb1)⟩
  | true =>
    cases hw' : t'.wf
    all_goals
      have hO : V.ord t t' = if t'.wf = true then V.cmp t t' else 0 := by unfold V.ord; rw [hw]; simp
      rw [hw'] at hO
      have HW := Lib.hid hw; have HO := Lib.hid hO; have HW' := Lib.hid hw'
      clear hw hO hw'
      go_enter Tryz.func24, Tryz.ntmps24
      go_wp2_with fail
      refine (wfX h1 (by omega)).mono ?_
      rintro e w1 ⟨rfl, hb1⟩
      rw [HW.out]
      have hb2 := two_step hb0 hb1
      clear b0 b1 b2 b3 b4 g0 g1 g2 g3 g4
      obtain ⟨⟨b0, b1, b2, b3, b4⟩, g0, g1, g2, g3, g4⟩ := two5 hb2
      have h2 := h'.later (two_below hb2) hhi'
      have hz2 := two_size hb2
      go_wp2_with fail
      refine (wfX h2 (by omega)).mono ?_
      rintro e w2 ⟨rfl, hb3⟩
      rw [HW'.out]
      have hb4 := two_step hb2 hb3
      clear b0 b1 b2 b3 b4 g0 g1 g2 g3 g4
      obtain ⟨⟨b0, b1, b2, b3, b4⟩, g0, g1, g2, g3, g4⟩ := two5 hb4
      have hz4 := two_size hb4
    · go_wp2_with fail
      go_ret
      exact ⟨ret_int HO.out.symm, two_below hb4⟩
    · go_wp2_with fail
      refine (cmpX (h.later (two_below hb4) hhi) (h'.later (two_below hb4) hhi') (by omega) (by omega) HW.out HW'.out).mono ?_
      rintro e w3 ⟨rfl, hb5⟩
      go_wp2_with fail
      go_ret
      exact ⟨ret_int HO.out.symm, two_below (two_step hb4 hb5)⟩
end Go.Proofs.YtkodmhopollnpaaGreat
