/-
  Layer 2: the reference's Map.
-/
import Derived.Test.YtfcbieiefdbbpaaVRefH
import Derived.Test.YtfcbieiefdbbpaaVRefI
import Derived.Test.YtfcbieiefdbbpaaVRefC
import Derived.Test.YtfcbieiefdbbpaaVMapX
import Derived.Deep.RegionHeld3
import Derived.StillTailTactics
namespace Go.Proofs.Ytfcbieiefdbbpaa
set_option linter.unusedVariables false
open Go.RowKit
open M (V)

theorem szs_perm {l l' : List V} (h : l.Perm l') : V.szs l = V.szs l' := by
  induction h with
  | nil => rfl
  | cons x _ ih => simp only [V.szs, ih]
  | swap x y l => simp only [V.szs]; omega
  | trans _ _ ih1 ih2 => exact ih1.trans ih2
theorem perm_fst {oks ks : List ByteArray} {oits its : List V} (h : (oks.zip oits).Perm (ks.zip its)) (h1 : oks.length = oits.length) (h2 : ks.length = its.length) : oks.Perm ks ∧ oits.Perm its := by
  have e1 := h.map Prod.fst
  have e2 := h.map Prod.snd
  rw [List.map_fst_zip (by omega), List.map_fst_zip (by omega)] at e1
  rw [List.map_snd_zip (by omega), List.map_snd_zip (by omega)] at e2
  exact ⟨e1, e2⟩
theorem alloc_lt2 {W : World} (o : Obj) : W.heap.size < (W.alloc o).heap.size := by simp
set_option maxRecDepth 100000 in
set_option maxHeartbeats 4000000 in
theorem rmap_any {d : Nat} {A B : Option Addr} {n c e0 lo hi lo' hi' : Nat} {ks : List ByteArray} {its : List V} {w : World} (h : KS w lo hi A n c ks) (hhi : hi ≤ w.heap.size) (h' : IS w lo' hi' (VB w lo' hi' d) B n e0 its) (hhi' : hi' ≤ w.heap.size) (hn : n ≤ 1000) (hsz : V.szs its ≤ 10000) :
    Calls Try.prog 9 #[.slice A n c, .slice B n e0] w (NewRM ks its w) := by
  have HK := Lib.hid h; have HI := Lib.hid h'
  have HL := Lib.hid h.len; have HL' := Lib.hid h'.len
  have hcap := h.cap
  have hmost := h.most
  have hcap' := h'.cap
  have hmost' := h'.most
  have HSZ := Lib.hid hsz
  clear h h' hsz
  have hb0 : Below (w.heap.size + 2) ((w.alloc (.cells #[.int .i64 0, .int .i64 0, .string ⟨#[]⟩, .slice none 0 0, .slice none 0 0] 26)).alloc (.cells #[.int .i64 5, .int .i64 0, .string ⟨#[]⟩, .slice none 0 0, .slice none 0 0] 26)) _ := Below.refl _ _
  obtain ⟨q0, q1⟩ := two_heap hb0 (Nat.le_refl _)
  have hbw := two_below hb0
  have hz := two_size hb0
  have Q0 := Lib.hid q0; have Q1 := Lib.hid q1
  clear q0 q1 hb0
  go_enter Try.func9, Try.ntmps9
  go_wp2_with fail
  generalize ((w.alloc (.cells #[.int .i64 0, .int .i64 0, .string ⟨#[]⟩, .slice none 0 0, .slice none 0 0] 26)).alloc (.cells #[.int .i64 5, .int .i64 0, .string ⟨#[]⟩, .slice none 0 0, .slice none 0 0] 26)) = w2 at *
  go_loopw [7] (fun y wr => ∃ (j m : Nat) (oks : List ByteArray) (oits : List V) (A3 B3 : Option Addr) (c3 e3 : Nat), y = .int .i64 j ∧ j ≤ n ∧ Hid (m = j) ∧ Hid (M.Rise oks) ∧ Hid (oks.length = m) ∧ Hid (oits.length = m) ∧ Hid ((oks.zip oits).Perm ((ks.take j).zip (its.take j))) ∧
      Hid (wr.heap[w.heap.size]? = some (.cells #[.int .i64 0, .int .i64 0, .string ByteArray.empty, .slice none 0 0, .slice none 0 0] 26 (0, 0))) ∧ Hid (wr.heap[w.heap.size + 1]? = some (.cells #[.int .i64 5, .int .i64 0, .string ByteArray.empty, .slice A3 m c3, .slice B3 m e3] 26 (0, 0))) ∧
      Hid (IS wr (w.heap.size + 2) wr.heap.size (VB wr lo' hi' d) A3 m c3 oits) ∧ Hid (KS wr (w.heap.size + 2) wr.heap.size B3 m e3 oks) ∧ Below w.heap.size w wr ∧ w.heap.size + 2 ≤ wr.heap.size) (fun y _ => n - (intOf y).toNat)
  case atStart => exact ⟨0, 0, [], [], none, none, 0, 0, rfl, by omega, Lib.hid rfl, Lib.hid (fun i hi => absurd hi (by simp)), Lib.hid rfl, Lib.hid rfl, Lib.hid (by simp), Q0, Q1, Lib.hid (IS.nil_ _ _ _ _), Lib.hid (KS.nil_ _ _ _), hbw, hz⟩
  case round =>
    clear Q0 Q1 hbw hz
    obtain ⟨j, m, oks, oits, A3, B3, c3, e3, rfl, hj, HMJ, HR, HLK, HLI, HPM, H0, H1, HIS, HKS, hb, hzr⟩ := hrel
    have hmj : m ≤ n := by have := HMJ.out; omega
    by_cases hlt : j < n
    · obtain ⟨b9, off9, rfl, c9⟩ := HK.out.item hb hhi hlt
      have hbb9 : b9 < w.heap.size := by
        obtain ⟨b', off', e, q1, q2, _⟩ := HK.out.at_ (by omega)
        injection e with e; injection e with e; omega
      generalize hkj : ks.getD j ByteArray.empty = kj at *
      have HKJ := Lib.hid hkj
      clear hkj
      obtain ⟨g0, g1, g2, g3, g4, -⟩ := lit5 H1.out
      have hvb : VB wr 0 wr.heap.size (d + 1) (.agg #[.int .i64 5, .int .i64 0, .string ByteArray.empty, .slice A3 m c3, .slice B3 m e3]) (.mk 5 0 ByteArray.empty oits oks) :=
        ⟨A3, m, c3, B3, m, e3, rfl, by simp [V.k], by simp [V.k], by simp [V.n], by simp [V.n], by simp [V.s], HIS.out.weak (Nat.zero_le _) (Nat.le_refl _) (fun _ _ r => r.weak (Nat.zero_le _) (by omega)), HKS.out.weak (Nat.zero_le _) (Nat.le_refl _)⟩
      have HVB := Lib.hid hvb
      clear hvb
      have HS : Hid (∀ W, Below wr.heap.size wr W → (W.cell? ⟨w.heap.size + 1, 0, none⟩ = some (.int .i64 5) ∧ W.cell? ⟨w.heap.size + 1, 1, none⟩ = some (.int .i64 0) ∧ W.cell? ⟨w.heap.size + 1, 2, none⟩ = some (.string ByteArray.empty) ∧ W.cell? ⟨w.heap.size + 1, 3, none⟩ = some (.slice A3 m c3) ∧ W.cell? ⟨w.heap.size + 1, 4, none⟩ = some (.slice B3 m e3)) ∧ W.cell? ⟨b9, off9 + j, none⟩ = some (.string kj)) := Lib.hid (fun W hW => by
        obtain ⟨x0, x1, x2, x3, x4, -⟩ := lit5 ((hW.block _ (by omega)).trans H1.out)
        exact ⟨⟨x0, x1, x2, x3, x4⟩, (hW.cell (p := ⟨b9, off9 + j, none⟩) (by show b9 < _; omega)).trans c9⟩)
      cases hlk : M.lookup kj oks oits with
      | some tx =>
        have HLKP := Lib.hid hlk
        clear hlk
        have hdup : ¬ ks.Nodup := by
          have h1 := M.lookup_mem HLKP.out
          have h2 := (perm_fst HPM.out (HLK.out.trans HLI.out.symm) (by simp [HL.out, HL'.out])).1
          exact M.dup_of_mem (by rw [HL.out]; exact hlt) (by rw [HKJ.out]; exact h2.mem_iff.1 h1)
        have HD := Lib.hid hdup
        clear hdup
        go_wp2_with fail
        go_region_held3 (fun W => (W.cell? ⟨w.heap.size + 1, 0, none⟩ = some (.int .i64 5) ∧ W.cell? ⟨w.heap.size + 1, 1, none⟩ = some (.int .i64 0) ∧ W.cell? ⟨w.heap.size + 1, 2, none⟩ = some (.string ByteArray.empty) ∧ W.cell? ⟨w.heap.size + 1, 3, none⟩ = some (.slice A3 m c3) ∧ W.cell? ⟨w.heap.size + 1, 4, none⟩ = some (.slice B3 m e3)) ∧ W.cell? ⟨b9, off9 + j, none⟩ = some (.string kj))
          (first
            | exact HS.out _ hb4'
            | exact HS.out _ (hb4'.alloc hb4'.size _)
            | exact HS.out _ (stored_below hb4' (Nat.le_refl _) _ _ _ _ _)
            | exact HS.out _ (stored_below (hb4'.alloc hb4'.size _) hb4'.size _ _ _ _ _)
            | exact HS.out _ (below_drew (Below.refl _ _))
            | exact HS.out _ ((below_drew (Below.refl _ _)).alloc (Nat.le_refl _) _)
            | exact HS.out _ (Below.refl _ _))
          (first
            | (go_at_call 44; refine (rget_any (t := .mk 5 0 ByteArray.empty oits oks) (HVB.out.kept (show Kept 0 wr.heap.size wr wr.drew from fun _ _ _ => rfl)) (Nat.le_refl _) (HLK.out.trans HLI.out.symm)).mono ?_; rintro e w4 ⟨hs, hn, hb4⟩; obtain ⟨vx, rfl, hvx⟩ := hs _ HLKP.out; obtain ⟨A2, m2, c2, B2, p2, e2, rfl⟩ := hvx.form; clear hs hn; have hb4' := (below_drew (Below.refl wr.heap.size wr)).trans hb4)
            | (go_at_call 44; refine (rget_any (t := .mk 5 0 ByteArray.empty oits oks) (HVB.out.kept (show Kept 0 wr.heap.size wr (wr.drew.alloc _) from fun b _ h2 => Below.heap_alloc wr.drew _ b h2)) (Nat.le_of_lt (alloc_lt2 _)) (HLK.out.trans HLI.out.symm)).mono ?_; rintro e w4 ⟨hs, hn, hb4⟩; obtain ⟨vx, rfl, hvx⟩ := hs _ HLKP.out; obtain ⟨A2, m2, c2, B2, p2, e2, rfl⟩ := hvx.form; clear hs hn; have hb4' := ((below_drew (Below.refl wr.heap.size wr)).alloc (Nat.le_refl _) _).trans (hb4.mono (Nat.le_of_lt (alloc_lt2 _))); have hq : w4.heap[wr.heap.size]? = _ := (hb4.block _ (alloc_lt2 _)).trans (heap_alloc_new wr.drew _); obtain ⟨n0, n1, n2, n3, n4, z0, z1, z2, z3, z4⟩ := lit5 hq; clear hq))
        · have hbX := hb4'.alloc hb4'.size (.cells #[.int .i64 tx.k, .int .i64 tx.n, .string tx.s, .slice A2 m2 c2, .slice B2 p2 e2] 26)
          generalize (w4.alloc (.cells #[.int .i64 tx.k, .int .i64 tx.n, .string tx.s, .slice A2 m2 c2, .slice B2 p2 e2] 26)) = wx at *
          have hq0 : wx.heap[w.heap.size]? = _ := (hbX.block _ (by omega)).trans H0.out
          have hbwx := hb.trans (hbX.mono (by omega))
          obtain ⟨n0', n1', n2', n3', n4', z0', z1', z2', z3', z4'⟩ := lit5 hq0
          have HQ0 := Lib.hid hq0
          clear hq0 g0 g1 g2 g3 g4
          go_wp2_with fail
          have hfin := lit_stored HQ0.out (.int .i64 0) (.int .i64 0) (.string ByteArray.empty) (.slice none 0 0) (.slice none 0 0)
          refine bodyPost_ret (v := .tuple #[.agg #[.int .i64 0, .int .i64 0, .string ByteArray.empty, .slice none 0 0, .slice none 0 0], .int .i64 9]) (results_cell_slot Try.results9 _ _ w.heap.size 26 _ (0, 0) _ rfl hfin (by kernel_rfl) rfl) rfl ?_
          exact ⟨.inl ⟨HD.out, rfl⟩, stored_below hbwx (Nat.le_refl _) _ _ _ _ _⟩
        · have hbX := stored_below hb4' (Nat.le_refl _) (.int .i64 tx.k) (.int .i64 tx.n) (.string tx.s) (.slice A2 m2 c2) (.slice B2 p2 e2)
          change Exit.then _ _ _ _ (stored w4 wr.heap.size (.int .i64 tx.k) (.int .i64 tx.n) (.string tx.s) (.slice A2 m2 c2) (.slice B2 p2 e2))
          generalize (stored w4 wr.heap.size (.int .i64 tx.k) (.int .i64 tx.n) (.string tx.s) (.slice A2 m2 c2) (.slice B2 p2 e2)) = wx at *
          have hq0 : wx.heap[w.heap.size]? = _ := (hbX.block _ (by omega)).trans H0.out
          have hbwx := hb.trans (hbX.mono (by omega))
          obtain ⟨n0', n1', n2', n3', n4', z0', z1', z2', z3', z4'⟩ := lit5 hq0
          have HQ0 := Lib.hid hq0
          clear hq0 g0 g1 g2 g3 g4
          go_wp2_with fail
          have hfin := lit_stored HQ0.out (.int .i64 0) (.int .i64 0) (.string ByteArray.empty) (.slice none 0 0) (.slice none 0 0)
          refine bodyPost_ret (v := .tuple #[.agg #[.int .i64 0, .int .i64 0, .string ByteArray.empty, .slice none 0 0, .slice none 0 0], .int .i64 9]) (results_cell_slot Try.results9 _ _ w.heap.size 26 _ (0, 0) _ rfl hfin (by kernel_rfl) rfl) rfl ?_
          exact ⟨.inl ⟨HD.out, rfl⟩, stored_below hbwx (Nat.le_refl _) _ _ _ _ _⟩
      | none =>
        have HLKP := Lib.hid hlk
        clear hlk
        go_wp2_with fail
        go_region_held3 (fun W => (W.cell? ⟨w.heap.size + 1, 0, none⟩ = some (.int .i64 5) ∧ W.cell? ⟨w.heap.size + 1, 1, none⟩ = some (.int .i64 0) ∧ W.cell? ⟨w.heap.size + 1, 2, none⟩ = some (.string ByteArray.empty) ∧ W.cell? ⟨w.heap.size + 1, 3, none⟩ = some (.slice A3 m c3) ∧ W.cell? ⟨w.heap.size + 1, 4, none⟩ = some (.slice B3 m e3)) ∧ W.cell? ⟨b9, off9 + j, none⟩ = some (.string kj))
          (first
            | exact HS.out _ hb4'
            | exact HS.out _ (hb4'.alloc hb4'.size _)
            | exact HS.out _ (stored_below hb4' (Nat.le_refl _) _ _ _ _ _)
            | exact HS.out _ (stored_below (hb4'.alloc hb4'.size _) hb4'.size _ _ _ _ _)
            | exact HS.out _ (below_drew (Below.refl _ _))
            | exact HS.out _ ((below_drew (Below.refl _ _)).alloc (Nat.le_refl _) _)
            | exact HS.out _ (Below.refl _ _))
          (first
            | (go_at_call 44; refine (rget_any (t := .mk 5 0 ByteArray.empty oits oks) (HVB.out.kept (show Kept 0 wr.heap.size wr wr.drew from fun _ _ _ => rfl)) (Nat.le_refl _) (HLK.out.trans HLI.out.symm)).mono ?_; rintro e w4 ⟨hs, hn, hb4⟩; obtain rfl := hn HLKP.out; clear hs hn; have hb4' := (below_drew (Below.refl wr.heap.size wr)).trans hb4)
            | (go_at_call 44; refine (rget_any (t := .mk 5 0 ByteArray.empty oits oks) (HVB.out.kept (show Kept 0 wr.heap.size wr (wr.drew.alloc _) from fun b _ h2 => Below.heap_alloc wr.drew _ b h2)) (Nat.le_of_lt (alloc_lt2 _)) (HLK.out.trans HLI.out.symm)).mono ?_; rintro e w4 ⟨hs, hn, hb4⟩; obtain rfl := hn HLKP.out; clear hs hn; have hb4' := ((below_drew (Below.refl wr.heap.size wr)).alloc (Nat.le_refl _) _).trans (hb4.mono (Nat.le_of_lt (alloc_lt2 _))); have hq : w4.heap[wr.heap.size]? = _ := (hb4.block _ (alloc_lt2 _)).trans (heap_alloc_new wr.drew _); obtain ⟨n0, n1, n2, n3, n4, z0, z1, z2, z3, z4⟩ := lit5 hq; clear hq))
        · have hbX := hb4'.alloc hb4'.size (.cells #[.int .i64 0, .int .i64 0, .string ByteArray.empty, .slice none 0 0, .slice none 0 0] 26)
          generalize (w4.alloc (.cells #[.int .i64 0, .int .i64 0, .string ByteArray.empty, .slice none 0 0, .slice none 0 0] 26)) = wx at *
          obtain ⟨i, f, hp⟩ := M.place_ex oks HR.out kj
          have hf : f = false := by
            cases hf : f with
            | false => rfl
            | true =>
              have h1 := hp.at_.1 hf
              have h2 := M.lookup_not (HLK.out.trans HLI.out.symm) HLKP.out
              refine absurd ?_ h2
              rw [← h1.2]
              rw [show oks.getD i ByteArray.empty = oks[i]'h1.1 by simp [List.getD, h1.1]]
              exact List.getElem_mem _
          subst hf
          have hil := hp.le
          have HP := Lib.hid hp; have HIL := Lib.hid hil
          clear hp hil
          have hbwx := hb.trans (hbX.mono (by omega))
          have hzx := hbX.size
          have c9x : wx.cell? ⟨b9, off9 + j, none⟩ = some (.string kj) := (hbX.cell (p := ⟨b9, off9 + j, none⟩) (by show b9 < _; omega)).trans c9
          obtain ⟨bi, offi, kk, ii, ss, x', y', rfl, hbbi, z0', z1', z2', z3', z4', hvi⟩ := HI.out.item2 hlt
          obtain ⟨a7, n7, c7, b7, m7, u7, rfl, rfl⟩ := hvi.cells
          have i0 := (hbwx.cell (p := ⟨bi, offi + j * 5, none⟩) (by show bi < _; omega)).trans z0'
          have i1 := (hbwx.cell (p := ⟨bi, offi + j * 5 + 1, none⟩) (by show bi < _; omega)).trans z1'
          have i2 := (hbwx.cell (p := ⟨bi, offi + j * 5 + 2, none⟩) (by show bi < _; omega)).trans z2'
          have i3 := (hbwx.cell (p := ⟨bi, offi + j * 5 + 3, none⟩) (by show bi < _; omega)).trans z3'
          have i4 := (hbwx.cell (p := ⟨bi, offi + j * 5 + 4, none⟩) (by show bi < _; omega)).trans z4'
          have H0x := Lib.hid ((hbX.block w.heap.size (by omega)).trans H0.out)
          have H1x := Lib.hid ((hbX.block (w.heap.size + 1) (by omega)).trans H1.out)
          clear g0 g1 g2 g3 g4 c9 z0' z1' z2' z3' z4'
          obtain ⟨g0, g1, g2, g3, g4, -⟩ := lit5 H1x.out
          generalize htj : its.getD j default = tj at *
          have HTJ := Lib.hid htj
          have HVI := Lib.hid hvi
          clear htj hvi
          go_wp2_with fail
          go_still_tail 9, (by kernel_rfl)
          change wpList _ _ _ _ _ wx.drew
          have hbY : Below wr.heap.size wr wx.drew := below_drew hbX
          have hbwy : Below w.heap.size w wx.drew := below_drew hbwx
          have H0y : Hid (wx.drew.heap[w.heap.size]? = _) := H0x
          have H1y : Hid (wx.drew.heap[w.heap.size + 1]? = _) := H1x
          have hzy : wr.heap.size ≤ wx.drew.heap.size := hzx
          generalize wx.drew = wy at *
          go_wp2_with fail
          refine (rWith_any (t := .mk 5 0 ByteArray.empty oits oks) (hi := wr.heap.size) ((HIS.out.kept (Kept.of_below hbY (Nat.le_refl _)) (fun _ _ r => r.kept (Kept.of_below hbY (by omega))))) (HKS.out.later hbY (Nat.le_refl _)) hzy (HVI.out.later hbwy hhi') (by omega) HR.out HP.out (.inr ⟨rfl, rfl⟩) (by show oits.length ≤ _; rw [HLI.out]; omega) (by rw [← HKJ.out]; exact HK.out.size j hlt)).mono ?_
          rintro e w5 ⟨A5, c5, B5, e5, m5, rfl, his5, hks5, hb5⟩
          have hz5 := hb5.size
          have hq1 : w5.heap[w.heap.size + 1]? = _ := (hb5.block _ (by omega)).trans H1y.out
          have H05 : Hid (w5.heap[w.heap.size]? = _) := Lib.hid ((hb5.block _ (by omega)).trans H0y.out)
          obtain ⟨y0, y1, y2, y3, y4, f0, f1, f2, f3, f4⟩ := lit5 hq1
          have HQ1 := Lib.hid hq1; have HIS5 := Lib.hid his5; have HKS5 := Lib.hid hks5
          clear hq1 his5 hks5 g0 g1 g2 g3 g4 i0 i1 i2 i3 i4 c9x
          go_wp2_with fail
          have hfin := lit_stored HQ1.out (.int .i64 5) (.int .i64 0) (.string ByteArray.empty) (.slice A5 m5 c5) (.slice B5 m5 e5)
          have hko : ∀ k, k ≠ w.heap.size + 1 → (stored w5 (w.heap.size + 1) (.int .i64 5) (.int .i64 0) (.string ByteArray.empty) (.slice A5 m5 c5) (.slice B5 m5 e5)).heap[k]? = w5.heap[k]? := fun k hk => stored_other _ _ _ _ _ _ _ _ hk
          have hbF : Below w.heap.size w (stored w5 (w.heap.size + 1) (.int .i64 5) (.int .i64 0) (.string ByteArray.empty) (.slice A5 m5 c5) (.slice B5 m5 e5)) := stored_below (hbwy.trans (hb5.mono (by omega))) (by omega) _ _ _ _ _
          have hsF := stored_size w5 (w.heap.size + 1) (.int .i64 5) (.int .i64 0) (.string ByteArray.empty) (.slice A5 m5 c5) (.slice B5 m5 e5)
          change (∃ (j m : Nat) (oks : List ByteArray) (oits : List V) (A3 B3 : Option Addr) (c3 e3 : Nat), _) ∧ _
          have hm5 : m5 = m + 1 := by rw [← HIS5.out.len]; show (M.putAt oits i i tj).length = _; rw [M.put_len (by rw [HLI.out, ← HLK.out]; exact HIL.out), HLI.out]
          refine ⟨⟨j + 1, m5, M.putAt oks i i kj, M.putAt oits i i tj, A5, B5, c5, e5, by go_num, by omega, Lib.hid (by rw [hm5, HMJ.out]), Lib.hid (M.put_rise HR.out HP.out), Lib.hid HKS5.out.len, Lib.hid HIS5.out.len, Lib.hid ?_, Lib.hid ((hko _ (by omega)).trans H05.out), Lib.hid hfin, Lib.hid ?_, Lib.hid ?_, hbF, Nat.le_trans (show w.heap.size + 2 ≤ w5.heap.size by omega) (Nat.le_of_eq hsF.symm)⟩, by simp [intOf]; omega⟩
          · refine (M.put_zip (HLK.out.trans HLI.out.symm)).trans ?_
            rw [M.take_zip_snoc (by rw [HL.out]; exact hlt) (HL.out.trans HL'.out.symm), HKJ.out, HTJ.out]
            exact (List.Perm.cons _ HPM.out).trans (List.perm_append_singleton _ _).symm
          · have hx := IS.kept HIS5.out (w' := stored w5 (w.heap.size + 1) (.int .i64 5) (.int .i64 0) (.string ByteArray.empty) (.slice A5 m5 c5) (.slice B5 m5 e5)) (R' := VB (stored w5 (w.heap.size + 1) (.int .i64 5) (.int .i64 0) (.string ByteArray.empty) (.slice A5 m5 c5) (.slice B5 m5 e5)) lo' hi' d) (fun b x1 x2 => hko b (by omega)) (fun _ _ r => r.kept (fun b x1 x2 => hko b (by omega)))
            exact hx.weak (by omega) (Nat.le_of_eq hsF.symm) (fun _ _ r => r)
          · exact (HKS5.out.kept (fun b x1 x2 => hko b (by omega))).weak (by omega) (Nat.le_of_eq hsF.symm)
        · have hbX := stored_below hb4' (Nat.le_refl _) (.int .i64 0) (.int .i64 0) (.string ByteArray.empty) (.slice none 0 0) (.slice none 0 0)
          change Exit.then _ _ _ _ (stored w4 wr.heap.size (.int .i64 0) (.int .i64 0) (.string ByteArray.empty) (.slice none 0 0) (.slice none 0 0))
          generalize (stored w4 wr.heap.size (.int .i64 0) (.int .i64 0) (.string ByteArray.empty) (.slice none 0 0) (.slice none 0 0)) = wx at *
          obtain ⟨i, f, hp⟩ := M.place_ex oks HR.out kj
          have hf : f = false := by
            cases hf : f with
            | false => rfl
            | true =>
              have h1 := hp.at_.1 hf
              have h2 := M.lookup_not (HLK.out.trans HLI.out.symm) HLKP.out
              refine absurd ?_ h2
              rw [← h1.2]
              rw [show oks.getD i ByteArray.empty = oks[i]'h1.1 by simp [List.getD, h1.1]]
              exact List.getElem_mem _
          subst hf
          have hil := hp.le
          have HP := Lib.hid hp; have HIL := Lib.hid hil
          clear hp hil
          have hbwx := hb.trans (hbX.mono (by omega))
          have hzx := hbX.size
          have c9x : wx.cell? ⟨b9, off9 + j, none⟩ = some (.string kj) := (hbX.cell (p := ⟨b9, off9 + j, none⟩) (by show b9 < _; omega)).trans c9
          obtain ⟨bi, offi, kk, ii, ss, x', y', rfl, hbbi, z0', z1', z2', z3', z4', hvi⟩ := HI.out.item2 hlt
          obtain ⟨a7, n7, c7, b7, m7, u7, rfl, rfl⟩ := hvi.cells
          have i0 := (hbwx.cell (p := ⟨bi, offi + j * 5, none⟩) (by show bi < _; omega)).trans z0'
          have i1 := (hbwx.cell (p := ⟨bi, offi + j * 5 + 1, none⟩) (by show bi < _; omega)).trans z1'
          have i2 := (hbwx.cell (p := ⟨bi, offi + j * 5 + 2, none⟩) (by show bi < _; omega)).trans z2'
          have i3 := (hbwx.cell (p := ⟨bi, offi + j * 5 + 3, none⟩) (by show bi < _; omega)).trans z3'
          have i4 := (hbwx.cell (p := ⟨bi, offi + j * 5 + 4, none⟩) (by show bi < _; omega)).trans z4'
          have H0x := Lib.hid ((hbX.block w.heap.size (by omega)).trans H0.out)
          have H1x := Lib.hid ((hbX.block (w.heap.size + 1) (by omega)).trans H1.out)
          clear g0 g1 g2 g3 g4 c9 z0' z1' z2' z3' z4'
          obtain ⟨g0, g1, g2, g3, g4, -⟩ := lit5 H1x.out
          generalize htj : its.getD j default = tj at *
          have HTJ := Lib.hid htj
          have HVI := Lib.hid hvi
          clear htj hvi
          go_wp2_with fail
          go_still_tail 9, (by kernel_rfl)
          change wpList _ _ _ _ _ wx.drew
          have hbY : Below wr.heap.size wr wx.drew := below_drew hbX
          have hbwy : Below w.heap.size w wx.drew := below_drew hbwx
          have H0y : Hid (wx.drew.heap[w.heap.size]? = _) := H0x
          have H1y : Hid (wx.drew.heap[w.heap.size + 1]? = _) := H1x
          have hzy : wr.heap.size ≤ wx.drew.heap.size := hzx
          generalize wx.drew = wy at *
          go_wp2_with fail
          refine (rWith_any (t := .mk 5 0 ByteArray.empty oits oks) (hi := wr.heap.size) ((HIS.out.kept (Kept.of_below hbY (Nat.le_refl _)) (fun _ _ r => r.kept (Kept.of_below hbY (by omega))))) (HKS.out.later hbY (Nat.le_refl _)) hzy (HVI.out.later hbwy hhi') (by omega) HR.out HP.out (.inr ⟨rfl, rfl⟩) (by show oits.length ≤ _; rw [HLI.out]; omega) (by rw [← HKJ.out]; exact HK.out.size j hlt)).mono ?_
          rintro e w5 ⟨A5, c5, B5, e5, m5, rfl, his5, hks5, hb5⟩
          have hz5 := hb5.size
          have hq1 : w5.heap[w.heap.size + 1]? = _ := (hb5.block _ (by omega)).trans H1y.out
          have H05 : Hid (w5.heap[w.heap.size]? = _) := Lib.hid ((hb5.block _ (by omega)).trans H0y.out)
          obtain ⟨y0, y1, y2, y3, y4, f0, f1, f2, f3, f4⟩ := lit5 hq1
          have HQ1 := Lib.hid hq1; have HIS5 := Lib.hid his5; have HKS5 := Lib.hid hks5
          clear hq1 his5 hks5 g0 g1 g2 g3 g4 i0 i1 i2 i3 i4 c9x
          go_wp2_with fail
          have hfin := lit_stored HQ1.out (.int .i64 5) (.int .i64 0) (.string ByteArray.empty) (.slice A5 m5 c5) (.slice B5 m5 e5)
          have hko : ∀ k, k ≠ w.heap.size + 1 → (stored w5 (w.heap.size + 1) (.int .i64 5) (.int .i64 0) (.string ByteArray.empty) (.slice A5 m5 c5) (.slice B5 m5 e5)).heap[k]? = w5.heap[k]? := fun k hk => stored_other _ _ _ _ _ _ _ _ hk
          have hbF : Below w.heap.size w (stored w5 (w.heap.size + 1) (.int .i64 5) (.int .i64 0) (.string ByteArray.empty) (.slice A5 m5 c5) (.slice B5 m5 e5)) := stored_below (hbwy.trans (hb5.mono (by omega))) (by omega) _ _ _ _ _
          have hsF := stored_size w5 (w.heap.size + 1) (.int .i64 5) (.int .i64 0) (.string ByteArray.empty) (.slice A5 m5 c5) (.slice B5 m5 e5)
          change (∃ (j m : Nat) (oks : List ByteArray) (oits : List V) (A3 B3 : Option Addr) (c3 e3 : Nat), _) ∧ _
          have hm5 : m5 = m + 1 := by rw [← HIS5.out.len]; show (M.putAt oits i i tj).length = _; rw [M.put_len (by rw [HLI.out, ← HLK.out]; exact HIL.out), HLI.out]
          refine ⟨⟨j + 1, m5, M.putAt oks i i kj, M.putAt oits i i tj, A5, B5, c5, e5, by go_num, by omega, Lib.hid (by rw [hm5, HMJ.out]), Lib.hid (M.put_rise HR.out HP.out), Lib.hid HKS5.out.len, Lib.hid HIS5.out.len, Lib.hid ?_, Lib.hid ((hko _ (by omega)).trans H05.out), Lib.hid hfin, Lib.hid ?_, Lib.hid ?_, hbF, Nat.le_trans (show w.heap.size + 2 ≤ w5.heap.size by omega) (Nat.le_of_eq hsF.symm)⟩, by simp [intOf]; omega⟩
          · refine (M.put_zip (HLK.out.trans HLI.out.symm)).trans ?_
            rw [M.take_zip_snoc (by rw [HL.out]; exact hlt) (HL.out.trans HL'.out.symm), HKJ.out, HTJ.out]
            exact (List.Perm.cons _ HPM.out).trans (List.perm_append_singleton _ _).symm
          · have hx := IS.kept HIS5.out (w' := stored w5 (w.heap.size + 1) (.int .i64 5) (.int .i64 0) (.string ByteArray.empty) (.slice A5 m5 c5) (.slice B5 m5 e5)) (R' := VB (stored w5 (w.heap.size + 1) (.int .i64 5) (.int .i64 0) (.string ByteArray.empty) (.slice A5 m5 c5) (.slice B5 m5 e5)) lo' hi' d) (fun b x1 x2 => hko b (by omega)) (fun _ _ r => r.kept (fun b x1 x2 => hko b (by omega)))
            exact hx.weak (by omega) (Nat.le_of_eq hsF.symm) (fun _ _ r => r)
          · exact (HKS5.out.kept (fun b x1 x2 => hko b (by omega))).weak (by omega) (Nat.le_of_eq hsF.symm)
    · obtain rfl : j = n := by omega
      have HPA : Hid ((oks.zip oits).Perm (ks.zip its)) := Lib.hid (by
        have := HPM.out
        rw [List.take_of_length_le (by rw [HL.out]; exact Nat.le_refl _), List.take_of_length_le (by rw [HL'.out]; exact Nat.le_refl _)] at this; exact this)
      have HZ : Hid (V.sz (.mk 5 0 ByteArray.empty oits oks) ≤ 1000000) := Lib.hid (by
        have h1 := szs_perm (perm_fst HPA.out (HLK.out.trans HLI.out.symm) (HL.out.trans HL'.out.symm)).2
        have h2 := HSZ.out
        simp only [V.sz]; omega)
      obtain ⟨g0, g1, g2, g3, g4, -⟩ := lit5 H1.out
      have hvb : VB wr 0 wr.heap.size (d + 1) (.agg #[.int .i64 5, .int .i64 0, .string ByteArray.empty, .slice A3 m c3, .slice B3 m e3]) (.mk 5 0 ByteArray.empty oits oks) :=
        ⟨A3, m, c3, B3, m, e3, rfl, by simp [V.k], by simp [V.k], by simp [V.n], by simp [V.n], by simp [V.s], HIS.out.weak (Nat.zero_le _) (Nat.le_refl _) (fun _ _ r => r.weak (Nat.zero_le _) (by omega)), HKS.out.weak (Nat.zero_le _) (Nat.le_refl _)⟩
      have HVB := Lib.hid hvb
      clear hvb
      go_wp2_with fail
      refine (rWithinX ⟨_, HVB.out⟩ (Nat.le_refl _) HZ.out).mono ?_
      rintro e w4 ⟨rfl, hb4⟩
      have hz4 := hb4.size
      have hbw4 := below_step hb hb4
      have H04 := Lib.hid ((hb4.block w.heap.size (by omega)).trans H0.out)
      have H14 := Lib.hid ((hb4.block (w.heap.size + 1) (by omega)).trans H1.out)
      clear g0 g1 g2 g3 g4
      obtain ⟨g0, g1, g2, g3, g4, -⟩ := lit5 H14.out
      obtain ⟨n0', n1', n2', n3', n4', z0', z1', z2', z3', z4'⟩ := lit5 H04.out
      cases hw : V.within (.mk 5 0 ByteArray.empty oits oks) with
      | false =>
        have HW := Lib.hid hw
        clear hw
        go_wp2_with fail
        have hfin := lit_stored H04.out (.int .i64 0) (.int .i64 0) (.string ByteArray.empty) (.slice none 0 0) (.slice none 0 0)
        refine bodyPost_ret (v := .tuple #[.agg #[.int .i64 0, .int .i64 0, .string ByteArray.empty, .slice none 0 0, .slice none 0 0], .int .i64 6]) (results_cell_slot Try.results9 _ _ w.heap.size 26 _ (0, 0) _ rfl hfin (by kernel_rfl) rfl) rfl ?_
        exact ⟨.inr ⟨oks, oits, HR.out, HLK.out.trans HLI.out.symm, HPA.out, fun _ => rfl, (fun h => by rw [HW.out] at h; cases h)⟩, stored_below hbw4 (Nat.le_refl _) _ _ _ _ _⟩
      | true =>
        have HW := Lib.hid hw
        clear hw
        go_wp2_with fail
        have hfin := lit_stored H04.out (.int .i64 5) (.int .i64 0) (.string ByteArray.empty) (.slice A3 m c3) (.slice B3 m e3)
        refine bodyPost_ret (v := .tuple #[.agg #[.int .i64 5, .int .i64 0, .string ByteArray.empty, .slice A3 m c3, .slice B3 m e3], .int .i64 0]) (results_cell_slot Try.results9 _ _ w.heap.size 26 _ (0, 0) _ rfl hfin (by kernel_rfl) rfl) rfl ?_
        have hbF : Below w.heap.size w (stored w4 w.heap.size (.int .i64 5) (.int .i64 0) (.string ByteArray.empty) (.slice A3 m c3) (.slice B3 m e3)) := stored_below hbw4 (Nat.le_refl _) _ _ _ _ _
        have hsF := stored_size w4 w.heap.size (.int .i64 5) (.int .i64 0) (.string ByteArray.empty) (.slice A3 m c3) (.slice B3 m e3)
        have hko : ∀ k, k ≠ w.heap.size → k < wr.heap.size → (stored w4 w.heap.size (.int .i64 5) (.int .i64 0) (.string ByteArray.empty) (.slice A3 m c3) (.slice B3 m e3)).heap[k]? = wr.heap[k]? := fun k hk hk2 => (stored_other _ _ _ _ _ _ _ _ hk).trans (hb4.block k hk2)
        refine ⟨.inr ⟨oks, oits, HR.out, HLK.out.trans HLI.out.symm, HPA.out, (fun h => by rw [HW.out] at h; cases h), fun _ => ⟨_, rfl, d + 1, A3, m, c3, B3, m, e3, rfl, by simp [V.k], by simp [V.k], by simp [V.n], by simp [V.n], by simp [V.s], ?_, ?_⟩⟩, hbF⟩
        · have hx := IS.kept HIS.out (w' := stored w4 w.heap.size (.int .i64 5) (.int .i64 0) (.string ByteArray.empty) (.slice A3 m c3) (.slice B3 m e3)) (R' := VB (stored w4 w.heap.size (.int .i64 5) (.int .i64 0) (.string ByteArray.empty) (.slice A3 m c3) (.slice B3 m e3)) lo' hi' d) (fun b x1 x2 => hko b (by omega) x2) (fun _ _ r => r.kept (fun b x1 x2 => hko b (by omega) (by omega)))
          exact hx.weak (Nat.zero_le _) (Nat.le_trans hz4 (Nat.le_of_eq hsF.symm)) (fun _ _ r => r.weak (Nat.zero_le _) (Nat.le_trans (show hi' ≤ w4.heap.size by omega) (Nat.le_of_eq hsF.symm)))
        · exact (HKS.out.kept (fun b x1 x2 => hko b (by omega) x2)).weak (Nat.zero_le _) (Nat.le_trans hz4 (Nat.le_of_eq hsF.symm))

set_option maxRecDepth 100000 in
set_option maxHeartbeats 1000000 in
theorem rmap_len (A B : Option Addr) (n m c e0 : Nat) (w : World) (hnm : n ≠ m) (h1 : n ≤ 140737488355328) (h2 : m ≤ 140737488355328) :
    Calls Try.prog 9 #[.slice A n c, .slice B m e0] w fun e w' => e = .returned (.tuple #[.agg #[.int .i64 0, .int .i64 0, .string ByteArray.empty, .slice none 0 0, .slice none 0 0], .int .i64 6]) ∧ Below w.heap.size w w' := by
  have hb : ((n : Int) != (m : Int)) = true := by rw [bne_iff_ne]; omega
  clear hnm
  have hb0 := (Below.refl w.heap.size w).alloc (Nat.le_refl _) (.cells #[.int .i64 0, .int .i64 0, .string ⟨#[]⟩, .slice none 0 0, .slice none 0 0] 26)
  have hn0 := heap_alloc_new w (.cells #[.int .i64 0, .int .i64 0, .string ⟨#[]⟩, .slice none 0 0, .slice none 0 0] 26)
  have HN0 := Lib.hid hn0
  have HB0 := Lib.hid hb0
  clear hn0 hb0
  go_enter Try.func9, Try.ntmps9
  go_wp2_with fail
  refine bodyPost_ret (v := .tuple #[.agg #[.int .i64 0, .int .i64 0, .string ⟨#[]⟩, .slice none 0 0, .slice none 0 0], .int .i64 6]) (results_cell_slot Try.results9 _ _ (w.heap.size) 26 _ (0, 0) _ rfl HN0.out (by kernel_rfl) rfl) rfl ?_
  exact ⟨rfl, HB0.out⟩

theorem rmapX {d : Nat} {A B : Option Addr} {n m c e0 lo hi lo' hi' : Nat} {ks : List ByteArray} {its : List V} {w : World} (h : KS w lo hi A n c ks) (hhi : hi ≤ w.heap.size) (h' : IS w lo' hi' (VB w lo' hi' d) B m e0 its) (hhi' : hi' ≤ w.heap.size) (hn : n ≤ 1000) (hsz : V.szs its ≤ 10000) :
    Calls Try.prog 9 #[.slice A n c, .slice B m e0] w (NewMapX ks its w) := by
  by_cases hnm : n = m
  · subst hnm
    exact (rmap_any h hhi h' hhi' hn hsz).mono fun e w' hm => of_newRM (h.len.trans h'.len.symm) hm
  · have h1 := h.most
    have h2 := h'.most
    refine (rmap_len A B n m c e0 w hnm (by omega) (by omega)).mono fun e w' ⟨he, hb⟩ => ?_
    exact ⟨_, _, _, _, _, _, _, _, _, V.null, 6, he, ⟨1, VB.null _ _ _ _⟩, .inl ⟨by rw [h.len, h'.len]; exact hnm, rfl, rfl⟩, hb⟩
end Go.Proofs.Ytfcbieiefdbbpaa
