/-
  Layer 2: the reference's Drop.
-/
import Derived.Test.YtcamhcgafmmkdaaVRefJ
namespace Go.Proofs.Ytcamhcgafmmkdaa
set_option linter.unusedVariables false
open Go.RowKit
open M (V)

set_option maxRecDepth 100000 in
set_option maxHeartbeats 4000000 in
theorem rDropX {v : Value} {t : V} {hi : Nat} {key : ByteArray} {w : World} (h : VX w 0 hi v t) (hhi : hi ≤ w.heap.size) (hsz : t.sz ≤ 2000) :
    Calls Try.prog 11 #[v, .string key] w (NewDrop t key w) := by
  obtain ⟨d1, h⟩ := h
  match d1, h with
  | 0, h => exact h.elim
  | d + 1, hv =>
  obtain ⟨k, n, s, its, ks⟩ := t
  have h0 := hv
  obtain ⟨A, m, c, B, p, e, rfl, -, -, -, -, -, hI, hK⟩ := hv
  simp only [V.k, V.n, V.s, V.its, V.ks] at *
  have H0 := Lib.hid h0; have HI := Lib.hid hI; have HK := Lib.hid hK
  have HLI0 := Lib.hid hI.len; have HLK0 := Lib.hid hK.len
  have hcap := hI.cap
  have hmost := hI.most
  have hcap2 := hK.cap
  have hmost2 := hK.most
  clear h0 hI hK
  have hb0 : Below (w.heap.size + 2) ((w.alloc (.cells #[.int .i64 k, .int .i64 n, .string s, .slice A m c, .slice B p e] 25)).alloc (.cells #[.int .i64 0, .int .i64 0, .string ⟨#[]⟩, .slice none 0 0, .slice none 0 0] 25)) _ := Below.refl _ _
  have hz := two_size hb0
  have hbw := two_below hb0
  obtain ⟨q0, q1⟩ := two_heap hb0 (Nat.le_refl _)
  have QA := Lib.hid q0; have QB := Lib.hid q1
  obtain ⟨b0, b1, b2, b3, b4, -⟩ := lit5 q0
  clear q0 q1
  by_cases hk : k = 5
  case neg =>
    have hb : (k != 5) = true := by rw [bne_iff_ne]; exact hk
    have HB : Hid ((k == 5 && V.wf (.mk k n s its ks)) = false) := Lib.hid (by simp [hk])
    clear hk
    go_enter Try.func11, Try.ntmps11
    go_wp2_with fail
    refine bodyPost_ret (v := .tuple #[.agg #[.int .i64 0, .int .i64 0, .string ⟨#[]⟩, .slice none 0 0, .slice none 0 0], .int .i64 12]) (results_cell_slot Try.results11 _ _ (w.heap.size + 1) 25 _ (0, 0) _ rfl QB.out (by kernel_rfl) rfl) rfl ?_
    exact ⟨fun _ => rfl, (fun h => by rw [show (V.mk k n s its ks).k = k from rfl, HB.out] at h; cases h), hbw⟩
  subst hk
  have HZ : Hid (V.sz (.mk 5 n s its ks) ≤ 2000) := Lib.hid hsz
  clear hsz
  cases hw : V.wf (.mk 5 n s its ks) with
  | false =>
    have HB : Hid (((5 : Int) == 5 && V.wf (.mk 5 n s its ks)) = false) := Lib.hid (by simp [hw])
    have HW := Lib.hid hw
    clear hw
    go_enter Try.func11, Try.ntmps11
    go_wp2_with fail
    refine (rWfX ⟨_, H0.out.later hbw hhi⟩ (by omega)).mono ?_
    rintro e w1 ⟨rfl, hb1⟩
    rw [HW.out]
    have hbw1 := below_step hbw hb1
    have H2 := Lib.hid ((hb1.block (w.heap.size + 1) (by omega)).trans QB.out)
    obtain ⟨g0, g1, g2, g3, g4, f0, f1, f2, f3, f4⟩ := lit5 H2.out
    go_wp2_with fail
    have hfin := lit_stored H2.out (.int .i64 0) (.int .i64 0) (.string ByteArray.empty) (.slice none 0 0) (.slice none 0 0)
    refine bodyPost_ret (v := .tuple #[.agg #[.int .i64 0, .int .i64 0, .string ByteArray.empty, .slice none 0 0, .slice none 0 0], .int .i64 12]) (results_cell_slot Try.results11 _ _ (w.heap.size + 1) 25 _ (0, 0) _ rfl hfin (by kernel_rfl) rfl) rfl ?_
    exact ⟨fun _ => rfl, (fun h => by rw [show (V.mk 5 n s its ks).k = 5 from rfl, HB.out] at h; cases h), stored_below hbw1 (by omega) _ _ _ _ _⟩
  | true =>
    have HLN : Hid (ks.length = its.length) := Lib.hid (M.wf_rise hw rfl).2
    have HR : Hid (M.Rise ks) := Lib.hid (M.wf_rise hw rfl).1
    have hmp : p = m := by rw [← HLK0.out, HLN.out, HLI0.out]
    subst hmp
    have HW := Lib.hid hw
    clear hw
    obtain ⟨i, f, hp⟩ := M.place_ex ks HR.out key
    have HP := Lib.hid hp
    clear hp
    have HL := HLI0; have HL2 := HLK0
    have HL4 : Hid (its.length ≤ 2000) := Lib.hid (by
      have h1 := HZ.out
      have h2 := V.len_le_szs its
      simp only [V.sz] at h1; omega)
    have hp2 : p ≤ 2000 := by rw [← HL.out]; exact HL4.out
    go_enter Try.func11, Try.ntmps11
    go_wp2_with fail
    refine (rWfX ⟨_, H0.out.later hbw hhi⟩ (by omega)).mono ?_
    rintro e w1 ⟨rfl, hb1⟩
    rw [HW.out]
    have hbw1 := below_step hbw hb1
    have hz1 := hb1.size
    simp only [World.size_alloc] at hz1
    have hb4 : Below w.heap.size w (w1.alloc (.cells #[.int .i64 5, .int .i64 0, .string ⟨#[]⟩, .slice none 0 0, .slice none 0 0] 25)) := hbw1.alloc (by omega) _
    have Q0 := Lib.hid ((Below.heap_alloc w1 (.cells #[.int .i64 5, .int .i64 0, .string ⟨#[]⟩, .slice none 0 0, .slice none 0 0] 25) w.heap.size (by omega)).trans ((hb1.block w.heap.size (by simp; omega)).trans QA.out))
    have Q1 := Lib.hid ((Below.heap_alloc w1 (.cells #[.int .i64 5, .int .i64 0, .string ⟨#[]⟩, .slice none 0 0, .slice none 0 0] 25) (w.heap.size + 1) (by omega)).trans ((hb1.block (w.heap.size + 1) (by simp)).trans QB.out))
    have Q3 := Lib.hid (heap_alloc_new w1 (.cells #[.int .i64 5, .int .i64 0, .string ⟨#[]⟩, .slice none 0 0, .slice none 0 0] 25))
    have hz4 : w1.heap.size + 1 ≤ (w1.alloc (.cells #[.int .i64 5, .int .i64 0, .string ⟨#[]⟩, .slice none 0 0, .slice none 0 0] 25)).heap.size := by simp
    clear b0 b1 b2 b3 b4
    go_wp2_with fail
    generalize (w1.alloc (.cells #[.int .i64 5, .int .i64 0, .string ⟨#[]⟩, .slice none 0 0, .slice none 0 0] 25)) = w4 at *
    go_loopw [7] (fun y wr => ∃ (j : Nat) (vI vK : Value) (cI : List Value) (lk : List ByteArray) (li : List V) (m : Nat), y = .int .i64 j ∧ j ≤ p ∧ m ≤ j ∧ Hid (lk = M.dpre ks i f j) ∧ Hid (li = M.dpre its i f j) ∧ Hid (lk.length = m) ∧ Hid (li.length = m) ∧
      Hid (wr.heap[w1.heap.size]? = some (.cells #[.int .i64 5, .int .i64 0, .string ByteArray.empty, vI, vK] 25 (0, 0))) ∧ w4.grownBy wr (some w1.heap.size) ∧
      wr.ownsRow w4.heap.size 9 1 vK m (lk.map Value.string) ∧ wr.ownsRow w4.heap.size 25 5 vI m cI ∧ Hid (∀ q, q < m → Elem w 0 hi d cI.toArray q (li.getD q default))) (fun y _ => p - (intOf y).toNat)
    case atStart => exact ⟨0, _, _, [], [], [], 0, rfl, by omega, by omega, Lib.hid (by rw [M.dpre_zero]), Lib.hid (by rw [M.dpre_zero]), Lib.hid rfl, Lib.hid rfl, Q3, World.grownBy.refl _ _, World.ownsRow_nil _ _ _ _, World.ownsRow_nil _ _ _ _, Lib.hid (fun q h => absurd h (by omega))⟩
    case round =>
      obtain ⟨j, vI, vK, cI, lk, li, m, rfl, hj, hmj, HLK, HLI, HNK, HNI, HM, hgr, hos, hov, HE⟩ := hrel
      have hws := hgr.size
      have hbwr : Below w.heap.size w wr := hb4.grown hgr (by omega) (fun k hk => by injection hk; omega)
      have R0 := Lib.hid ((hgr.block w.heap.size (by omega) (by simp; omega)).trans Q0.out)
      obtain ⟨b0, b1, b2, b3, b4, -⟩ := lit5 R0.out
      have hkne : some w1.heap.size ≠ vK.ownBlock := fun e => by have := hos.lt _ e.symm; omega
      have hine : some w1.heap.size ≠ vI.ownBlock := fun e => by have := hov.lt _ e.symm; omega
      by_cases hlt : j < p
      · obtain ⟨b9, off9, rfl, c9⟩ := HK.out.item hbwr hhi hlt
        obtain ⟨b, off, kk, ii, ss, x', y', rfl, hbb, z0, z1, z2, z3, z4, hv⟩ := HI.out.item2 hlt
        have hbb : b < w.heap.size := by omega
        have hbb9 : b9 < w.heap.size := by
          obtain ⟨b', off', e, q1, q2, _⟩ := HK.out.at_ (by omega)
          injection e with e; injection e with e; omega
        obtain ⟨a7, n7, c7, b7, m7, u7, rfl, rfl⟩ := hv.cells
        generalize hkj : ks.getD j ByteArray.empty = kj at *
        generalize htj : its.getD j default = tj at *
        have HKJ := Lib.hid hkj; have HTJ := Lib.hid htj
        have HV := Lib.hid hv
        clear hkj htj hv
        obtain ⟨m0, m1, m2, m3, m4, f0, f1, f2, f3, f4⟩ := lit5 HM.out
        have hms : wr.heap.size > w1.heap.size := by omega
        by_cases hq : kj = key
        · have hne : (kj.toList == key.toList) = true := by rw [hq]; simp
          have HF : Hid (f = true ∧ j = i) := Lib.hid (by
            rcases Nat.lt_trichotomy j i with hc | hc | hc
            · exact absurd (by rw [HKJ.out]; exact hq) (HP.out.low hc).2
            · exact ⟨HP.out.at_.2 ⟨by rw [HL2.out, ← hc]; exact hlt, by rw [← hc, HKJ.out]; exact hq⟩, hc⟩
            · exact absurd (by rw [HKJ.out]; exact hq) (HP.out.high HR.out hc (by rw [HL2.out]; exact hlt)))
          clear hq
          go_wp2_with fail
          exact ⟨⟨j + 1, _, _, _, _, _, m, by go_num, by omega, by omega, Lib.hid (by rw [HLK.out, HF.out.1, HF.out.2]; exact M.dpre_drop.symm), Lib.hid (by rw [HLI.out, HF.out.1, HF.out.2]; exact M.dpre_drop.symm), HNK, HNI, HM, hgr, hos, hov, HE⟩, by simp [intOf]; omega⟩
        · have hne : (kj.toList == key.toList) = false := by rw [beq_eq_false_iff_ne]; intro e; exact hq (M.toList_inj e)
          have HNE : Hid (f = false ∨ j ≠ i) := Lib.hid (by
            cases hf : f with
            | false => exact .inl rfl
            | true =>
              right
              intro hc
              have := (HP.out.at_.1 hf).2
              rw [← hc, HKJ.out] at this
              exact hq this)
          clear hq
          go_wp2_with fail
          go_region_law (
            refine step_push_key rfl (.tmp 33) (.tmp 39) rfl w4.heap.size (m) wr.heap.size vK (lk.map Value.string) kj _ _ ?_ ?_ ?_ (Array.getElem?_push_size ..) ?_ ?_ ?_
            · simp [Act.eval]
            · exact (World.ownsRow.drew hos).alloc _
            · simp [Act.eval]
            · omega
            · simp; omega
            intro g1 cap1 wn hn1 hn2 hn3 hn4
            obtain ⟨hn5, hn6⟩ := field_after (f := 4) HM.out rfl (grown_drew_alloc wr _) hn2 hkne)
          all_goals (
            obtain ⟨e1, e2, e3, e4, e5⟩ := push_step (f := 4) (by omega) hgr HM.out hos hov (by decide) (grown_drew_alloc wr _) hn1 hn2
            clear hn1 hn2 hn3 hn4 hn5 hn6 m0 m1 m2 m3 m4 f0 f1 f2 f3 f4 hgr HM hos hov b0 b1 b2 b3 b4 c9
            generalize (wn.setCell ⟨w1.heap.size, 4, none⟩ _) = wm at *
            have hws' := e1.size
            have hbm : Below w.heap.size w wm := hb4.grown e1 (by omega) (fun k hk => by injection hk; omega)
            have c0 := (hbm.cell (p := ⟨b, off + j * 5, none⟩) hbb).trans z0
            have c1 := (hbm.cell (p := ⟨b, off + j * 5 + 1, none⟩) hbb).trans z1
            have c2 := (hbm.cell (p := ⟨b, off + j * 5 + 2, none⟩) hbb).trans z2
            have c3 := (hbm.cell (p := ⟨b, off + j * 5 + 3, none⟩) hbb).trans z3
            have c4 := (hbm.cell (p := ⟨b, off + j * 5 + 4, none⟩) hbb).trans z4
            have R0 := Lib.hid ((e1.block w.heap.size (by omega) (by simp; omega)).trans Q0.out)
            obtain ⟨b0, b1, b2, b3, b4, -⟩ := lit5 R0.out
            change wm.heap[w1.heap.size]? = some (.cells #[.int .i64 5, .int .i64 0, .string ByteArray.empty, vI, .slice (some ⟨g1, 0, none⟩) (m + 1) cap1] 25 (0, 0)) at e2
            obtain ⟨m0, m1, m2, m3, m4, f0, f1, f2, f3, f4⟩ := lit5 e2
            have hms2 : wm.heap.size > w1.heap.size := by omega
            go_wp2_with fail
            go_region_law (
              refine step_push_val rfl (.tmp 43) (.tmp 49) rfl w4.heap.size (m) wm.heap.size vI cI kk ii ss _ _ _ _ _ _ _ _ ?_ ?_ ?_ (Array.getElem?_push_size ..) ?_ ?_ ?_
              · simp [Act.eval]
              · exact (World.ownsRow.drew e4).alloc _
              · simp [Act.eval]
              · omega
              · simp; omega
              intro g2 cap2 wn hn1 hn2 hn3 hn4
              obtain ⟨hn5, hn6⟩ := field_after (f := 3) e2 rfl (grown_drew_alloc wm _) hn2 hine)
            all_goals (
              obtain ⟨q1, q2, q3, q4, q5⟩ := push_step (f := 3) (by omega) e1 e2 e4 e3 (by decide) (grown_drew_alloc wm _) hn1 hn2
              clear hn1 hn2 hn3 hn4 hn5 hn6 m0 m1 m2 m3 m4 f0 f1 f2 f3 f4 c0 c1 c2 c3 c4 b0 b1 b2 b3 b4
              generalize (wn.setCell ⟨w1.heap.size, 3, none⟩ _) = wf at *
              go_wp2_with fail
              have HE' := elem_push (by rw [HNI.out]; exact e4.1) (by rw [HNI.out]; exact HE.out) HV.out
              have hle1 : (li ++ [tj]).length = m + 1 := by simp [HNI.out]
              rw [hle1] at HE'
              have q6 := q4
              rw [show lk.map Value.string ++ [Value.string kj] = (lk ++ [kj]).map Value.string by simp] at q6
              exact ⟨⟨j + 1, _, _, _, _, _, m + 1, by go_num, by omega, by omega, Lib.hid (by rw [HLK.out, ← HKJ.out]; exact (M.dpre_keep HNE.out (by rw [HL2.out]; exact hlt)).symm), Lib.hid (by rw [HLI.out, ← HTJ.out]; exact (M.dpre_keep HNE.out (by rw [HL.out]; exact hlt)).symm), Lib.hid (by simp [HNK.out]), Lib.hid hle1, Lib.hid q2, q1, q6, q3, Lib.hid HE'⟩, by simp [intOf]; omega⟩))
      · obtain rfl : j = p := by omega
        obtain ⟨m0, m1, m2, m3, m4, f0, f1, f2, f3, f4⟩ := lit5 HM.out
        have HP2 := Lib.hid ((hgr.block (w.heap.size + 1) (by omega) (by simp; omega)).trans Q1.out)
        obtain ⟨p0, p1, p2, p3, p4, d0, d1, d2, d3, d4⟩ := lit5 HP2.out
        have hosF : OS wr w4.heap.size vK lk := by unfold OS; rw [HNK.out]; exact hos
        have hszk : ∀ q, (lk.getD q ByteArray.empty).size ≤ 140737488351232 := fun q => by
          have hg : ∀ k ∈ ks, k.size ≤ 140737488351232 := fun k hk => by
            obtain ⟨j', hj', rfl⟩ := List.getElem_of_mem hk
            have := HK.out.size j' (by rw [← HL2.out]; exact hj')
            simpa [List.getD, List.getElem?_eq_getElem hj'] using this
          have hm : ∀ k ∈ lk, k.size ≤ 140737488351232 := fun k hk => by
            rw [HLK.out] at hk
            unfold M.dpre at hk
            split at hk
            · rw [List.mem_append] at hk
              rcases hk with h | h
              · exact hg _ (List.mem_of_mem_take h)
              · exact hg _ (List.mem_of_mem_take (List.mem_of_mem_drop h))
            · exact hg _ (List.mem_of_mem_take hk)
          rcases Nat.lt_or_ge q lk.length with h1 | h1
          · rw [show lk.getD q ByteArray.empty = lk[q] by simp [List.getD, List.getElem?_eq_getElem h1]]
            exact hm _ (List.getElem_mem _)
          · rw [show lk.getD q ByteArray.empty = ByteArray.empty by simp [List.getD, List.getElem?_eq_none h1]]
            exact Nat.zero_le _
        obtain ⟨A8, n8, c8, rfl, hks⟩ := hosF.form (by rw [HNK.out]; omega) (fun q _ => hszk q)
        obtain ⟨A7, c7, rfl, -⟩ := ovf2 (lo1 := 0) (hi1 := hi) (d := d) hov (by omega) HNI.out (fun q hq => (HE.out q hq).kept (Kept.of_below hbwr hhi))
        obtain rfl : n8 = m := by rw [← hks.len, HNK.out]
        have hfinal := with_done (R := w.heap.size + 1) (by omega) (by omega) hbwr hov hosF (by omega) HNI.out HNK.out hhi HE.out hszk
        have HFIN := Lib.hid hfinal
        have HF0 := Lib.hid hszk
        clear hfinal hks hosF hos hov hszk
        cases hf : f with
        | false =>
          have hmj2 : n8 = j := by rw [← HNK.out, HLK.out, hf, ← HL2.out, M.dpre_none]
          have hb : ((n8 : Int) == (j : Int)) = true := by rw [hmj2]; simp
          have HF := Lib.hid hf
          clear hf hmj2
          go_wp2_with fail
          have hfin := lit_stored HP2.out (.int .i64 0) (.int .i64 0) (.string ByteArray.empty) (.slice none 0 0) (.slice none 0 0)
          refine bodyPost_ret (v := .tuple #[.agg #[.int .i64 0, .int .i64 0, .string ByteArray.empty, .slice none 0 0, .slice none 0 0], .int .i64 15]) (results_cell_slot Try.results11 _ _ (w.heap.size + 1) 25 _ (0, 0) _ rfl hfin (by kernel_rfl) rfl) rfl ?_
          refine ⟨(fun h => by simp [V.k, HW.out] at h), fun _ i' f' hp' => ?_, stored_below hbwr (by omega) _ _ _ _ _⟩
          obtain ⟨rfl, rfl⟩ := place_uniq HP.out hp'
          exact ⟨fun _ => rfl, (fun h => by rw [HF.out] at h; cases h)⟩
        | true =>
          have hip := (HP.out.at_.1 hf).1
          have hlk : lk = M.dropAt ks i := by rw [HLK.out, hf, ← HL2.out, M.dpre_all hip]
          have hli : li = M.dropAt its i := by rw [HLI.out, hf, ← HL.out, M.dpre_all (by rw [HL.out, ← HL2.out]; exact hip)]
          have hmj2 : n8 + 1 = j := by
            have h1 := M.dropAt_length hip
            rw [← hlk, HNK.out, HL2.out] at h1
            rw [HL2.out] at hip
            omega
          have hb : ((n8 : Int) == (j : Int)) = false := by rw [beq_eq_false_iff_ne]; omega
          have HF := Lib.hid hf; have HLK3 := Lib.hid hlk; have HLI3 := Lib.hid hli
          clear hf hlk hli hmj2 hip
          go_wp2_with fail
          have hfin := lit_stored HP2.out (.int .i64 5) (.int .i64 0) (.string ByteArray.empty) (.slice A7 n8 c7) (.slice A8 n8 c8)
          refine bodyPost_ret (v := .tuple #[.agg #[.int .i64 5, .int .i64 0, .string ByteArray.empty, .slice A7 n8 c7, .slice A8 n8 c8], .int .i64 0]) (results_cell_slot Try.results11 _ _ (w.heap.size + 1) 25 _ (0, 0) _ rfl hfin (by kernel_rfl) rfl) rfl ?_
          refine ⟨(fun h => by simp [V.k, HW.out] at h), fun _ i' f' hp' => ?_, stored_below hbwr (by omega) _ _ _ _ _⟩
          obtain ⟨rfl, rfl⟩ := place_uniq HP.out hp'
          refine ⟨(fun h => by rw [HF.out] at h; cases h), fun _ => ⟨_, rfl, ?_⟩⟩
          obtain ⟨A9, c9, B9, e9, m9, he, hi9, hk9, hb9⟩ := HFIN.out
          injection he with he
          simp only [Value.agg.injEq, Array.mk.injEq, List.cons.injEq, and_true, true_and, Value.slice.injEq] at he
          obtain ⟨⟨rfl, rfl, rfl⟩, rfl, -, rfl⟩ := he
          rw [HLI3.out] at hi9
          rw [HLK3.out] at hk9
          have hzb := hb9.size
          exact ⟨d + 1, _, _, _, _, _, _, rfl, by simp [dropV, V.k], by simp [dropV, V.k], by simp [dropV, V.n], by simp [dropV, V.n], by simp [dropV, V.s], hi9.weak (Nat.zero_le _) (Nat.le_refl _) (fun _ _ r => r.weak (Nat.zero_le _) (Nat.le_trans hhi hzb)), hk9.weak (Nat.zero_le _) (Nat.le_refl _)⟩
end Go.Proofs.Ytcamhcgafmmkdaa
