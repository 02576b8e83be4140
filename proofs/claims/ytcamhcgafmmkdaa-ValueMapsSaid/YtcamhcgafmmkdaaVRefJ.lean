/-
  Layer 2: the reference's Put.
-/
import Derived.Test.YtcamhcgafmmkdaaVRefH
import Derived.Test.YtcamhcgafmmkdaaVRefI
import Derived.Test.YtcamhcgafmmkdaaVRefC
import Derived.Test.YtcamhcgafmmkdaaVMapX
import Derived.Test.YtcamhcgafmmkdaaVDrp
namespace Go.Proofs.Ytcamhcgafmmkdaa
set_option linter.unusedVariables false
open Go.RowKit
open M (V)

set_option maxRecDepth 100000 in
set_option maxHeartbeats 4000000 in
theorem rPutX {v x : Value} {t tx : V} {hi : Nat} {key : ByteArray} {w : World} (h : VX w 0 hi v t) (hx : VX w 0 hi x tx) (hhi : hi ≤ w.heap.size) (hkey : key.size ≤ 140737488351232) (hsz : t.sz ≤ 2000) (hsx : tx.sz ≤ 2000) :
    Calls Try.prog 9 #[v, .string key, x] w (NewPut t key tx w) := by
  obtain ⟨d1, h⟩ := h
  obtain ⟨d2, hx⟩ := hx
  have hv := h.up (d' := max d1 d2 + 1) (by omega)
  have hxx := hx.up (d' := max d1 d2) (by omega)
  generalize max d1 d2 = d at hv hxx
  clear h hx
  obtain ⟨k, n, s, its, ks⟩ := t
  obtain ⟨kx, nn, sx, itx, ktx⟩ := tx
  have h0 := hv
  obtain ⟨A, m, c, B, p, e, rfl, -, -, -, -, -, hI, hK⟩ := hv
  obtain ⟨Ax, mx, cx, Bx, px, ex, rfl⟩ := hxx.agg
  simp only [V.k, V.n, V.s, V.its, V.ks] at *
  have H0 := Lib.hid h0; have HX := Lib.hid hxx; have HI := Lib.hid hI; have HK := Lib.hid hK
  have HLI := Lib.hid hI.len; have HLK := Lib.hid hK.len
  clear h0 hxx hI hK
  have hb0 : Below (w.heap.size + 3) (((w.alloc (.cells #[.int .i64 k, .int .i64 n, .string s, .slice A m c, .slice B p e] 25)).alloc (.cells #[.int .i64 kx, .int .i64 nn, .string sx, .slice Ax mx cx, .slice Bx px ex] 25)).alloc (.cells #[.int .i64 0, .int .i64 0, .string ⟨#[]⟩, .slice none 0 0, .slice none 0 0] 25)) _ := Below.refl _ _
  have hz := three_size hb0
  have hbw := three_below hb0
  obtain ⟨q0, q1, q2⟩ := three_heap hb0 (Nat.le_refl _)
  have Q0 : Hid (_ = some (Obj.cells #[.int .i64 k, .int .i64 n, .string s, .slice A m c, .slice B p e] 25 (0, 0))) := Lib.hid q0
  have Q1 := Lib.hid q1
  have Q2 : Hid (_ = some (Obj.cells #[.int .i64 0, .int .i64 0, .string ⟨#[]⟩, .slice none 0 0, .slice none 0 0] 25 (0, 0))) := Lib.hid q2
  obtain ⟨b0, b1, b2, b3, b4, -⟩ := lit5 q0
  clear q0 q1 q2
  by_cases hk : k = 5
  case neg =>
    have hb : (k != 5) = true := by rw [bne_iff_ne]; exact hk
    have HB : Hid ((k == 5 && V.wf (.mk k n s its ks)) = false) := Lib.hid (by simp [hk])
    clear hk
    go_enter Try.func9, Try.ntmps9
    go_wp2_with fail
    refine bodyPost_ret (v := .tuple #[.agg #[.int .i64 0, .int .i64 0, .string ⟨#[]⟩, .slice none 0 0, .slice none 0 0], .int .i64 12]) (results_cell_slot Try.results9 _ _ (w.heap.size + 1 + 1) 25 _ (0, 0) _ rfl Q2.out (by kernel_rfl) rfl) rfl ?_
    exact ⟨fun _ => rfl, (fun h => by rw [show (V.mk k n s its ks).k = k from rfl, HB.out] at h; cases h), hbw⟩
  subst hk
  have HZ : Hid (V.sz (.mk 5 n s its ks) ≤ 2000) := Lib.hid hsz
  clear hsz
  cases hw : V.wf (.mk 5 n s its ks) with
  | false =>
    have HB : Hid (((5 : Int) == 5 && V.wf (.mk 5 n s its ks)) = false) := Lib.hid (by simp [hw])
    have HW := Lib.hid hw
    clear hw
    go_enter Try.func9, Try.ntmps9
    go_wp2_with fail
    refine (rWfX ⟨_, H0.out.later hbw hhi⟩ (by omega)).mono ?_
    rintro e w1 ⟨rfl, hb1⟩
    rw [HW.out]
    have hbw1 := below_step hbw hb1
    have H2 := Lib.hid ((hb1.block (w.heap.size + 1 + 1) (by omega)).trans Q2.out)
    obtain ⟨g0, g1, g2, g3, g4, f0, f1, f2, f3, f4⟩ := lit5 H2.out
    go_wp2_with fail
    have hfin := lit_stored H2.out (.int .i64 0) (.int .i64 0) (.string ByteArray.empty) (.slice none 0 0) (.slice none 0 0)
    refine bodyPost_ret (v := .tuple #[.agg #[.int .i64 0, .int .i64 0, .string ByteArray.empty, .slice none 0 0, .slice none 0 0], .int .i64 12]) (results_cell_slot Try.results9 _ _ (w.heap.size + 1 + 1) 25 _ (0, 0) _ rfl hfin (by kernel_rfl) rfl) rfl ?_
    exact ⟨fun _ => rfl, (fun h => by rw [show (V.mk 5 n s its ks).k = 5 from rfl, HB.out] at h; cases h), stored_below hbw1 (by omega) _ _ _ _ _⟩
  | true =>
    have HLN : Hid (ks.length = its.length) := Lib.hid (M.wf_rise hw rfl).2
    have HR : Hid (M.Rise ks) := Lib.hid (M.wf_rise hw rfl).1
    have hmp : p = m := by rw [← HLK.out, HLN.out, HLI.out]
    subst hmp
    have HW := Lib.hid hw
    clear hw
    obtain ⟨i, f, hp⟩ := M.place_ex ks HR.out key
    have HP := Lib.hid hp
    clear hp
    have HL4 : Hid (its.length ≤ 2000) := Lib.hid (by
      have h1 := HZ.out
      have h2 := V.len_le_szs its
      simp only [V.sz] at h1; omega)
    go_enter Try.func9, Try.ntmps9
    go_wp2_with fail
    refine (rWfX ⟨_, H0.out.later hbw hhi⟩ (by omega)).mono ?_
    rintro e w1 ⟨rfl, hb1⟩
    rw [HW.out]
    have hbw1 := below_step hbw hb1
    have hz1 := hb1.size
    have H1a := Lib.hid ((hb1.block w.heap.size (by omega)).trans Q0.out)
    have H1b := Lib.hid ((hb1.block (w.heap.size + 1) (by omega)).trans Q1.out)
    have H1c := Lib.hid ((hb1.block (w.heap.size + 1 + 1) (by omega)).trans Q2.out)
    clear b0 b1 b2 b3 b4
    obtain ⟨b0, b1, b2, b3, b4, -⟩ := lit5 H1a.out
    obtain ⟨g0, g1, g2, g3, g4, -⟩ := lit5 H1b.out
    go_wp2_with fail
    refine (rWith_any (t := .mk 5 n s its ks) (hi := hi) (HI.out.later hbw1 hhi) (HK.out.later hbw1 hhi) (by omega) (HX.out.later hbw1 hhi) (by omega) HR.out HP.out (nxt_or i f) (by show its.length ≤ _; have := HL4.out; omega) hkey).mono ?_
    rintro e w2 ⟨A2, c2, B2, e2, m2, rfl, hi2, hk2, hb2⟩
    have hz2 := hb2.size
    have hbw2 := below_step hbw1 hb2
    have H2c := Lib.hid ((hb2.block (w.heap.size + 1 + 1) (by omega)).trans H1c.out)
    have HI2 := Lib.hid hi2; have HK2 := Lib.hid hk2
    clear hi2 hk2 b0 b1 b2 b3 b4 g0 g1 g2 g3 g4
    have HZ2 : Hid (V.sz (putV (.mk 5 n s its ks) i (nxt i f) key (V.mk kx nn sx itx ktx)) ≤ 1000000) := Lib.hid (by
      have h1 := HZ.out
      have h2 : V.szs (M.putAt its i (nxt i f) (V.mk kx nn sx itx ktx)) ≤ V.szs its + (V.mk kx nn sx itx ktx).sz := by
        unfold M.putAt
        have h3 := V.szs_append (its.take i) (V.mk kx nn sx itx ktx :: its.drop (nxt i f))
        have h4 := V.szs_append (its.take (nxt i f)) (its.drop (nxt i f))
        rw [List.take_append_drop] at h4
        have h5 : V.szs (its.take i) ≤ V.szs (its.take (nxt i f)) := by
          unfold nxt
          split
          · have := V.szs_take_le (its.take (i + 1)) i
            rwa [List.take_take, Nat.min_eq_left (Nat.le_succ i)] at this
          · exact Nat.le_refl _
        simp only [V.szs] at h3
        omega
      simp only [putV, V.sz, V.its] at h1 ⊢
      omega)
    have hvb : VB w2 0 w2.heap.size (d + 1) (.agg #[.int .i64 5, .int .i64 0, .string ByteArray.empty, .slice A2 m2 c2, .slice B2 m2 e2]) (putV (.mk 5 n s its ks) i (nxt i f) key (V.mk kx nn sx itx ktx)) :=
      ⟨A2, m2, c2, B2, m2, e2, rfl, by simp [putV, V.k], by simp [putV, V.k], by simp [putV, V.n], by simp [putV, V.n], by simp [putV, V.s], HI2.out.weak (Nat.zero_le _) (Nat.le_refl _) (fun _ _ r => r.weak (Nat.zero_le _) (by omega)), HK2.out.weak (Nat.zero_le _) (Nat.le_refl _)⟩
    have HVB := Lib.hid hvb
    clear hvb
    have hbB := box_refl w2 (.cells #[.int .i64 5, .int .i64 0, .string ByteArray.empty, .slice A2 m2 c2, .slice B2 m2 e2] 25)
    have hzB := box_size hbB
    go_wp2_with fail
    refine (rWithinX ⟨_, HVB.out.later (box_below hbB) (Nat.le_refl _)⟩ (by simp) HZ2.out).mono ?_
    rintro e w4 ⟨rfl, hb4⟩
    have hbC := box_step hbB hb4
    have hzC := box_size hbC
    obtain ⟨g0, g1, g2, g3, g4⟩ := box5 hbC
    have hbw4 : Below w.heap.size w w4 := hbw2.trans ((box_below hbC).mono (by omega))
    have H4c := Lib.hid (((box_below hbC).block (w.heap.size + 1 + 1) (by omega)).trans H2c.out)
    obtain ⟨n0', n1', n2', n3', n4', z0', z1', z2', z3', z4'⟩ := lit5 H4c.out
    cases hw : V.within (putV (.mk 5 n s its ks) i (nxt i f) key (V.mk kx nn sx itx ktx)) with
    | false =>
      have HWN := Lib.hid hw
      clear hw
      go_wp2_with fail
      have hfin := lit_stored H4c.out (.int .i64 0) (.int .i64 0) (.string ByteArray.empty) (.slice none 0 0) (.slice none 0 0)
      refine bodyPost_ret (v := .tuple #[.agg #[.int .i64 0, .int .i64 0, .string ByteArray.empty, .slice none 0 0, .slice none 0 0], .int .i64 6]) (results_cell_slot Try.results9 _ _ (w.heap.size + 1 + 1) 25 _ (0, 0) _ rfl hfin (by kernel_rfl) rfl) rfl ?_
      refine ⟨(fun h => by simp [V.k, HW.out] at h), fun _ i' f' hp' => ?_, stored_below hbw4 (by omega) _ _ _ _ _⟩
      obtain ⟨rfl, rfl⟩ := place_uniq HP.out hp'
      exact ⟨fun _ => rfl, (fun h => by rw [HWN.out] at h; cases h)⟩
    | true =>
      have HWN := Lib.hid hw
      clear hw
      go_wp2_with fail
      have hfin := lit_stored H4c.out (.int .i64 5) (.int .i64 0) (.string ByteArray.empty) (.slice A2 m2 c2) (.slice B2 m2 e2)
      refine bodyPost_ret (v := .tuple #[.agg #[.int .i64 5, .int .i64 0, .string ByteArray.empty, .slice A2 m2 c2, .slice B2 m2 e2], .int .i64 0]) (results_cell_slot Try.results9 _ _ (w.heap.size + 1 + 1) 25 _ (0, 0) _ rfl hfin (by kernel_rfl) rfl) rfl ?_
      refine ⟨(fun h => by simp [V.k, HW.out] at h), fun _ i' f' hp' => ?_, stored_below hbw4 (by omega) _ _ _ _ _⟩
      obtain ⟨rfl, rfl⟩ := place_uniq HP.out hp'
      refine ⟨(fun h => by rw [HWN.out] at h; cases h), fun _ => ⟨_, rfl, d + 1, A2, m2, c2, B2, m2, e2, rfl, by simp [putV, V.k], by simp [putV, V.k], by simp [putV, V.n], by simp [putV, V.n], by simp [putV, V.s], ?_, ?_⟩⟩
      · have hsF := stored_size w4 (w.heap.size + 1 + 1) (.int .i64 5) (.int .i64 0) (.string ByteArray.empty) (.slice A2 m2 c2) (.slice B2 m2 e2)
        have hko : ∀ k, k ≠ w.heap.size + 1 + 1 → k < w2.heap.size → (stored w4 (w.heap.size + 1 + 1) (.int .i64 5) (.int .i64 0) (.string ByteArray.empty) (.slice A2 m2 c2) (.slice B2 m2 e2)).heap[k]? = w2.heap[k]? := fun k hk hk2 => (stored_other _ _ _ _ _ _ _ _ hk).trans ((box_below hbC).block k hk2)
        have hx := IS.kept HI2.out (w' := stored w4 (w.heap.size + 1 + 1) (.int .i64 5) (.int .i64 0) (.string ByteArray.empty) (.slice A2 m2 c2) (.slice B2 m2 e2)) (R' := VB (stored w4 (w.heap.size + 1 + 1) (.int .i64 5) (.int .i64 0) (.string ByteArray.empty) (.slice A2 m2 c2) (.slice B2 m2 e2)) 0 hi d) (fun b x1 x2 => hko b (by omega) x2) (fun _ _ r => r.kept (fun b x1 x2 => hko b (by omega) (by omega)))
        exact hx.weak (Nat.zero_le _) (Nat.le_trans (show w2.heap.size ≤ w4.heap.size by omega) (Nat.le_of_eq hsF.symm)) (fun _ _ r => r.weak (Nat.zero_le _) (Nat.le_trans (show hi ≤ w4.heap.size by omega) (Nat.le_of_eq hsF.symm)))
      · have hsF := stored_size w4 (w.heap.size + 1 + 1) (.int .i64 5) (.int .i64 0) (.string ByteArray.empty) (.slice A2 m2 c2) (.slice B2 m2 e2)
        have hko : ∀ k, k ≠ w.heap.size + 1 + 1 → k < w2.heap.size → (stored w4 (w.heap.size + 1 + 1) (.int .i64 5) (.int .i64 0) (.string ByteArray.empty) (.slice A2 m2 c2) (.slice B2 m2 e2)).heap[k]? = w2.heap[k]? := fun k hk hk2 => (stored_other _ _ _ _ _ _ _ _ hk).trans ((box_below hbC).block k hk2)
        exact (HK2.out.kept (fun b x1 x2 => hko b (by omega) x2)).weak (Nat.zero_le _) (Nat.le_trans (show w2.heap.size ≤ w4.heap.size by omega) (Nat.le_of_eq hsF.symm))
end Go.Proofs.Ytcamhcgafmmkdaa
