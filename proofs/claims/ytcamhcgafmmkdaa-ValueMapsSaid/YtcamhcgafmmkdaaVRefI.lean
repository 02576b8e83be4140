/-
  Layer 2: the reference's get, Get and Drop.
-/
import Derived.Test.YtcamhcgafmmkdaaVPush
import Derived.Test.YtcamhcgafmmkdaaVal9
import Derived.Test.YtcamhcgafmmkdaaVRefB
import Derived.Test.YtcamhcgafmmkdaaVCodJ
import Derived.Test.YtcamhcgafmmkdaaVWorks
namespace Go.Proofs.Ytcamhcgafmmkdaa
set_option linter.unusedVariables false
open Go.RowKit
open M (V)

/-- What get returns. -/
def NewGet (hi : Nat) (r : Option V) (w : World) (e : Ending) (w' : World) : Prop :=
  (∀ x, r = some x → ∃ v, e = .returned (.tuple #[v, .bool true]) ∧ VX w' 0 hi v x) ∧ (r = none → e = .returned (.tuple #[.agg #[.int .i64 0, .int .i64 0, .string ByteArray.empty, .slice none 0 0, .slice none 0 0], .bool false])) ∧ Below w.heap.size w w'

theorem lookup_end {key : ByteArray} {ks : List ByteArray} {its : List V} (h : ∀ q, q < ks.length → ks.getD q ByteArray.empty ≠ key) : M.lookup key ks its = none := M.lookup_none fun q h1 _ => h q h1

set_option maxRecDepth 100000 in
set_option maxHeartbeats 2000000 in
theorem rget_any {d : Nat} {v : Value} {t : V} {lo hi : Nat} {key : ByteArray} {w : World} (h : VB w lo hi (d + 1) v t) (hhi : hi ≤ w.heap.size) (hl : t.ks.length = t.its.length) :
    Calls Try.prog 26 #[v, .string key] w (NewGet hi (M.lookup key t.ks t.its) w) := by
  obtain ⟨A, n, c, B, p, e, rfl, k1, k2, n1, n2, s1, hI, hK⟩ := h
  have HI := Lib.hid hI; have HK := Lib.hid hK
  have HL := Lib.hid hI.len; have HL2 : Hid (t.ks.length = n) := Lib.hid (hl.trans hI.len)
  have hpn : p = n := by rw [← hK.len, hl, hI.len]
  subst hpn
  have hcap := hI.cap
  have hmost := hI.most
  have hcap2 := hK.cap
  have hb0 : Below (w.heap.size + 2) ((w.alloc (.cells #[.int .i64 t.k, .int .i64 t.n, .string t.s, .slice A p c, .slice B p e] 25)).alloc (.cells #[.int .i64 0, .int .i64 0, .string ⟨#[]⟩, .slice none 0 0, .slice none 0 0] 25)) _ := Below.refl _ _
  have hz0 := two_size hb0
  obtain ⟨q0, q1⟩ := two_heap hb0 (Nat.le_refl _)
  have hbw := two_below hb0
  obtain ⟨b0, b1, b2, b3, b4, -⟩ := lit5 q0
  obtain ⟨g0, g1, g2, g3, g4, f0, f1, f2, f3, f4⟩ := lit5 q1
  have Q1 : Hid (_ = some (Obj.cells #[.int .i64 0, .int .i64 0, .string ByteArray.empty, .slice none 0 0, .slice none 0 0] 25 (0, 0))) := Lib.hid q1
  clear hI hK hl hb0 q0 q1
  go_enter Try.func26, Try.ntmps26
  go_wp2_with fail
  generalize ((w.alloc (.cells #[.int .i64 t.k, .int .i64 t.n, .string t.s, .slice A p c, .slice B p e] 25)).alloc (.cells #[.int .i64 0, .int .i64 0, .string ⟨#[]⟩, .slice none 0 0, .slice none 0 0] 25)) = w2 at *
  go_loopw [6] (fun y wr => ∃ (j : Nat), y = .int .i64 j ∧ j ≤ p ∧ Hid (∀ q, q < j → t.ks.getD q ByteArray.empty ≠ key) ∧ w2 = wr) (fun y _ => p - (intOf y).toNat)
  case atStart => exact ⟨0, rfl, by omega, Lib.hid (fun q h => absurd h (by omega)), rfl⟩
  case round =>
    obtain ⟨j, rfl, hj, HN, rfl⟩ := hrel
    by_cases hlt : j < p
    · obtain ⟨b9, off9, rfl, c9⟩ := HK.out.item hbw hhi hlt
      obtain ⟨b, off, kk, ii, ss, x, y, rfl, c0, c1, c2, c3, c4, hv⟩ := HI.out.item hbw hhi hlt
      obtain ⟨A1, n1', cc1, B1, m1', e1', rfl, rfl⟩ := hv.cells
      generalize hx : t.ks.getD j ByteArray.empty = x at *
      generalize ht : t.its.getD j default = tj at *
      have HX := Lib.hid hx; have HT := Lib.hid ht
      have HV := Lib.hid hv
      clear hx ht hv
      by_cases hq : x = key
      · have hne : (x.toList == key.toList) = true := by rw [hq]; simp
        have HG : Hid (M.lookup key t.ks t.its = some tj) := Lib.hid (by rw [← HT.out]; exact M.lookup_at (by rw [HL2.out]; exact hlt) (by rw [HL.out]; exact hlt) (by rw [HX.out]; exact hq) HN.out)
        clear hq
        go_wp2_with fail
        have hfin := lit_stored Q1.out (.int .i64 kk) (.int .i64 ii) (.string ss) (.slice A1 n1' cc1) (.slice B1 m1' e1')
        refine bodyPost_ret (v := .tuple #[.agg #[.int .i64 kk, .int .i64 ii, .string ss, .slice A1 n1' cc1, .slice B1 m1' e1'], .bool true]) (results_cell_slot Try.results26 _ _ (w.heap.size + 1) 25 _ (0, 0) _ rfl hfin (by kernel_rfl) rfl) rfl ?_
        have hbs := stored_below hbw (show w.heap.size ≤ w.heap.size + 1 by omega) (.int .i64 kk) (.int .i64 ii) (.string ss) (.slice A1 n1' cc1) (.slice B1 m1' e1')
        refine ⟨fun z hz => ⟨_, rfl, ?_⟩, (fun h => by rw [HG.out] at h; cases h), hbs⟩
        rw [HG.out] at hz
        injection hz with hz
        subst hz
        exact ⟨d, (HV.out.kept (show Kept lo hi w2 (stored w2 (w.heap.size + 1) (.int .i64 kk) (.int .i64 ii) (.string ss) (.slice A1 n1' cc1) (.slice B1 m1' e1')) from fun b x1 x2 => stored_other _ _ _ _ _ _ _ _ (by omega))).weak (Nat.zero_le _) (Nat.le_refl _)⟩
      · have hne : (x.toList == key.toList) = false := by rw [beq_eq_false_iff_ne]; intro e; exact hq (M.toList_inj e)
        have HQ := Lib.hid hq
        clear hq
        go_wp2_with fail
        go_roundw
        case rel =>
          refine ⟨j + 1, by go_num, by omega, Lib.hid (fun q h => ?_), trivial⟩
          rcases Nat.lt_or_ge q j with h' | h'
          · exact HN.out q h'
          · obtain rfl : q = j := by omega
            rw [HX.out]; exact HQ.out
        case measure => simp [intOf]; omega
    · have HG : Hid (M.lookup key t.ks t.its = none) := Lib.hid (lookup_end (fun q h => HN.out q (by rw [HL2.out] at h; omega)))
      go_wp2_with fail
      have hfin := lit_stored Q1.out (.int .i64 0) (.int .i64 0) (.string ByteArray.empty) (.slice none 0 0) (.slice none 0 0)
      refine bodyPost_ret (v := .tuple #[.agg #[.int .i64 0, .int .i64 0, .string ByteArray.empty, .slice none 0 0, .slice none 0 0], .bool false]) (results_cell_slot Try.results26 _ _ (w.heap.size + 1) 25 _ (0, 0) _ rfl hfin (by kernel_rfl) rfl) rfl ?_
      exact ⟨(fun x h => by rw [HG.out] at h; cases h), fun _ => rfl, stored_below hbw (show w.heap.size ≤ w.heap.size + 1 by omega) _ _ _ _ _⟩

set_option maxRecDepth 100000 in
set_option maxHeartbeats 2000000 in
theorem rGetX {v : Value} {t : V} {lo hi : Nat} {w : World} (h : VX w lo hi v t) (hhi : hi ≤ w.heap.size) (key : ByteArray) :
    Calls Try.prog 7 #[v, .string key] w (NewGet hi (V.get t key) w) := by
  obtain ⟨d, h⟩ := h
  match d, h with
  | 0, h => exact h.elim
  | d + 1, h =>
  obtain ⟨k, n, s, its, ks⟩ := t
  have h0 := h
  obtain ⟨A, m, c, B, p, e, rfl, -⟩ := h
  simp only [V.k, V.n, V.s] at *
  have H0 := Lib.hid h0
  clear h0
  have hb0 : Below (w.heap.size + 2) ((w.alloc (.cells #[.int .i64 k, .int .i64 n, .string s, .slice A m c, .slice B p e] 25)).alloc (.cells #[.int .i64 0, .int .i64 0, .string ⟨#[]⟩, .slice none 0 0, .slice none 0 0] 25)) _ := Below.refl _ _
  have hz := two_size hb0
  obtain ⟨⟨b0, b1, b2, b3, b4⟩, -⟩ := two5 hb0
  by_cases hk : k = 5
  case neg =>
    have HG : Hid (V.get (.mk k n s its ks) key = none) := Lib.hid (by unfold V.get; simp [V.k, hk])
    have hb : (k != 5) = true := by rw [bne_iff_ne]; exact hk
    clear hk
    obtain ⟨h1, h2⟩ := two_heap hb0 (Nat.le_refl _)
    obtain ⟨g0, g1, g2, g3, g4, f0, f1, f2, f3, f4⟩ := lit5 h2
    have H2 := Lib.hid h2
    have HB := Lib.hid (two_below hb0)
    clear h1 h2
    go_enter Try.func7, Try.ntmps7
    go_wp2_with fail
    refine bodyPost_ret (v := .tuple #[.agg #[.int .i64 0, .int .i64 0, .string ⟨#[]⟩, .slice none 0 0, .slice none 0 0], .bool false]) (results_cell_slot Try.results7 _ _ (w.heap.size + 1) 25 _ (0, 0) _ rfl H2.out (by kernel_rfl) rfl) rfl ?_
    exact ⟨(fun x h => by rw [HG.out] at h; cases h), fun _ => rfl, HB.out⟩
  subst hk
  cases hw : V.wf (.mk 5 n s its ks) with
  | false =>
    have HG : Hid (V.get (.mk 5 n s its ks) key = none) := Lib.hid (by unfold V.get; simp [V.k, hw])
    have HW := Lib.hid hw
    clear hw
    go_enter Try.func7, Try.ntmps7
    go_wp2_with fail
    refine (rWfX ⟨_, H0.out.later (two_below hb0) hhi⟩ (by omega)).mono ?_
    rintro e w1 ⟨rfl, hb1⟩
    rw [HW.out]
    have hb2 := two_step hb0 hb1
    obtain ⟨h1, h2⟩ := two_heap hb2 (Nat.le_refl _)
    obtain ⟨g0, g1, g2, g3, g4, f0, f1, f2, f3, f4⟩ := lit5 h2
    have H2 := Lib.hid h2
    clear h1 h2
    go_wp2_with fail
    have hfin := lit_stored H2.out (.int .i64 0) (.int .i64 0) (.string ByteArray.empty) (.slice none 0 0) (.slice none 0 0)
    refine bodyPost_ret (v := .tuple #[.agg #[.int .i64 0, .int .i64 0, .string ByteArray.empty, .slice none 0 0, .slice none 0 0], .bool false]) (results_cell_slot Try.results7 _ _ (w.heap.size + 1) 25 _ (0, 0) _ rfl hfin (by kernel_rfl) rfl) rfl ?_
    exact ⟨(fun x h => by rw [HG.out] at h; cases h), fun _ => rfl, stored_below (two_below hb2) (show w.heap.size ≤ w.heap.size + 1 by omega) _ _ _ _ _⟩
  | true =>
    have HG : Hid (V.get (.mk 5 n s its ks) key = M.lookup key ks its) := Lib.hid (by unfold V.get; simp [V.k, hw, V.ks, V.its])
    have HLN : Hid (ks.length = its.length) := Lib.hid (M.wf_rise hw rfl).2
    have HW := Lib.hid hw
    clear hw
    go_enter Try.func7, Try.ntmps7
    go_wp2_with fail
    refine (rWfX ⟨_, H0.out.later (two_below hb0) hhi⟩ (by omega)).mono ?_
    rintro e w1 ⟨rfl, hb1⟩
    rw [HW.out]
    have hb2 := two_step hb0 hb1
    have hz2 := two_size hb2
    clear b0 b1 b2 b3 b4
    obtain ⟨⟨b0, b1, b2, b3, b4⟩, -⟩ := two5 hb2
    go_wp2_with fail
    refine (rget_any (H0.out.later (two_below hb2) hhi) (by omega) HLN.out).mono ?_
    rintro e w3 ⟨hs, hn, hb3⟩
    have hb4 := two_step hb2 hb3
    obtain ⟨h1, h2⟩ := two_heap hb4 (Nat.le_refl _)
    obtain ⟨g0, g1, g2, g3, g4, f0, f1, f2, f3, f4⟩ := lit5 h2
    have H2 := Lib.hid h2
    have HG2 : Hid (V.get (.mk 5 n s its ks) key = M.lookup key ks its) := HG
    clear h1 h2 b0 b1 b2 b3 b4
    cases hlk : M.lookup key ks its with
    | none =>
      have he := hn hlk
      subst he
      have HG3 : Hid (V.get (.mk 5 n s its ks) key = none) := Lib.hid (HG.out.trans hlk)
      clear hs hn hlk
      go_wp2_with fail
      have hfin := lit_stored H2.out (.int .i64 0) (.int .i64 0) (.string ByteArray.empty) (.slice none 0 0) (.slice none 0 0)
      refine bodyPost_ret (v := .tuple #[.agg #[.int .i64 0, .int .i64 0, .string ByteArray.empty, .slice none 0 0, .slice none 0 0], .bool false]) (results_cell_slot Try.results7 _ _ (w.heap.size + 1) 25 _ (0, 0) _ rfl hfin (by kernel_rfl) rfl) rfl ?_
      exact ⟨(fun x h => by rw [HG3.out] at h; cases h), fun _ => rfl, stored_below (two_below hb4) (show w.heap.size ≤ w.heap.size + 1 by omega) _ _ _ _ _⟩
    | some tx =>
      obtain ⟨vx, rfl, hvx⟩ := hs tx hlk
      obtain ⟨A2, m2, c2, B2, p2, e2, rfl⟩ := hvx.form
      have HG3 : Hid (V.get (.mk 5 n s its ks) key = some tx) := Lib.hid (HG.out.trans hlk)
      have HVX := Lib.hid hvx
      clear hs hn hlk hvx
      go_wp2_with fail
      have hfin := lit_stored H2.out (.int .i64 tx.k) (.int .i64 tx.n) (.string tx.s) (.slice A2 m2 c2) (.slice B2 p2 e2)
      refine bodyPost_ret (v := .tuple #[.agg #[.int .i64 tx.k, .int .i64 tx.n, .string tx.s, .slice A2 m2 c2, .slice B2 p2 e2], .bool true]) (results_cell_slot Try.results7 _ _ (w.heap.size + 1) 25 _ (0, 0) _ rfl hfin (by kernel_rfl) rfl) rfl ?_
      refine ⟨fun z hz => ⟨_, rfl, ?_⟩, (fun h => by rw [HG3.out] at h; cases h), stored_below (two_below hb4) (show w.heap.size ≤ w.heap.size + 1 by omega) _ _ _ _ _⟩
      rw [HG3.out] at hz
      injection hz with hz
      subst hz
      exact HVX.out.kept (show Kept 0 hi w3 (stored w3 (w.heap.size + 1) (.int .i64 tx.k) (.int .i64 tx.n) (.string tx.s) (.slice A2 m2 c2) (.slice B2 p2 e2)) from fun b x1 x2 => stored_other _ _ _ _ _ _ _ _ (by omega))
end Go.Proofs.Ytcamhcgafmmkdaa
