/-
  Layer 2: the code's wellFormed, isMap.
-/
import Derived.Test.YtdkggnciamfcmaaGreatDoorVCodA
namespace Go.Proofs.YtdkggnciamfcmaaGreatDoor
set_option linter.unusedVariables false
open Go.RowKit
open M (V)

def wfAt (d : Nat) : Prop := ∀ (v : Value) (t : V) (lo hi : Nat) (w : World), VB w lo hi d v t → hi ≤ w.heap.size →
  Calls Tryz.prog 36 #[v] w fun e w' => e = .returned (.bool t.wf) ∧ Below w.heap.size w w'

set_option maxRecDepth 100000 in
set_option maxHeartbeats 2000000 in
theorem wf_step (d : Nat) (ih : wfAt d) : wfAt (d + 1) := by
  intro v t lo hi w h hhi
  obtain ⟨k, n, s, its, ks⟩ := t
  have h0 := h
  obtain ⟨A, m, c, B, p, e, rfl, k1, k2, n1, n2, s1, hI, hK⟩ := h
  simp only [V.k, V.n, V.s, V.its, V.ks] at hI hK k1 k2 n1 n2 s1 h0 ⊢
  have hcap := hI.cap
  have hmost := hI.most
  have hcap2 := hK.cap
  have hmost2 := hK.most
  have HL := Lib.hid hI.len
  have HL2 := Lib.hid hK.len
  have HI := Lib.hid hI
  have HK := Lib.hid hK
  have H0 := Lib.hid h0
  have IH := Lib.hid ih
  clear ih hI hK h0
  have hb0 := box_refl w (.cells #[.int .i64 k, .int .i64 n, .string s, .slice A m c, .slice B p e] 25)
  have h1 := (H0.out).kept (Kept.of_below (lo := lo) (box_below hb0) hhi)
  have hz := box_size hb0
  have hWE : (V.mk k n s its ks).wf = ((V.mk k n s its ks).top && V.wfs its) := V.wf_eq _
  cases hu : (V.mk k n s its ks).top with
  | false =>
    have HU := Lib.hid hu; have HWE := Lib.hid hWE
    clear hu hWE
    go_enter Tryz.func36, Tryz.ntmps36
    go_wp2_with fail
    refine (uses_any h1 (by omega)).mono ?_
    rintro e w1 ⟨rfl, hb1⟩
    rw [HU.out]
    go_wp2_with fail
    go_ret
    exact ⟨ret_bool (by rw [HWE.out, HU.out]; rfl), box_below (box_step hb0 hb1)⟩
  | true =>
    rw [hu, Bool.true_and] at hWE
    have HU := Lib.hid hu; have HWE := Lib.hid hWE
    clear hu hWE
    go_enter Tryz.func36, Tryz.ntmps36
    go_wp2_with fail
    refine (uses_any h1 (by omega)).mono ?_
    rintro e w1 ⟨rfl, hb1⟩
    rw [HU.out]
    have hb2 := box_step hb0 hb1
    obtain ⟨b0, b1, b2, b3, b4⟩ := box5 hb2
    go_wp2_with fail
    clear b0 b1 b2 b3 b4 hb0 hb1 h1
    go_loopw [11] (fun y wr => ∃ (j : Nat), y = .int .i64 j ∧ j ≤ m ∧ Hid (V.wfs (its.take j) = true) ∧ Below (w.heap.size + 1) (w.alloc (.cells #[.int .i64 k, .int .i64 n, .string s, .slice A m c, .slice B p e] 25)) wr) (fun y _ => m - (intOf y).toNat)
    case atStart => exact ⟨0, rfl, by omega, Lib.hid (by simp [V.wfs]), hb2⟩
    case round =>
      clear hb2
      obtain ⟨j, rfl, hj, HN, hbox⟩ := hrel
      by_cases hlt : j < m
      · have e1 := V.wfs_snoc (l := its) (i := j) (by rw [HL.out]; exact hlt)
        rw [HN.out] at e1
        cases hq : (its.getD j default).wf with
        | false =>
          have e2 := V.wfs_bad (l := its) (i := j) (by rw [HL.out]; exact hlt) hq
          have E2 := Lib.hid e2; have HQ := Lib.hid hq
          clear e1 e2 hq
          obtain ⟨b, off, kk, ii, ss, x, y, rfl, c0, c1, c2, c3, c4, hv⟩ := HI.out.item (box_below hbox) hhi hlt
          have hbs := box_size hbox
          obtain ⟨A1, n1', c1', B1, m1', e1', rfl, rfl⟩ := hv.cells
          have hv2 := hv.kept (show Kept lo hi wr (wr.alloc (.cells #[.int .i64 kk, .int .i64 ii, .string ss, .slice A1 n1' c1', .slice B1 m1' e1'] 25)) from fun b _ h2 => Below.heap_alloc wr _ b (by omega))
          have hbox2 := hbox.alloc (by omega) (.cells #[.int .i64 kk, .int .i64 ii, .string ss, .slice A1 n1' c1', .slice B1 m1' e1'] 25)
          go_wp2_with fail
          refine (IH.out _ _ _ _ _ hv2 (by simp; omega)).mono ?_
          rintro e w1 ⟨rfl, hb1⟩
          rw [HQ.out]
          have hbox' := box_step hbox2 hb1
          go_wp2_with fail
          go_ret
          exact ⟨ret_bool (by rw [HWE.out, E2.out]), box_below hbox'⟩
        | true =>
          rw [hq] at e1
          have E1 := Lib.hid e1; have HQ := Lib.hid hq
          clear e1 hq
          obtain ⟨b, off, kk, ii, ss, x, y, rfl, c0, c1, c2, c3, c4, hv⟩ := HI.out.item (box_below hbox) hhi hlt
          have hbs := box_size hbox
          obtain ⟨A1, n1', c1', B1, m1', e1', rfl, rfl⟩ := hv.cells
          have hv2 := hv.kept (show Kept lo hi wr (wr.alloc (.cells #[.int .i64 kk, .int .i64 ii, .string ss, .slice A1 n1' c1', .slice B1 m1' e1'] 25)) from fun b _ h2 => Below.heap_alloc wr _ b (by omega))
          have hbox2 := hbox.alloc (by omega) (.cells #[.int .i64 kk, .int .i64 ii, .string ss, .slice A1 n1' c1', .slice B1 m1' e1'] 25)
          go_wp2_with fail
          refine (IH.out _ _ _ _ _ hv2 (by simp; omega)).mono ?_
          rintro e w1 ⟨rfl, hb1⟩
          rw [HQ.out]
          have hbox' := box_step hbox2 hb1
          clear c0 c1 c2 c3 c4 hv hv2 hbox2
          go_wp2_with fail
          go_roundw
          case rel => exact ⟨j + 1, by go_num, by omega, Lib.hid E1.out, hbox'⟩
          case measure => simp [intOf]; omega
      · have e1 := HN.out
        rw [List.take_of_length_le (by rw [HL.out]; omega)] at e1
        have E1 := Lib.hid e1
        clear e1
        go_wp2_with fail
        go_ret
        exact ⟨ret_bool (by rw [HWE.out, E1.out]), box_below hbox⟩

theorem wf_at : ∀ d, wfAt d
  | 0 => fun _ _ _ _ _ h _ => h.elim
  | d + 1 => wf_step d (wf_at d)
theorem wfX {v : Value} {t : V} {lo hi : Nat} {w : World} (h : VX w lo hi v t) (hhi : hi ≤ w.heap.size) :
    Calls Tryz.prog 36 #[v] w fun e w' => e = .returned (.bool t.wf) ∧ Below w.heap.size w w' := by
  obtain ⟨d, h⟩ := h
  exact wf_at d v t lo hi w h hhi

end Go.Proofs.YtdkggnciamfcmaaGreatDoor
