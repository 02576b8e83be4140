/-
  Layer 2: the references Short, Within, Right.
-/
import Derived.Test.YtdkggnciamfcmaaGreatDoorVRefB
namespace Go.Proofs.YtdkggnciamfcmaaGreatDoor
set_option linter.unusedVariables false
open Go.RowKit
open M (V)

def rShortAt (d : Nat) : Prop := ∀ (v : Value) (t : V) (lo hi : Nat) (w : World), VB w lo hi d v t → hi ≤ w.heap.size →
  Calls Tryz.prog 61 #[v] w fun e w' => e = .returned (.bool (t.short)) ∧ Below w.heap.size w w'

set_option maxRecDepth 100000 in
set_option maxHeartbeats 1000000 in
theorem rShort_step (d : Nat) (ih : rShortAt d) : rShortAt (d + 1) := by
  intro v t lo hi w h hhi
  obtain ⟨k, n, s, its, ks⟩ := t
  obtain ⟨A, m, c, B, p, e, rfl, k1, k2, n1, n2, s1, hI, hK⟩ := h
  simp only [V.k, V.n, V.s, V.its, V.ks] at *
  have hcap := hI.cap
  have hmost := hI.most
  have hcap2 := hK.cap
  have hmost2 := hK.most
  have HL := Lib.hid hI.len
  have HL2 := Lib.hid hK.len
  have HI := Lib.hid hI
  have HK := Lib.hid hK
  have IH := Lib.hid ih
  clear ih hI hK
  by_cases hs : 4096 < s.size
  · go_enter Tryz.func61, Tryz.ntmps61
    go_wp2_with fail
    go_ret
    exact ⟨ret_bool (by simp [V.short, V.txt, V.s, M.fits_no hs]), (Below.refl _ _).alloc (Nat.le_refl _) _⟩
  · go_enter Tryz.func61, Tryz.ntmps61
    go_wp2_with fail
    go_loopw [3] (fun y wr => ∃ (j : Nat), y = .int .i64 j ∧ j ≤ p ∧ Hid (∀ q, q < j → M.fits (ks.getD q ByteArray.empty) = true) ∧ Below (w.heap.size + 1) (w.alloc (.cells #[.int .i64 k, .int .i64 n, .string s, .slice A m c, .slice B p e] 25)) wr) (fun y _ => p - (intOf y).toNat)
    case atStart => exact ⟨0, rfl, by omega, Lib.hid (fun q h => absurd h (by omega)), Below.refl _ _⟩
    case round =>
      obtain ⟨j, rfl, hj, HN, hbox⟩ := hrel
      obtain ⟨b0, b1, b2, b3, b4⟩ := box5 hbox
      by_cases hlt : j < p
      · obtain ⟨b, off, rfl, c0⟩ := HK.out.item (box_below hbox) hhi hlt
        have hz := HK.out.size j hlt
        generalize hx : ks.getD j ByteArray.empty = x at *
        have HX := Lib.hid hx
        clear hx
        by_cases hq : 4096 < x.size
        · go_wp2_with fail
          go_ret
          exact ⟨ret_bool (by simp [V.short, V.txt, V.ks, M.not_fits (q := j) (ks := ks) (by rw [HL2.out]; exact hlt) (by rw [HX.out]; exact M.fits_no hq)]), box_below hbox⟩
        · go_wp2_with fail
          go_roundw
          case rel =>
            refine ⟨j + 1, by go_num, by omega, Lib.hid (fun q h => ?_), hbox⟩
            rcases Nat.lt_or_ge q j with h' | h'
            · exact HN.out q h'
            · obtain rfl : q = j := by omega
              rw [HX.out]; exact M.fits_yes hq
          case measure => simp [intOf]; omega
      · have ha : ks.all M.fits = true := M.all_fits fun q h => HN.out q (by rw [HL2.out] at h; omega)
        have HA := Lib.hid ha
        clear ha
        obtain ⟨wo, rfl⟩ : ∃ wo : World, wo = wr := ⟨_, rfl⟩
        go_wp2_with fail
        go_loopw [4] (fun y wr => ∃ (j : Nat), y = .int .i64 j ∧ j ≤ m ∧ Hid (V.shorts (its.take j) = true) ∧ Below (w.heap.size + 1) (w.alloc (.cells #[.int .i64 k, .int .i64 n, .string s, .slice A m c, .slice B p e] 25)) wr) (fun y _ => m - (intOf y).toNat)
        case atStart => exact ⟨0, rfl, by omega, Lib.hid (by simp [V.shorts]), hbox⟩
        case round =>
          clear b0 b1 b2 b3 b4 hbox
          obtain ⟨i, rfl, hi2, HM, hbox⟩ := hrel
          obtain ⟨b0, b1, b2, b3, b4⟩ := box5 hbox
          by_cases hlt2 : i < m
          · have e1 := V.shorts_snoc (l := its) (i := i) (by rw [HL.out]; exact hlt2)
            rw [HM.out] at e1
            cases hq : (its.getD i default).short with
            | false =>
              have e2 := V.shorts_bad (l := its) (i := i) (by rw [HL.out]; exact hlt2) hq
              have E2 := Lib.hid e2; have HQ := Lib.hid hq
              clear e1 e2 hq
              obtain ⟨b, off, kk, ii, ss, x, y, rfl, c0, c1, c2, c3, c4, hv⟩ := HI.out.item (box_below hbox) hhi hlt2
              have hbs := box_size hbox
              go_wp2_with fail
              refine (IH.out _ _ _ _ _ hv (by omega)).mono ?_
              rintro e w1 ⟨rfl, hb1⟩
              rw [HQ.out]
              have hbox' := box_step hbox hb1
              go_wp2_with fail
              go_ret
              exact ⟨ret_bool (by rw [V.short_eq]; simp [V.its, E2.out]), box_below hbox'⟩
            | true =>
              rw [hq] at e1
              have E1 := Lib.hid e1; have HQ := Lib.hid hq
              clear e1 hq
              obtain ⟨b, off, kk, ii, ss, x, y, rfl, c0, c1, c2, c3, c4, hv⟩ := HI.out.item (box_below hbox) hhi hlt2
              have hbs := box_size hbox
              go_wp2_with fail
              refine (IH.out _ _ _ _ _ hv (by omega)).mono ?_
              rintro e w1 ⟨rfl, hb1⟩
              rw [HQ.out]
              have hbox' := box_step hbox hb1
              clear c0 c1 c2 c3 c4 b0 b1 b2 b3 b4 hv
              go_wp2_with fail
              go_roundw
              case rel => exact ⟨i + 1, by go_num, by omega, Lib.hid E1.out, hbox'⟩
              case measure => simp [intOf]; omega
          · have e1 := HM.out
            rw [List.take_of_length_le (by rw [HL.out]; omega)] at e1
            have E1 := Lib.hid e1
            clear e1
            go_wp2_with fail
            go_ret
            exact ⟨ret_bool (by rw [V.short_eq]; simp only [V.its, V.txt, V.s, V.ks, HA.out, E1.out, M.fits_yes hs]; rfl), box_below hbox⟩

theorem rShort_at : ∀ d, rShortAt d
  | 0 => fun _ _ _ _ _ h _ => h.elim
  | d + 1 => rShort_step d (rShort_at d)
theorem rShortX {v : Value} {t : V} {lo hi : Nat} {w : World} (h : VX w lo hi v t) (hhi : hi ≤ w.heap.size) :
    Calls Tryz.prog 61 #[v] w fun e w' => e = .returned (.bool (t.short)) ∧ Below w.heap.size w w' := by
  obtain ⟨d, h⟩ := h
  exact rShort_at d v t lo hi w h hhi


set_option maxRecDepth 100000 in
set_option maxHeartbeats 1000000 in
theorem rWithinX {v : Value} {t : V} {lo hi : Nat} {w : World} (h : VX w lo hi v t) (hhi : hi ≤ w.heap.size) (hsz : t.sz ≤ 1000000) :
    Calls Tryz.prog 33 #[v] w fun e w' => e = .returned (.bool t.within) ∧ Below w.heap.size w w' := by
  have hds := V.dep_le_sz t
  obtain ⟨A, m, c, B, p, e, rfl⟩ := h.form
  have hb0 := box_refl w (.cells #[.int .i64 t.k, .int .i64 t.n, .string t.s, .slice A m c, .slice B p e] 25)
  have h1 := h.later (box_below hb0) hhi
  have hz := box_size hb0
  obtain ⟨D, hD⟩ : ∃ D, D = t.dep := ⟨_, rfl⟩
  obtain ⟨Z, hZ⟩ : ∃ Z, Z = t.sz := ⟨_, rfl⟩
  rw [← hD, ← hZ] at hds
  have hw : t.within = (t.short && decide (D ≤ 16) && decide (Z ≤ 1000)) := by rw [hD, hZ]; rfl
  have HD := Lib.hid hD; have HZ := Lib.hid hZ; have HW := Lib.hid hw
  clear hD hZ hw
  cases hq : t.short with
  | false =>
    have HQ := Lib.hid hq
    clear hq
    go_enter Tryz.func33, Tryz.ntmps33
    go_wp2_with fail
    refine (rShortX h1 (by omega)).mono ?_
    rintro e w1 ⟨rfl, hb1⟩
    rw [HQ.out]
    go_wp2_with fail
    go_ret
    exact ⟨ret_bool (by rw [HW.out, HQ.out]; rfl), box_below (box_step hb0 hb1)⟩
  | true =>
    have HQ := Lib.hid hq
    clear hq
    by_cases hd : D ≤ 16
    all_goals
      go_enter Tryz.func33, Tryz.ntmps33
      go_wp2_with fail
      refine (rShortX h1 (by omega)).mono ?_
      rintro e w1 ⟨rfl, hb1⟩
      rw [HQ.out]
      have hb2 := box_step hb0 hb1
      obtain ⟨b0, b1, b2, b3, b4⟩ := box5 hb2
      have h2 := h.later (box_below hb2) hhi
      have hz2 := box_size hb2
      go_wp2_with fail
      refine (rDepthX h2 (by omega) hsz).mono ?_
      rintro e w2 ⟨rfl, hb3⟩
      rw [← HD.out]
      have hb4 := box_step hb2 hb3
      clear b0 b1 b2 b3 b4
      obtain ⟨b0, b1, b2, b3, b4⟩ := box5 hb4
      have h3 := h.later (box_below hb4) hhi
      have hz3 := box_size hb4
    · go_wp2_with fail
      refine (rSizeX h3 (by omega) hsz).mono ?_
      rintro e w3 ⟨rfl, hb5⟩
      rw [← HZ.out]
      have hb6 := box_step hb4 hb5
      by_cases hc : Z ≤ 1000
      all_goals
        go_wp2_with fail
        go_ret
        exact ⟨ret_bool (by rw [HW.out, HQ.out, decide_eq_true hd]; simp; omega), box_below hb6⟩
    · go_wp2_with fail
      go_ret
      exact ⟨ret_bool (by rw [HW.out, HQ.out]; simp [hd]), box_below hb4⟩

set_option maxRecDepth 100000 in
set_option maxHeartbeats 1000000 in
theorem rRightX {v : Value} {t : V} {lo hi : Nat} {w : World} (h : VX w lo hi v t) (hhi : hi ≤ w.heap.size) (hsz : t.sz ≤ 1000000) :
    Calls Tryz.prog 18 #[v] w fun e w' => e = .returned (.bool t.right) ∧ Below w.heap.size w w' := by
  obtain ⟨A, m, c, B, p, e, rfl⟩ := h.form
  have hb0 := box_refl w (.cells #[.int .i64 t.k, .int .i64 t.n, .string t.s, .slice A m c, .slice B p e] 25)
  have h1 := h.later (box_below hb0) hhi
  have hz := box_size hb0
  have hw : t.right = (t.wf && t.within && !t.fut) := rfl
  have HW := Lib.hid hw
  clear hw
  cases hq : t.wf with
  | false =>
    have HQ := Lib.hid hq
    clear hq
    go_enter Tryz.func18, Tryz.ntmps18
    go_wp2_with fail
    refine (rWfX h1 (by omega)).mono ?_
    rintro e w1 ⟨rfl, hb1⟩
    rw [HQ.out]
    go_wp2_with fail
    go_ret
    exact ⟨ret_bool (by rw [HW.out, HQ.out]; rfl), box_below (box_step hb0 hb1)⟩
  | true =>
    have HQ := Lib.hid hq
    clear hq
    cases hd : t.within
    all_goals
      have HD := Lib.hid hd
      clear hd
      go_enter Tryz.func18, Tryz.ntmps18
      go_wp2_with fail
      refine (rWfX h1 (by omega)).mono ?_
      rintro e w1 ⟨rfl, hb1⟩
      rw [HQ.out]
      have hb2 := box_step hb0 hb1
      obtain ⟨b0, b1, b2, b3, b4⟩ := box5 hb2
      have h2 := h.later (box_below hb2) hhi
      have hz2 := box_size hb2
      go_wp2_with fail
      refine (rWithinX h2 (by omega) hsz).mono ?_
      rintro e w2 ⟨rfl, hb3⟩
      rw [HD.out]
      have hb4 := box_step hb2 hb3
      clear b0 b1 b2 b3 b4
      obtain ⟨b0, b1, b2, b3, b4⟩ := box5 hb4
      have h3 := h.later (box_below hb4) hhi
      have hz3 := box_size hb4
    · go_wp2_with fail
      go_ret
      exact ⟨ret_bool (by rw [HW.out, HQ.out, HD.out]; rfl), box_below hb4⟩
    · go_wp2_with fail
      refine (rFutureX h3 (by omega)).mono ?_
      rintro e w3 ⟨rfl, hb5⟩
      have hb6 := box_step hb4 hb5
      go_wp2_with fail
      go_ret
      exact ⟨ret_bool (by rw [HW.out, HQ.out, HD.out]; simp), box_below hb6⟩
end Go.Proofs.YtdkggnciamfcmaaGreatDoor
