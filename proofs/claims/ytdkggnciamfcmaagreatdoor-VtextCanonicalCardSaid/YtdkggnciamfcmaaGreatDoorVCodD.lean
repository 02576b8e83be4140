/-
  Layer 2: the code's roomAfter, withinLimits, Right, Depth, Size.
-/
import Derived.Test.YtdkggnciamfcmaaGreatDoorVCodC
import Derived.Test.YtdkggnciamfcmaaGreatDoorVal4
namespace Go.Proofs.YtdkggnciamfcmaaGreatDoor
set_option linter.unusedVariables false
open Go.RowKit
open M (V)

def roomAt (d : Nat) : Prop := ∀ (v : Value) (t : V) (lo hi : Nat) (depth room : Int) (w : World), VB w lo hi d v t → hi ≤ w.heap.size → 0 ≤ depth → depth ≤ 1000000 → 0 ≤ room → room ≤ 1000000 →
  Calls Tryz.prog 64 #[v, .int .i64 depth, .int .i64 room] w fun e w' => e = .returned (.int .i64 (t.room depth room)) ∧ Below w.heap.size w w'

set_option maxRecDepth 100000 in
set_option maxHeartbeats 2000000 in
theorem room_step (d : Nat) (ih : roomAt d) : roomAt (d + 1) := by
  intro v t lo hi depth room w h hhi hd1 hd2 hr1 hr2
  have h0 := h
  obtain ⟨A, m, c, B, p, e, rfl, k1, k2, n1, n2, s1, hI, hK⟩ := h
  have hcap := hI.cap
  have hmost := hI.most
  have HL := Lib.hid hI.len
  have HI := Lib.hid hI
  have H0 := Lib.hid h0
  have IH := Lib.hid ih
  clear ih hI hK h0
  have hb0 := box_refl w (.cells #[.int .i64 t.k, .int .i64 t.n, .string t.s, .slice A m c, .slice B p e] 25)
  have h1 := (H0.out).kept (Kept.of_below (lo := lo) (box_below hb0) hhi)
  have hz := box_size hb0
  by_cases hdp : 16 < depth
  · have HE := Lib.hid (V.room_deep (t := t) (room := room) hdp)
    go_enter Tryz.func64, Tryz.ntmps64
    go_wp2_with fail
    go_ret
    exact ⟨ret_int (by rw [HE.out]), box_below hb0⟩
  by_cases hrm : room = 0
  · subst hrm
    go_enter Tryz.func64, Tryz.ntmps64
    go_wp2_with fail
    go_ret
    exact ⟨ret_int V.room_none.symm, box_below hb0⟩
  have hr0 : (room == 0) = false := by rw [beq_eq_false_iff_ne]; exact hrm
  have hr3 : 0 ≤ room - 1 := by omega
  clear hrm
  cases hu : t.txt with
  | false =>
    have HE := Lib.hid (V.room_long (t := t) (room := room) (depth := depth) hu)
    have HU := Lib.hid hu
    clear hu
    go_enter Tryz.func64, Tryz.ntmps64
    go_wp2_with fail
    refine (textsFitX h1 (by omega)).mono ?_
    rintro e w1 ⟨rfl, hb1⟩
    rw [HU.out]
    go_wp2_with fail
    go_ret
    exact ⟨ret_int (by rw [HE.out]), box_below (box_step hb0 hb1)⟩
  | true =>
    have HE := Lib.hid (V.room_end (t := t) (room := room) (depth := depth) hu)
    have HU := Lib.hid hu
    clear hu
    go_enter Tryz.func64, Tryz.ntmps64
    go_wp2_with fail
    refine (textsFitX h1 (by omega)).mono ?_
    rintro e w1 ⟨rfl, hb1⟩
    rw [HU.out]
    have hb2 := box_step hb0 hb1
    obtain ⟨b0, b1, b2, b3, b4⟩ := box5 hb2
    go_wp2_with fail
    clear b0 b1 b2 b3 b4 hb0 hb1 h1 hr0
    go_loopw [2, 25] (fun x y wr => ∃ (j : Nat) (N : Int), y = .int .i64 j ∧ j ≤ m ∧ x = .int .i64 N ∧ 0 ≤ N ∧ N ≤ 1000000 ∧ Hid (N = V.rooms (t.its.take j) (depth + 1) (room - 1)) ∧ Below (w.heap.size + 1) (w.alloc (.cells #[.int .i64 t.k, .int .i64 t.n, .string t.s, .slice A m c, .slice B p e] 25)) wr) (fun _ y _ => m - (intOf y).toNat)
    case atStart => exact ⟨0, room - 1, rfl, by omega, rfl, by omega, by omega, Lib.hid (by rw [List.take_zero, V.rooms_nil (by omega) (by omega)]), hb2⟩
    case round =>
      clear hb2
      obtain ⟨j, N, rfl, hj, rfl, hN0, hN1, HN, hbox⟩ := hrel
      by_cases hlt : j < m
      · have hnx := V.rooms_next (l := t.its) (i := j) (depth := depth + 1) (room := room - 1) (by rw [HL.out]; exact hlt) (by rw [← HN.out]; exact hN0)
        have hle := V.rooms_le (l := t.its.take (j + 1)) (depth := depth + 1) (room := room - 1) (by omega)
        rw [← HN.out] at hnx
        obtain ⟨N', hN'⟩ : ∃ N', N' = V.rooms (t.its.take (j + 1)) (depth + 1) (room - 1) := ⟨_, rfl⟩
        rw [← hN'] at hnx hle
        have HN' := Lib.hid hN'; have HNX := Lib.hid hnx
        clear hN' hnx
        obtain ⟨b, off, kk, ii, ss, x, y, rfl, c0, c1, c2, c3, c4, hv⟩ := HI.out.item (box_below hbox) hhi hlt
        have hbs := box_size hbox
        obtain ⟨A1, n1', c1', B1, m1', e1', rfl, rfl⟩ := hv.cells
        have hv2 := hv.kept (show Kept lo hi wr (wr.alloc (.cells #[.int .i64 kk, .int .i64 ii, .string ss, .slice A1 n1' c1', .slice B1 m1' e1'] 25)) from fun b _ h2 => Below.heap_alloc wr _ b (by omega))
        have hbox2 := hbox.alloc (by omega) (.cells #[.int .i64 kk, .int .i64 ii, .string ss, .slice A1 n1' c1', .slice B1 m1' e1'] 25)
        go_wp2_with fail
        refine (IH.out _ _ _ _ _ _ _ hv2 (by simp; omega) (by omega) (by omega) hN0 hN1).mono ?_
        rintro e w1 ⟨rfl, hb1⟩
        rw [HNX.out]
        have hbox' := box_step hbox2 hb1
        clear c0 c1 c2 c3 c4 hv hv2 hbox2
        by_cases hneg : N' < 0
        · go_wp2_with fail
          go_ret
          exact ⟨ret_int (by rw [HE.out, V.rooms_stop (i := j + 1) (by rw [← HN'.out]; exact hneg)]), box_below hbox'⟩
        · go_wp2_with fail
          go_roundw
          case rel => exact ⟨j + 1, N', by go_num, by omega, rfl, by omega, by omega, HN', hbox'⟩
          case measure => simp [intOf]; omega
      · go_wp2_with fail
        go_ret
        exact ⟨ret_int (by rw [HE.out, HN.out, V.rooms_all (by rw [HL.out]; omega)]), box_below hbox⟩

theorem room_at : ∀ d, roomAt d
  | 0 => fun _ _ _ _ _ _ _ h _ _ _ _ _ => h.elim
  | d + 1 => room_step d (room_at d)

set_option maxRecDepth 100000 in
set_option maxHeartbeats 1000000 in
theorem withinX {v : Value} {t : V} {lo hi : Nat} {w : World} (h : VX w lo hi v t) (hhi : hi ≤ w.heap.size) :
    Calls Tryz.prog 35 #[v] w fun e w' => e = .returned (.bool t.within) ∧ Below w.heap.size w w' := by
  obtain ⟨A, m, c, B, p, e, rfl⟩ := h.form
  have hb0 := box_refl w (.cells #[.int .i64 t.k, .int .i64 t.n, .string t.s, .slice A m c, .slice B p e] 25)
  have h1 := h.later (box_below hb0) hhi
  have hz := box_size hb0
  obtain ⟨d, hd⟩ := h1
  have HW := Lib.hid (V.within_room t)
  obtain ⟨R, hR⟩ : ∃ R, R = t.room 1 1000 := ⟨_, rfl⟩
  have HR := Lib.hid hR
  clear hR
  go_enter Tryz.func35, Tryz.ntmps35
  go_wp2_with fail
  refine (room_at d _ _ _ _ _ _ _ hd (by omega) (by omega) (by omega) (by omega) (by omega)).mono ?_
  rintro e w1 ⟨rfl, hb1⟩
  rw [← HR.out]
  have hb2 := box_step hb0 hb1
  by_cases hn : 0 ≤ R
  all_goals
    go_wp2_with fail
    go_ret
    exact ⟨ret_bool (by rw [← HW.out, ← HR.out]; first | done | simp [hn]), box_below hb2⟩

set_option maxRecDepth 100000 in
set_option maxHeartbeats 1000000 in
theorem rightX {v : Value} {t : V} {lo hi : Nat} {w : World} (h : VX w lo hi v t) (hhi : hi ≤ w.heap.size) :
    Calls Tryz.prog 19 #[v] w fun e w' => e = .returned (.bool t.right) ∧ Below w.heap.size w w' := by
  obtain ⟨A, m, c, B, p, e, rfl⟩ := h.form
  have hb0 := box_refl w (.cells #[.int .i64 t.k, .int .i64 t.n, .string t.s, .slice A m c, .slice B p e] 25)
  have h1 := h.later (box_below hb0) hhi
  have hz := box_size hb0
  have hw : t.right = (t.within && t.wf && !t.fut) := by unfold V.right; rw [Bool.and_comm t.wf]
  have HW := Lib.hid hw
  clear hw
  cases hq : t.within with
  | false =>
    have HQ := Lib.hid hq
    clear hq
    go_enter Tryz.func19, Tryz.ntmps19
    go_wp2_with fail
    refine (withinX h1 (by omega)).mono ?_
    rintro e w1 ⟨rfl, hb1⟩
    rw [HQ.out]
    go_wp2_with fail
    go_ret
    exact ⟨ret_bool (by rw [HW.out, HQ.out]; rfl), box_below (box_step hb0 hb1)⟩
  | true =>
    have HQ := Lib.hid hq
    clear hq
    cases hd : t.wf
    all_goals
      have HD := Lib.hid hd
      clear hd
      go_enter Tryz.func19, Tryz.ntmps19
      go_wp2_with fail
      refine (withinX h1 (by omega)).mono ?_
      rintro e w1 ⟨rfl, hb1⟩
      rw [HQ.out]
      have hb2 := box_step hb0 hb1
      obtain ⟨b0, b1, b2, b3, b4⟩ := box5 hb2
      have h2 := h.later (box_below hb2) hhi
      have hz2 := box_size hb2
      go_wp2_with fail
      refine (wfX h2 (by omega)).mono ?_
      rintro e w2 ⟨rfl, hb3⟩
      rw [HD.out]
      have hb4 := box_step hb2 hb3
      clear b0 b1 b2 b3 b4
      obtain ⟨b0, b1, b2, b3, b4⟩ := box5 hb4
      have h3 := h.later (box_below hb4) hhi
      have hz3 := box_size hb4
    · go_wp2_with fail
      go_ret
      exact ⟨ret_bool (by rw [HW.out, HQ.out, HD.out]; rfl), box_below hb4⟩
    · go_wp2_with fail
      refine (futX h3 (by omega)).mono ?_
      rintro e w3 ⟨rfl, hb5⟩
      have hb6 := box_step hb4 hb5
      go_wp2_with fail
      go_ret
      exact ⟨ret_bool (by rw [HW.out, HQ.out, HD.out]; simp), box_below hb6⟩






end Go.Proofs.YtdkggnciamfcmaaGreatDoor
