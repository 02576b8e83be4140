/-
  Layer 2: the references that only read: few, Few, Depth, Size, Future, Short, Within.
-/
import Derived.Test.YtdkggnciamfcmaaGreatDoorVMem
namespace Go.Proofs.YtdkggnciamfcmaaGreatDoor
set_option linter.unusedVariables false
open Go.RowKit
open M (V)





def rDepthAt (d : Nat) : Prop := ∀ (v : Value) (t : V) (lo hi : Nat) (w : World), VB w lo hi d v t → hi ≤ w.heap.size → t.sz ≤ 1000000 →
  Calls Tryz.prog 62 #[v] w fun e w' => e = .returned (.int .i64 (t.dep : Int)) ∧ Below w.heap.size w w'

set_option maxRecDepth 100000 in
set_option maxHeartbeats 1000000 in
theorem rDepth_step (d : Nat) (ih : rDepthAt d) : rDepthAt (d + 1) := by
  intro v t lo hi w h hhi hsz
  rw [V.dep_eq]
  rw [V.sz_eq] at hsz
  have hds := V.deps_le_szs t.its
  obtain ⟨A, m, c, B, p, e, rfl, k1, k2, n1, n2, s1, hI, hK⟩ := h
  have hcap := hI.cap
  have hmost := hI.most
  have hcap2 := hK.cap
  have hmost2 := hK.most
  have HL := Lib.hid hI.len
  have HL2 := Lib.hid hK.len
  have HI := Lib.hid hI
  have HK := Lib.hid hK
  have IH := Lib.hid ih
  clear ih hI hK
  have DS := Lib.hid hds
  clear hds
  go_enter Tryz.func62, Tryz.ntmps62
  go_wp2_with fail
  go_loopw [3, 4] (fun x y wr => ∃ (j N : Nat), y = .int .i64 j ∧ j ≤ m ∧ x = .int .i64 N ∧ Hid (N = V.deps (t.its.take j)) ∧ N ≤ 1000000 ∧ Below (w.heap.size + 1) (w.alloc (.cells #[.int .i64 t.k, .int .i64 t.n, .string t.s, .slice A m c, .slice B p e] 25)) wr) (fun _ y _ => m - (intOf y).toNat)
  case atStart => exact ⟨0, 0, rfl, by omega, rfl, Lib.hid (by simp [V.deps]), by omega, Below.refl _ _⟩
  case round =>
    obtain ⟨j, N, rfl, hj, rfl, HN, hN1, hbox⟩ := hrel
    obtain ⟨b0, b1, b2, b3, b4⟩ := box5 hbox
    by_cases hlt : j < m
    · have hs1 : (t.its.getD j default).sz ≤ 1000000 := by
        have e1 := V.szs_snoc (l := t.its) (i := j) (by rw [HL.out]; exact hlt)
        have e2 := V.szs_take_le t.its (j + 1)
        omega
      have hd1 := V.dep_le_sz (t.its.getD j default)
      have hds := V.deps_snoc (l := t.its) (i := j) (by rw [HL.out]; exact hlt)
      rw [← HN.out] at hds
      generalize hq : t.its.getD j default = q at *
      obtain ⟨D, hD⟩ : ∃ D, D = q.dep := ⟨_, rfl⟩
      rw [← hD] at hds hd1
      have HDS := Lib.hid hds
      have HQ := Lib.hid hq
      have HD := Lib.hid hD
      clear hds hq hD
      obtain ⟨b, off, kk, ii, ss, x, y, rfl, c0, c1, c2, c3, c4, hv⟩ := HI.out.item (box_below hbox) hhi hlt
      have hbs := box_size hbox
      go_wp2_with fail
      refine (IH.out _ _ _ _ _ hv (by omega) (by rw [HQ.out]; exact hs1)).mono ?_
      rintro e w1 ⟨rfl, hb1⟩
      rw [HQ.out, ← HD.out]
      have hbox' := box_step hbox hb1
      clear c0 c1 c2 c3 c4 b0 b1 b2 b3 b4 hv
      by_cases hgt : N < D
      all_goals
        go_wp2_with fail
        go_roundw
      · exact ⟨j + 1, D, by go_num, by omega, rfl, Lib.hid (by rw [HDS.out]; omega), by omega, hbox'⟩
      · simp [intOf]; omega
      · exact ⟨j + 1, N, by go_num, by omega, rfl, Lib.hid (by rw [HDS.out]; omega), by omega, hbox'⟩
      · simp [intOf]; omega
    · go_wp2_with fail
      go_ret
      exact ⟨ret_int (by have := HN.out; rw [List.take_of_length_le (by rw [HL.out]; omega)] at this; omega), box_below hbox⟩

theorem rDepth_at : ∀ d, rDepthAt d
  | 0 => fun _ _ _ _ _ h _ _ => h.elim
  | d + 1 => rDepth_step d (rDepth_at d)
theorem rDepthX {v : Value} {t : V} {lo hi : Nat} {w : World} (h : VX w lo hi v t) (hhi : hi ≤ w.heap.size) (hsz : t.sz ≤ 1000000) :
    Calls Tryz.prog 62 #[v] w fun e w' => e = .returned (.int .i64 (t.dep : Int)) ∧ Below w.heap.size w w' := by
  obtain ⟨d, h⟩ := h
  exact rDepth_at d v t lo hi w h hhi hsz

def rSizeAt (d : Nat) : Prop := ∀ (v : Value) (t : V) (lo hi : Nat) (w : World), VB w lo hi d v t → hi ≤ w.heap.size → t.sz ≤ 1000000 →
  Calls Tryz.prog 63 #[v] w fun e w' => e = .returned (.int .i64 (t.sz : Int)) ∧ Below w.heap.size w w'

set_option maxRecDepth 100000 in
set_option maxHeartbeats 1000000 in
theorem rSize_step (d : Nat) (ih : rSizeAt d) : rSizeAt (d + 1) := by
  intro v t lo hi w h hhi hsz
  rw [V.sz_eq] at hsz ⊢
  obtain ⟨A, m, c, B, p, e, rfl, k1, k2, n1, n2, s1, hI, hK⟩ := h
  have hcap := hI.cap
  have hmost := hI.most
  have hcap2 := hK.cap
  have hmost2 := hK.most
  have HL := Lib.hid hI.len
  have HL2 := Lib.hid hK.len
  have HI := Lib.hid hI
  have HK := Lib.hid hK
  have IH := Lib.hid ih
  clear ih hI hK
  go_enter Tryz.func63, Tryz.ntmps63
  go_wp2_with fail
  go_loopw [3, 4] (fun x y wr => ∃ (j N : Nat), y = .int .i64 j ∧ j ≤ m ∧ x = .int .i64 N ∧ Hid (N = 1 + V.szs (t.its.take j)) ∧ N ≤ 1000000 ∧ Below (w.heap.size + 1) (w.alloc (.cells #[.int .i64 t.k, .int .i64 t.n, .string t.s, .slice A m c, .slice B p e] 25)) wr) (fun _ y _ => m - (intOf y).toNat)
  case atStart => exact ⟨0, 1, rfl, by omega, rfl, Lib.hid (by simp [V.szs]), by omega, Below.refl _ _⟩
  case round =>
    obtain ⟨j, N, rfl, hj, rfl, HN, hN1, hbox⟩ := hrel
    obtain ⟨b0, b1, b2, b3, b4⟩ := box5 hbox
    by_cases hlt : j < m
    · have e1 := V.szs_snoc (l := t.its) (i := j) (by rw [HL.out]; exact hlt)
      have e2 := V.szs_take_le t.its (j + 1)
      generalize hq : t.its.getD j default = q at *
      obtain ⟨D, hD⟩ : ∃ D, D = q.sz := ⟨_, rfl⟩
      have e3 : N + D = 1 + V.szs (t.its.take (j + 1)) := by have := HN.out; omega
      have e4 : N + D ≤ 1000000 := by omega
      have E3 := Lib.hid e3
      have HQ := Lib.hid hq
      have HD := Lib.hid hD
      clear e1 e2 e3 hq hD
      obtain ⟨b, off, kk, ii, ss, x, y, rfl, c0, c1, c2, c3, c4, hv⟩ := HI.out.item (box_below hbox) hhi hlt
      have hbs := box_size hbox
      go_wp2_with fail
      refine (IH.out _ _ _ _ _ hv (by omega) (by rw [HQ.out, ← HD.out]; omega)).mono ?_
      rintro e w1 ⟨rfl, hb1⟩
      rw [HQ.out, ← HD.out]
      have hbox' := box_step hbox hb1
      clear c0 c1 c2 c3 c4 b0 b1 b2 b3 b4 hv
      go_wp2_with fail
      go_roundw
      case rel => exact ⟨j + 1, N + D, by go_num, by omega, by go_num, Lib.hid (E3.out), by omega, hbox'⟩
      case measure => simp [intOf]; omega
    · go_wp2_with fail
      go_ret
      exact ⟨ret_int (by have := HN.out; rw [List.take_of_length_le (by rw [HL.out]; omega)] at this; omega), box_below hbox⟩

theorem rSize_at : ∀ d, rSizeAt d
  | 0 => fun _ _ _ _ _ h _ _ => h.elim
  | d + 1 => rSize_step d (rSize_at d)
theorem rSizeX {v : Value} {t : V} {lo hi : Nat} {w : World} (h : VX w lo hi v t) (hhi : hi ≤ w.heap.size) (hsz : t.sz ≤ 1000000) :
    Calls Tryz.prog 63 #[v] w fun e w' => e = .returned (.int .i64 (t.sz : Int)) ∧ Below w.heap.size w w' := by
  obtain ⟨d, h⟩ := h
  exact rSize_at d v t lo hi w h hhi hsz

def rFutureAt (d : Nat) : Prop := ∀ (v : Value) (t : V) (lo hi : Nat) (w : World), VB w lo hi d v t → hi ≤ w.heap.size → 
  Calls Tryz.prog 34 #[v] w fun e w' => e = .returned (.bool t.fut) ∧ Below w.heap.size w w'

set_option maxRecDepth 100000 in
set_option maxHeartbeats 1000000 in
theorem rFuture_step (d : Nat) (ih : rFutureAt d) : rFutureAt (d + 1) := by
  intro v t lo hi w h hhi
  rw [V.fut_eq]
  obtain ⟨A, m, c, B, p, e, rfl, k1, k2, n1, n2, s1, hI, hK⟩ := h
  have hcap := hI.cap
  have hmost := hI.most
  have hcap2 := hK.cap
  have hmost2 := hK.most
  have HL := Lib.hid hI.len
  have HL2 := Lib.hid hK.len
  have HI := Lib.hid hI
  have HK := Lib.hid hK
  have IH := Lib.hid ih
  clear ih hI hK
  go_enter Tryz.func34, Tryz.ntmps34
  go_wp2_with fail
  go_loopw [3] (fun y wr => ∃ (j : Nat), y = .int .i64 j ∧ j ≤ m ∧ Hid (V.futs (t.its.take j) = false) ∧ Below (w.heap.size + 1) (w.alloc (.cells #[.int .i64 t.k, .int .i64 t.n, .string t.s, .slice A m c, .slice B p e] 25)) wr) (fun y _ => m - (intOf y).toNat)
  case atStart => exact ⟨0, rfl, by omega, Lib.hid (by simp [V.futs]), Below.refl _ _⟩
  case round =>
    obtain ⟨j, rfl, hj, HN, hbox⟩ := hrel
    obtain ⟨b0, b1, b2, b3, b4⟩ := box5 hbox
    by_cases hlt : j < m
    · have e1 := V.futs_snoc (l := t.its) (i := j) (by rw [HL.out]; exact hlt)
      rw [HN.out] at e1
      cases hq : (t.its.getD j default).fut with
      | true =>
        have e2 := V.futs_get (l := t.its) (i := j) (by rw [HL.out]; exact hlt) hq
        have E2 := Lib.hid e2; have HQ := Lib.hid hq
        clear e1 e2 hq
        obtain ⟨b, off, kk, ii, ss, x, y, rfl, c0, c1, c2, c3, c4, hv⟩ := HI.out.item (box_below hbox) hhi hlt
        have hbs := box_size hbox
        go_wp2_with fail
        refine (IH.out _ _ _ _ _ hv (by omega)).mono ?_
        rintro e w1 ⟨rfl, hb1⟩
        rw [HQ.out]
        have hbox' := box_step hbox hb1
        go_wp2_with fail
        go_ret
        exact ⟨ret_bool (by rw [E2.out]; simp), box_below hbox'⟩
      | false =>
        rw [hq] at e1
        have E1 := Lib.hid e1; have HQ := Lib.hid hq
        clear e1 hq
        obtain ⟨b, off, kk, ii, ss, x, y, rfl, c0, c1, c2, c3, c4, hv⟩ := HI.out.item (box_below hbox) hhi hlt
        have hbs := box_size hbox
        go_wp2_with fail
        refine (IH.out _ _ _ _ _ hv (by omega)).mono ?_
        rintro e w1 ⟨rfl, hb1⟩
        rw [HQ.out]
        have hbox' := box_step hbox hb1
        clear c0 c1 c2 c3 c4 b0 b1 b2 b3 b4 hv
        go_wp2_with fail
        go_roundw
        case rel => exact ⟨j + 1, by go_num, by omega, Lib.hid E1.out, hbox'⟩
        case measure => simp [intOf]; omega
    · have e1 := HN.out
      rw [List.take_of_length_le (by rw [HL.out]; omega)] at e1
      have E1 := Lib.hid e1
      clear e1
      go_wp2_with fail
      go_ret
      exact ⟨ret_bool (by rw [E1.out, Bool.or_false]), box_below hbox⟩

theorem rFuture_at : ∀ d, rFutureAt d
  | 0 => fun _ _ _ _ _ h _ => h.elim
  | d + 1 => rFuture_step d (rFuture_at d)
theorem rFutureX {v : Value} {t : V} {lo hi : Nat} {w : World} (h : VX w lo hi v t) (hhi : hi ≤ w.heap.size) :
    Calls Tryz.prog 34 #[v] w fun e w' => e = .returned (.bool t.fut) ∧ Below w.heap.size w w' := by
  obtain ⟨d, h⟩ := h
  exact rFuture_at d v t lo hi w h hhi

end Go.Proofs.YtdkggnciamfcmaaGreatDoor
