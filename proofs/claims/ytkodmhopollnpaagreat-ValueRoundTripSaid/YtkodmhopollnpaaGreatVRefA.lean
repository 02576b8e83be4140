/-
  Layer 2: the references that only read: few, Few, Depth, Size, Future, Short, Within.
-/
import Derived.Test.YtkodmhopollnpaaGreatVMem
namespace Go.Proofs.YtkodmhopollnpaaGreat
set_option linter.unusedVariables false
open Go.RowKit
open M (V)

def FewAt (d : Nat) : Prop := ∀ (v : Value) (t : V) (lo hi : Nat) (n : Int) (w : World), VB w lo hi d v t → hi ≤ w.heap.size → 0 ≤ n → n ≤ 1000000 →
  Calls Tryz.prog 32 #[v, .int .i64 n] w fun e w' => e = .returned (.int .i64 (t.few n)) ∧ Below w.heap.size w w'

set_option maxRecDepth 100000 in
set_option maxHeartbeats 1000000 in
theorem few_step (d : Nat) (ih : FewAt d) : FewAt (d + 1) := by
  intro v t lo hi n w h hhi h0 h1
  rw [V.few_end rfl]
  obtain ⟨A, m, c, B, p, e, rfl, k1, k2, n1, n2, s1, hI, hK⟩ := h
  have hcap := hI.cap
  have hmost := hI.most
  have hcap2 := hK.cap
  have hmost2 := hK.most
  have HL := Lib.hid hI.len
  have HL2 := Lib.hid hK.len
  have HI := Lib.hid hI
  have HK := Lib.hid hK
  have IH := Lib.hid ih
  clear ih hI hK
  go_enter Tryz.func32, Tryz.ntmps32
  go_wp2_with fail
  go_loopw [1, 5] (fun x y wr => ∃ (j : Nat) (N : Int), y = .int .i64 j ∧ j ≤ m ∧ x = .int .i64 N ∧ Hid (N = V.fews (t.its.take j) (n - 1)) ∧ -1 ≤ N ∧ N ≤ n - 1 ∧ Below (w.heap.size + 1) (w.alloc (.cells #[.int .i64 t.k, .int .i64 t.n, .string t.s, .slice A m c, .slice B p e] 31)) wr) (fun _ y _ => m - (intOf y).toNat)
  case atStart => exact ⟨0, n - 1, rfl, by omega, rfl, Lib.hid (by simp [V.fews, V.szs]; omega), by omega, by omega, Below.refl _ _⟩
  case round =>
    obtain ⟨j, N, rfl, hj, rfl, HN, hN1, hN2, hbox⟩ := hrel
    obtain ⟨b0, b1, b2, b3, b4⟩ := box5 hbox
    by_cases hlt : j < m
    · by_cases hN : 0 ≤ N
      · obtain ⟨b, off, kk, ii, ss, x, y, rfl, c0, c1, c2, c3, c4, hv⟩ := HI.out.item (box_below hbox) hhi hlt
        have hbs := box_size hbox
        go_wp2_with fail
        refine (IH.out _ _ _ _ _ _ hv (by omega) (by omega) (by omega)).mono ?_
        rintro e w1 ⟨rfl, hb1⟩
        rw [HN.out, V.fews_next (by rw [HL.out]; exact hlt) (by rw [← HN.out]; exact hN)]
        have hbox' := box_step hbox hb1
        clear c0 c1 c2 c3 c4 b0 b1 b2 b3 b4
        obtain ⟨N', hN'⟩ : ∃ N', N' = V.fews (List.take (j + 1) t.its) (n - 1) := ⟨_, rfl⟩
        have hle := V.fews_le (l := List.take (j + 1) t.its) (n := n - 1) (by omega)
        rw [← hN'] at hle ⊢
        have HN' := Lib.hid hN'
        clear hN'
        go_wp2_with fail
        go_roundw
        case rel => exact ⟨j + 1, N', by go_num, by omega, rfl, HN', by omega, by omega, hbox'⟩
        case measure => simp [intOf]; omega
      · go_wp2_with fail
        go_ret
        exact ⟨ret_int (by rw [V.fews_stop (i := j) (by rw [← HN.out]; omega), ← HN.out]), box_below hbox⟩
    · go_wp2_with fail
      go_ret
      exact ⟨ret_int (by rw [HN.out, V.fews_all (by rw [HL.out]; omega)]), box_below hbox⟩

theorem few_at : ∀ d, FewAt d
  | 0 => fun _ _ _ _ _ _ h _ _ _ => h.elim
  | d + 1 => few_step d (few_at d)

set_option maxRecDepth 100000 in
set_option maxHeartbeats 1000000 in
theorem fewX {v : Value} {t : V} {lo hi : Nat} {n : Int} {w : World} (h : VX w lo hi v t) (hhi : hi ≤ w.heap.size) (h0 : 0 ≤ n) (h1 : n ≤ 1000000) :
    Calls Tryz.prog 15 #[v, .int .i64 n] w fun e w' => e = .returned (.bool (decide ((t.sz : Int) ≤ n))) ∧ Below w.heap.size w w' := by
  have h' := h
  obtain ⟨A, m, c, B, p, e, rfl⟩ := h.form
  obtain ⟨d, h⟩ := h
  obtain ⟨N, hN⟩ : ∃ N, N = t.few n := ⟨_, rfl⟩
  have hh : decide ((t.sz : Int) ≤ n) = decide (0 ≤ N) := by rw [hN]; unfold V.few; by_cases hc : (t.sz : Int) ≤ n <;> simp [hc]
  rw [hh]
  have HN := Lib.hid hN
  clear hN hh
  go_enter Tryz.func15, Tryz.ntmps15
  go_wp2_with fail
  refine (few_at d _ t lo hi _ _ (h.kept (Kept.of_below ((Below.refl _ _).alloc (Nat.le_refl _) _) hhi)) (by simp; omega) h0 h1).mono ?_
  rintro e w1 ⟨rfl, hb⟩
  rw [← HN.out]
  by_cases hc : 0 ≤ N
  all_goals
    go_wp2_with fail
    go_ret
    exact ⟨ret_bool (by simp [hc]), below_step ((Below.refl _ _).alloc (Nat.le_refl _) _) hb⟩

def rDepthAt (d : Nat) : Prop := ∀ (v : Value) (t : V) (lo hi : Nat) (w : World), VB w lo hi d v t → hi ≤ w.heap.size → t.sz ≤ 1000000 →
  Calls Tryz.prog 61 #[v] w fun e w' => e = .returned (.int .i64 (t.dep : Int)) ∧ Below w.heap.size w w'

set_option maxRecDepth 100000 in
set_option maxHeartbeats 1000000 in
theorem rDepth_step (d : Nat) (ih : rDepthAt d) : rDepthAt (d + 1) := by
  intro v t lo hi w h hhi hsz
  rw [V.dep_eq]
  rw [V.sz_eq] at hsz
  have hds := V.deps_le_szs t.its
  obtain ⟨A, m, c, B, p, e, rfl, k1, k2, n1, n2, s1, hI, hK⟩ := h
  have hcap := hI.cap
  have hmost := hI.most
  have hcap2 := hK.cap
  have hmost2 := hK.most
  have HL := Lib.hid hI.len
  have HL2 := Lib.hid hK.len
  have HI := Lib.hid hI
  have HK := Lib.hid hK
  have IH := Lib.hid ih
  clear ih hI hK
  have DS := Lib.hid hds
  clear hds
  go_enter Tryz.func61, Tryz.ntmps61
  go_wp2_with fail
  go_loopw [3, 4] (fun x y wr => ∃ (j N : Nat), y = .int .i64 j ∧ j ≤ m ∧ x = .int .i64 N ∧ Hid (N = V.deps (t.its.take j)) ∧ N ≤ 1000000 ∧ Below (w.heap.size + 1) (w.alloc (.cells #[.int .i64 t.k, .int .i64 t.n, .string t.s, .slice A m c, .slice B p e] 31)) wr) (fun _ y _ => m - (intOf y).toNat)
  case atStart => exact ⟨0, 0, rfl, by omega, rfl, Lib.hid (by simp [V.deps]), by omega, Below.refl _ _⟩
  case round =>
    obtain ⟨j, N, rfl, hj, rfl, HN, hN1, hbox⟩ := hrel
    obtain ⟨b0, b1, b2, b3, b4⟩ := box5 hbox
    by_cases hlt : j < m
    · have hs1 : (t.its.getD j default).sz ≤ 1000000 := by
        have e1 := V.szs_snoc (l := t.its) (i := j) (by rw [HL.out]; exact hlt)
        have e2 := V.szs_take_le t.its (j + 1)
        omega
      have hd1 := V.dep_le_sz (t.its.getD j default)
      have hds := V.deps_snoc (l := t.its) (i := j) (by rw [HL.out]; exact hlt)
      rw [← HN.out] at hds
      generalize hq : t.its.getD j default = q at *
      obtain ⟨D, hD⟩ : ∃ D, D = q.dep := ⟨_, rfl⟩
      rw [← hD] at hds hd1
      have HDS := Lib.hid hds
      have HQ := Lib.hid hq
      have HD := Lib.hid hD
      clear hds hq hD
      obtain ⟨b, off, kk, ii, ss, x, y, rfl, c0, c1, c2, c3, c4, hv⟩ := HI.out.item (box_below hbox) hhi hlt
      have hbs := box_size hbox
      go_wp2_with fail
      refine (IH.out _ _ _ _ _ hv (by omega) (by rw [HQ.out]; exact hs1)).mono ?_
      rintro e w1 ⟨rfl, hb1⟩
      rw [HQ.out, ← HD.out]
      have hbox' := box_step hbox hb1
      clear c0 c1 c2 c3 c4 b0 b1 b2 b3 b4 hv
      by_cases hgt : N < D
      all_goals
        go_wp2_with fail
        go_roundw
      · exact ⟨j + 1, D, by go_num, by omega, rfl, Lib.hid (by rw [HDS.out]; omega), by omega, hbox'⟩
      · simp [intOf]; omega
      · exact ⟨j + 1, N, by go_num, by omega, rfl, Lib.hid (by rw [HDS.out]; omega), by omega, hbox'⟩
      · simp [intOf]; omega
    · go_wp2_with fail
      go_ret
      exact ⟨ret_int (by have := HN.out; rw [List.take_of_length_le (by rw [HL.out]; omega)] at this; omega), box_below hbox⟩

theorem rDepth_at : ∀ d, rDepthAt d
  | 0 => fun _ _ _ _ _ h _ _ => h.elim
  | d + 1 => rDepth_step d (rDepth_at d)
theorem rDepthX {v : Value} {t : V} {lo hi : Nat} {w : World} (h : VX w lo hi v t) (hhi : hi ≤ w.heap.size) (hsz : t.sz ≤ 1000000) :
    Calls Tryz.prog 61 #[v] w fun e w' => e = .returned (.int .i64 (t.dep : Int)) ∧ Below w.heap.size w w' := by
  obtain ⟨d, h⟩ := h
  exact rDepth_at d v t lo hi w h hhi hsz

def rSizeAt (d : Nat) : Prop := ∀ (v : Value) (t : V) (lo hi : Nat) (w : World), VB w lo hi d v t → hi ≤ w.heap.size → t.sz ≤ 1000000 →
  Calls Tryz.prog 62 #[v] w fun e w' => e = .returned (.int .i64 (t.sz : Int)) ∧ Below w.heap.size w w'

set_option maxRecDepth 100000 in
set_option maxHeartbeats 1000000 in
theorem rSize_step (d : Nat) (ih : rSizeAt d) : rSizeAt (d + 1) := by
  intro v t lo hi w h hhi hsz
  rw [V.sz_eq] at hsz ⊢
  obtain ⟨A, m, c, B, p, e, rfl, k1, k2, n1, n2, s1, hI, hK⟩ := h
  have hcap := hI.cap
  have hmost := hI.most
  have hcap2 := hK.cap
  have hmost2 := hK.most
  have HL := Lib.hid hI.len
  have HL2 := Lib.hid hK.len
  have HI := Lib.hid hI
  have HK := Lib.hid hK
  have IH := Lib.hid ih
  clear ih hI hK
  go_enter Tryz.func62, Tryz.ntmps62
  go_wp2_with fail
  go_loopw [3, 4] (fun x y wr => ∃ (j N : Nat), y = .int .i64 j ∧ j ≤ m ∧ x = .int .i64 N ∧ Hid (N = 1 + V.szs (t.its.take j)) ∧ N ≤ 1000000 ∧ Below (w.heap.size + 1) (w.alloc (.cells #[.int .i64 t.k, .int .i64 t.n, .string t.s, .slice A m c, .slice B p e] 31)) wr) (fun _ y _ => m - (intOf y).toNat)
  case atStart => exact ⟨0, 1, rfl, by omega, rfl, Lib.hid (by simp [V.szs]), by omega, Below.refl _ _⟩
  case round =>
    obtain ⟨j, N, rfl, hj, rfl, HN, hN1, hbox⟩ := hrel
    obtain ⟨b0, b1, b2, b3, b4⟩ := box5 hbox
    by_cases hlt : j < m
    · have e1 := V.szs_snoc (l := t.its) (i := j) (by rw [HL.out]; exact hlt)
      have e2 := V.szs_take_le t.its (j + 1)
      generalize hq : t.its.getD j default = q at *
      obtain ⟨D, hD⟩ : ∃ D, D = q.sz := ⟨_, rfl⟩
      have e3 : N + D = 1 + V.szs (t.its.take (j + 1)) := by have := HN.out; omega
      have e4 : N + D ≤ 1000000 := by omega
      have E3 := Lib.hid e3
      have HQ := Lib.hid hq
      have HD := Lib.hid hD
      clear e1 e2 e3 hq hD
      obtain ⟨b, off, kk, ii, ss, x, y, rfl, c0, c1, c2, c3, c4, hv⟩ := HI.out.item (box_below hbox) hhi hlt
      have hbs := box_size hbox
      go_wp2_with fail
      refine (IH.out _ _ _ _ _ hv (by omega) (by rw [HQ.out, ← HD.out]; omega)).mono ?_
      rintro e w1 ⟨rfl, hb1⟩
      rw [HQ.out, ← HD.out]
      have hbox' := box_step hbox hb1
      clear c0 c1 c2 c3 c4 b0 b1 b2 b3 b4 hv
      go_wp2_with fail
      go_roundw
      case rel => exact ⟨j + 1, N + D, by go_num, by omega, by go_num, Lib.hid (E3.out), by omega, hbox'⟩
      case measure => simp [intOf]; omega
    · go_wp2_with fail
      go_ret
      exact ⟨ret_int (by have := HN.out; rw [List.take_of_length_le (by rw [HL.out]; omega)] at this; omega), box_below hbox⟩

theorem rSize_at : ∀ d, rSizeAt d
  | 0 => fun _ _ _ _ _ h _ _ => h.elim
  | d + 1 => rSize_step d (rSize_at d)
theorem rSizeX {v : Value} {t : V} {lo hi : Nat} {w : World} (h : VX w lo hi v t) (hhi : hi ≤ w.heap.size) (hsz : t.sz ≤ 1000000) :
    Calls Tryz.prog 62 #[v] w fun e w' => e = .returned (.int .i64 (t.sz : Int)) ∧ Below w.heap.size w w' := by
  obtain ⟨d, h⟩ := h
  exact rSize_at d v t lo hi w h hhi hsz

def rFutureAt (d : Nat) : Prop := ∀ (v : Value) (t : V) (lo hi : Nat) (w : World), VB w lo hi d v t → hi ≤ w.heap.size → 
  Calls Tryz.prog 35 #[v] w fun e w' => e = .returned (.bool t.fut) ∧ Below w.heap.size w w'

set_option maxRecDepth 100000 in
set_option maxHeartbeats 1000000 in
theorem rFuture_step (d : Nat) (ih : rFutureAt d) : rFutureAt (d + 1) := by
  intro v t lo hi w h hhi
  rw [V.fut_eq]
  obtain ⟨A, m, c, B, p, e, rfl, k1, k2, n1, n2, s1, hI, hK⟩ := h
  have hcap := hI.cap
  have hmost := hI.most
  have hcap2 := hK.cap
  have hmost2 := hK.most
  have HL := Lib.hid hI.len
  have HL2 := Lib.hid hK.len
  have HI := Lib.hid hI
  have HK := Lib.hid hK
  have IH := Lib.hid ih
  clear ih hI hK
  go_enter Tryz.func35, Tryz.ntmps35
  go_wp2_with fail
  go_loopw [3] (fun y wr => ∃ (j : Nat), y = .int .i64 j ∧ j ≤ m ∧ Hid (V.futs (t.its.take j) = false) ∧ Below (w.heap.size + 1) (w.alloc (.cells #[.int .i64 t.k, .int .i64 t.n, .string t.s, .slice A m c, .slice B p e] 31)) wr) (fun y _ => m - (intOf y).toNat)
  case atStart => exact ⟨0, rfl, by omega, Lib.hid (by simp [V.futs]), Below.refl _ _⟩
  case round =>
    obtain ⟨j, rfl, hj, HN, hbox⟩ := hrel
    obtain ⟨b0, b1, b2, b3, b4⟩ := box5 hbox
    by_cases hlt : j < m
    · have e1 := V.futs_snoc (l := t.its) (i := j) (by rw [HL.out]; exact hlt)
      rw [HN.out] at e1
      cases hq : (t.its.getD j default).fut with
      | true =>
        have e2 := V.futs_get (l := t.its) (i := j) (by rw [HL.out]; exact hlt) hq
        have E2 := Lib.hid e2; have HQ := Lib.hid hq
        clear e1 e2 hq
        obtain ⟨b, off, kk, ii, ss, x, y, rfl, c0, c1, c2, c3, c4, hv⟩ := HI.out.item (box_below hbox) hhi hlt
        have hbs := box_size hbox
        go_wp2_with fail
        refine (IH.out _ _ _ _ _ hv (by omega)).mono ?_
        rintro e w1 ⟨rfl, hb1⟩
        rw [HQ.out]
        have hbox' := box_step hbox hb1
        go_wp2_with fail
        go_ret
        exact ⟨ret_bool (by rw [E2.out]; simp), box_below hbox'⟩
      | false =>
        rw [hq] at e1
        have E1 := Lib.hid e1; have HQ := Lib.hid hq
        clear e1 hq
        obtain ⟨b, off, kk, ii, ss, x, y, rfl, c0, c1, c2, c3, c4, hv⟩ := HI.out.item (box_below hbox) hhi hlt
        have hbs := box_size hbox
        go_wp2_with fail
        refine (IH.out _ _ _ _ _ hv (by omega)).mono ?_
        rintro e w1 ⟨rfl, hb1⟩
        rw [HQ.out]
        have hbox' := box_step hbox hb1
        clear c0 c1 c2 c3 c4 b0 b1 b2 b3 b4 hv
        go_wp2_with fail
        go_roundw
        case rel => exact ⟨j + 1, by go_num, by omega, Lib.hid E1.out, hbox'⟩
        case measure => simp [intOf]; omega
    · have e1 := HN.out
      rw [List.take_of_length_le (by rw [HL.out]; omega)] at e1
      have E1 := Lib.hid e1
      clear e1
      go_wp2_with fail
      go_ret
      exact ⟨ret_bool (by rw [E1.out, Bool.or_false]), box_below hbox⟩

theorem rFuture_at : ∀ d, rFutureAt d
  | 0 => fun _ _ _ _ _ h _ => h.elim
  | d + 1 => rFuture_step d (rFuture_at d)
theorem rFutureX {v : Value} {t : V} {lo hi : Nat} {w : World} (h : VX w lo hi v t) (hhi : hi ≤ w.heap.size) :
    Calls Tryz.prog 35 #[v] w fun e w' => e = .returned (.bool t.fut) ∧ Below w.heap.size w w' := by
  obtain ⟨d, h⟩ := h
  exact rFuture_at d v t lo hi w h hhi

end Go.Proofs.YtkodmhopollnpaaGreat
