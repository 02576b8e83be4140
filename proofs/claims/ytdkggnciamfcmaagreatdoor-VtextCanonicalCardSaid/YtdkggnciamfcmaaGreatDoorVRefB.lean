/-
  Layer 2: the reference WellFormed.
-/
import Derived.Test.YtdkggnciamfcmaaGreatDoorVRefA
import Derived.Deep.QuietTactic
import Derived.BigQuiet
import Derived.IntWalk
namespace Go.Proofs.YtdkggnciamfcmaaGreatDoor
set_option linter.unusedVariables false
open Go.RowKit
open M (V)

def rWfAt (d : Nat) : Prop := ∀ (v : Value) (t : V) (lo hi : Nat) (w : World), VB w lo hi d v t → hi ≤ w.heap.size → 
  Calls Tryz.prog 32 #[v] w fun e w' => e = .returned (.bool t.wf) ∧ Below w.heap.size w w'

theorem top_of {k n : Int} {s : ByteArray} {its : List V} {ks : List ByteArray} {m p : Nat} (h1 : its.length = m) (h2 : ks.length = p) :
    V.top (.mk k n s its ks) = M.uses k n s.toList.isEmpty ((m : Int) == 0) ((p : Int) == 0) ((p : Int) == (m : Int)) (M.rise ks) := by subst h1; subst h2; rfl

set_option maxRecDepth 100000 in
set_option maxHeartbeats 1000000 in
theorem rising_any {A : Option Addr} {n c lo hi : Nat} {l : List ByteArray} {w : World} (h : KS w lo hi A n c l) (hhi : hi ≤ w.heap.size) :
    Calls Tryz.prog 60 #[.slice A n c] w fun e w' => e = .returned (.bool (M.rise l)) ∧ Below w.heap.size w w' := by
  have hcap := h.cap
  have hmost := h.most
  have HL := Lib.hid h.len
  have HK := Lib.hid h
  clear h
  go_enter Tryz.func60, Tryz.ntmps60
  go_wp2_with fail
  go_loopw [3] (fun y wr => ∃ (j : Nat), y = .int .i64 ((j : Int) + 1) ∧ j ≤ n ∧ Hid (∀ i, i < j → i + 1 < n → Go.Op.bytesLess (l.getD i ByteArray.empty).toList (l.getD (i + 1) ByteArray.empty).toList = true) ∧ Below w.heap.size w wr) (fun y _ => n - (intOf y).toNat)
  case atStart => exact ⟨0, rfl, by omega, Lib.hid (fun i h _ => absurd h (by omega)), Below.refl _ _⟩
  case round =>
    obtain ⟨i, rfl, hj, HN, hb⟩ := hrel
    by_cases hlt : i + 1 < n
    · obtain ⟨b, off, rfl, c0⟩ := HK.out.item hb hhi (j := i) (by omega)
      obtain ⟨b', off', e, c1⟩ := HK.out.item hb hhi (j := i + 1) hlt
      simp only [Option.some.injEq, Addr.mk.injEq] at e
      obtain ⟨rfl, rfl, _⟩ := e
      have hlt2 : ((i : Int) + 1) < (n : Int) := by omega
      have hw1 : IntKind.i64.wrap ((i : Int) + 1 - 1) = (i : Int) := by rw [IntWalk.i64_in _ (by omega)]; omega
      have ht : ((i : Int) + 1).toNat = i + 1 := by omega
      generalize hx : l.getD i ByteArray.empty = x at *
      generalize hy : l.getD (i + 1) ByteArray.empty = y at *
      have HX := Lib.hid hx; have HY := Lib.hid hy
      clear hx hy
      cases hq : Go.Op.bytesLess x.toList y.toList with
      | true =>
        go_wp2_with fail
        go_quiet (fail)
        go_wp2_with fail
        refine ⟨⟨i + 1, by go_num, by omega, Lib.hid (fun q h1 h2 => ?_), hb.trans ⟨rfl, rfl, rfl, Nat.le_refl _, fun _ _ => rfl⟩⟩, by simp [intOf]; omega⟩
        rcases Nat.lt_or_ge q i with h | h
        · exact HN.out q h h2
        · obtain rfl : q = i := by omega
          rw [HX.out, HY.out]; exact hq
      | false =>
        go_wp2_with fail
        go_quiet (fail)
        go_wp2_with fail
        go_ret
        exact ⟨ret_bool (M.rise_no (i := i) (by rw [HL.out]; exact hlt) (by rw [HX.out, HY.out]; exact hq)).symm, hb.trans ⟨rfl, rfl, rfl, Nat.le_refl _, fun _ _ => rfl⟩⟩
    · go_wp2_with fail
      go_ret
      exact ⟨ret_bool (M.rise_yes fun i h => HN.out i (by rw [HL.out] at h; omega) (by rw [HL.out] at h; exact h)).symm, hb⟩

set_option maxRecDepth 100000 in
set_option maxHeartbeats 1000000 in
theorem rWf_step (d : Nat) (ih : rWfAt d) : rWfAt (d + 1) := by
  intro v t lo hi w h hhi
  obtain ⟨k, n, s, its, ks⟩ := t
  rw [V.wf_eq]
  obtain ⟨A, m, c, B, p, e, rfl, k1, k2, n1, n2, s1, hI, hK⟩ := h
  simp only [V.k, V.n, V.s, V.its, V.ks] at *
  have hcap := hI.cap
  have hmost := hI.most
  have hcap2 := hK.cap
  have hmost2 := hK.most
  have HL := Lib.hid hI.len
  have HL2 := Lib.hid hK.len
  have HI := Lib.hid hI
  have HK := Lib.hid hK
  have IH := Lib.hid ih
  clear ih hI hK
  go_enter Tryz.func32, Tryz.ntmps32
  go_wp2_with fail
  go_loopw [3] (fun y wr => ∃ (j : Nat), y = .int .i64 j ∧ j ≤ m ∧ Hid (V.wfs (its.take j) = true) ∧ Below (w.heap.size + 1) (w.alloc (.cells #[.int .i64 k, .int .i64 n, .string s, .slice A m c, .slice B p e] 25)) wr) (fun y _ => m - (intOf y).toNat)
  case atStart => exact ⟨0, rfl, by omega, Lib.hid (by simp [V.wfs]), Below.refl _ _⟩
  case round =>
    obtain ⟨j, rfl, hj, HN, hbox⟩ := hrel
    obtain ⟨b0, b1, b2, b3, b4⟩ := box5 hbox
    by_cases hlt : j < m
    · have e1 := V.wfs_snoc (l := its) (i := j) (by rw [HL.out]; exact hlt)
      rw [HN.out] at e1
      cases hq : (its.getD j default).wf with
      | false =>
        have e2 := V.wfs_bad (l := its) (i := j) (by rw [HL.out]; exact hlt) hq
        have E2 := Lib.hid e2; have HQ := Lib.hid hq
        clear e1 e2 hq
        obtain ⟨b, off, kk, ii, ss, x, y, rfl, c0, c1, c2, c3, c4, hv⟩ := HI.out.item (box_below hbox) hhi hlt
        have hbs := box_size hbox
        go_wp2_with fail
        refine (IH.out _ _ _ _ _ hv (by omega)).mono ?_
        rintro e w1 ⟨rfl, hb1⟩
        rw [HQ.out]
        have hbox' := box_step hbox hb1
        go_wp2_with fail
        go_ret
        exact ⟨ret_bool (by rw [E2.out]; simp), box_below hbox'⟩
      | true =>
        rw [hq] at e1
        have E1 := Lib.hid e1; have HQ := Lib.hid hq
        clear e1 hq
        obtain ⟨b, off, kk, ii, ss, x, y, rfl, c0, c1, c2, c3, c4, hv⟩ := HI.out.item (box_below hbox) hhi hlt
        have hbs := box_size hbox
        go_wp2_with fail
        refine (IH.out _ _ _ _ _ hv (by omega)).mono ?_
        rintro e w1 ⟨rfl, hb1⟩
        rw [HQ.out]
        have hbox' := box_step hbox hb1
        clear c0 c1 c2 c3 c4 b0 b1 b2 b3 b4 hv
        go_wp2_with fail
        go_roundw
        case rel => exact ⟨j + 1, by go_num, by omega, Lib.hid E1.out, hbox'⟩
        case measure => simp [intOf]; omega
    · have e1 := HN.out
      rw [List.take_of_length_le (by rw [HL.out]; omega)] at e1
      have E1 := Lib.hid e1
      clear e1
      rcases (show k = 0 ∨ k = 1 ∨ k = 2 ∨ k = 3 ∨ k = 4 ∨ k = 5 ∨ k = 6 ∨ k < 0 ∨ 6 < k by omega) with rfl | rfl | rfl | rfl | rfl | rfl | rfl | hk | hk
      · go_wp2_with fail
        all_goals go_ret
        all_goals (refine ⟨ret_bool ?_, box_below hbox⟩; rw [E1.out, top_of HL.out HL2.out]; first | (simp [M.uses, *]; done) | (simp [M.uses, *]; omega))
      · go_wp2_with fail
        all_goals go_ret
        all_goals (refine ⟨ret_bool ?_, box_below hbox⟩; rw [E1.out, top_of HL.out HL2.out]; first | (simp [M.uses, *]; done) | (simp [M.uses, *]; omega))
      · go_wp2_with fail
        all_goals go_ret
        all_goals (refine ⟨ret_bool ?_, box_below hbox⟩; rw [E1.out, top_of HL.out HL2.out]; first | (simp [M.uses, *]; done) | (simp [M.uses, *]; omega))
      · go_wp2_with fail
        all_goals go_ret
        all_goals (refine ⟨ret_bool ?_, box_below hbox⟩; rw [E1.out, top_of HL.out HL2.out]; first | (simp [M.uses, *]; done) | (simp [M.uses, *]; omega))
      · go_wp2_with fail
        all_goals go_ret
        all_goals (refine ⟨ret_bool ?_, box_below hbox⟩; rw [E1.out, top_of HL.out HL2.out]; first | (simp [M.uses, *]; done) | (simp [M.uses, *]; omega))
      · have hK' : KS wr lo hi B p e ks := HK.out.kept (Kept.of_below (box_below hbox) hhi)
        have hbs := box_size hbox
        go_wp2_with (go_at_call 60; refine (rising_any hK' (by omega)).mono ?_; rintro e w' ⟨rfl, hb'⟩)
        all_goals go_ret
        all_goals (refine ⟨ret_bool ?_, by first | exact box_below hbox | exact below_step (box_below hbox) hb'⟩; rw [E1.out, top_of HL.out HL2.out]; simp [M.uses, *])
      · go_wp2_with fail
        all_goals go_ret
        all_goals (refine ⟨ret_bool ?_, box_below hbox⟩; rw [E1.out, top_of HL.out HL2.out]; first | (simp [M.uses, *]; done) | (simp [M.uses, *]; omega))
      · go_wp2_with fail
        all_goals go_ret
        all_goals (refine ⟨ret_bool ?_, box_below hbox⟩; rw [E1.out, top_of HL.out HL2.out, M.uses, if_neg (by omega), if_neg (by omega), if_neg (by omega), if_neg (by omega), if_neg (by omega), if_neg (by omega), if_neg (by omega)]; rfl)
      · go_wp2_with fail
        all_goals go_ret
        all_goals (refine ⟨ret_bool ?_, box_below hbox⟩; rw [E1.out, top_of HL.out HL2.out, M.uses, if_neg (by omega), if_neg (by omega), if_neg (by omega), if_neg (by omega), if_neg (by omega), if_neg (by omega), if_neg (by omega)]; rfl)

theorem rWf_at : ∀ d, rWfAt d
  | 0 => fun _ _ _ _ _ h _ => h.elim
  | d + 1 => rWf_step d (rWf_at d)
theorem rWfX {v : Value} {t : V} {lo hi : Nat} {w : World} (h : VX w lo hi v t) (hhi : hi ≤ w.heap.size) :
    Calls Tryz.prog 32 #[v] w fun e w' => e = .returned (.bool t.wf) ∧ Below w.heap.size w w' := by
  obtain ⟨d, h⟩ := h
  exact rWf_at d v t lo hi w h hhi
end Go.Proofs.YtdkggnciamfcmaaGreatDoor
