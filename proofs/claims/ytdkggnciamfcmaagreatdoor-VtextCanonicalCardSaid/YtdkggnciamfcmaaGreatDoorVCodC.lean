/-
  Layer 2: the code's textsFit, roomAfter, withinLimits, hasFuture, Right.
-/
import Derived.Test.YtdkggnciamfcmaaGreatDoorVCodB
namespace Go.Proofs.YtdkggnciamfcmaaGreatDoor
set_option linter.unusedVariables false
open Go.RowKit
open M (V)

theorem tooLong_any (s : ByteArray) (w : World) (hs : s.size ≤ 140737488351232) :
    Calls Tryz.prog 106 #[.string s] w fun e w' => e = .returned (.bool (!M.fits s)) ∧ w = w' := by
  by_cases h : 4096 < s.size
  · have hf := Lib.hid (M.fits_no h)
    go_enter Tryz.func106, Tryz.ntmps106
    go_wp2_with fail
    go_ret
    exact ⟨ret_bool (by rw [hf.out]; simp; omega), rfl⟩
  · have hf := Lib.hid (M.fits_yes h)
    go_enter Tryz.func106, Tryz.ntmps106
    go_wp2_with fail
    go_ret
    exact ⟨ret_bool (by rw [hf.out]; simp; omega), rfl⟩

def Found (b : Bool) (B : Nat) (w : World) (e : Ending) (w' : World) : Prop := ∃ N : Int, e = .returned (.int .i64 N) ∧ -1 ≤ N ∧ N ≤ 9223372036854775807 ∧ decide (0 ≤ N) = b ∧ Below B w w'

set_option maxRecDepth 100000 in
set_option maxHeartbeats 1000000 in
theorem longIdx_any {A : Option Addr} {n c lo hi : Nat} {l : List ByteArray} {w : World} (h : KS w lo hi A n c l) (hhi : hi ≤ w.heap.size) :
    Calls Tryz.prog 124 #[.slice A n c, .func (.func 106) #[] #[]] w (Found (!l.all M.fits) w.heap.size w) := by
  have hcap := h.cap
  have hmost := h.most
  have HL := Lib.hid h.len
  have HK := Lib.hid h
  clear h
  go_enter Tryz.func124, Tryz.ntmps124
  go_wp2_with fail
  go_loopw [8] (fun y wr => ∃ (j : Nat), y = .int .i64 j ∧ j ≤ n ∧ Hid (∀ q, q < j → M.fits (l.getD q ByteArray.empty) = true) ∧ Below w.heap.size w wr) (fun y _ => n - (intOf y).toNat)
  case atStart => exact ⟨0, rfl, by omega, Lib.hid (fun q h => absurd h (by omega)), Below.refl _ _⟩
  case round =>
    obtain ⟨j, rfl, hj, HN, hb⟩ := hrel
    by_cases hlt : j < n
    · obtain ⟨b, off, rfl, c0⟩ := HK.out.item hb hhi hlt
      have hz := HK.out.size j hlt
      generalize hx : l.getD j ByteArray.empty = x at *
      have HX := Lib.hid hx
      clear hx
      cases hq : M.fits x with
      | false =>
        have HQ := Lib.hid hq
        clear hq
        go_wp2_with fail
        refine (tooLong_any _ _ hz).mono ?_
        rintro e w' ⟨rfl, rfl⟩
        rw [HQ.out]
        go_wp2_with fail
        go_ret
        exact ⟨_, rfl, by omega, by omega, by rw [M.not_fits (q := j) (by rw [HL.out]; exact hlt) (by rw [HX.out]; exact HQ.out)]; simp, hb⟩
      | true =>
        have HQ := Lib.hid hq
        clear hq
        go_wp2_with fail
        refine (tooLong_any _ _ hz).mono ?_
        rintro e w' ⟨rfl, rfl⟩
        rw [HQ.out]
        go_wp2_with fail
        go_roundw
        case rel =>
          refine ⟨j + 1, by go_num, by omega, Lib.hid (fun q h => ?_), hb⟩
          rcases Nat.lt_or_ge q j with h' | h'
          · exact HN.out q h'
          · obtain rfl : q = j := by omega
            rw [HX.out]; exact HQ.out
        case measure => simp [intOf]; omega
    · go_wp2_with fail
      go_ret
      exact ⟨-1, rfl, by omega, by omega, by rw [M.all_fits fun q h => HN.out q (by rw [HL.out] at h; omega)]; simp, hb⟩

set_option maxRecDepth 100000 in
set_option maxHeartbeats 1000000 in
theorem longAny_any {A : Option Addr} {n c lo hi : Nat} {l : List ByteArray} {w : World} (h : KS w lo hi A n c l) (hhi : hi ≤ w.heap.size) :
    Calls Tryz.prog 107 #[.slice A n c, .func (.func 106) #[] #[]] w fun e w' => e = .returned (.bool (!l.all M.fits)) ∧ Below w.heap.size w w' := by
  go_enter Tryz.func107, Tryz.ntmps107
  go_wp2_with fail
  refine (longIdx_any h hhi).mono ?_
  rintro e w1 ⟨N, rfl, h1, h2, h3, hb⟩
  have H3 := Lib.hid h3
  clear h3
  by_cases hN : 0 ≤ N
  all_goals
    go_wp2_with fail
    go_ret
    exact ⟨ret_bool (by rw [← H3.out]; first | done | simp [hN]), hb⟩

set_option maxRecDepth 100000 in
set_option maxHeartbeats 1000000 in
theorem textsFitX {d : Nat} {v : Value} {t : V} {lo hi : Nat} {w : World} (h : VB w lo hi (d + 1) v t) (hhi : hi ≤ w.heap.size) :
    Calls Tryz.prog 90 #[v] w fun e w' => e = .returned (.bool t.txt) ∧ Below w.heap.size w w' := by
  obtain ⟨A, m, c, B, p, e, rfl, k1, k2, n1, n2, s1, hI, hK⟩ := h
  have hb0 := box_refl w (.cells #[.int .i64 t.k, .int .i64 t.n, .string t.s, .slice A m c, .slice B p e] 25)
  have hK1 := hK.kept (Kept.of_below (lo := lo) (box_below hb0) hhi)
  have hz := box_size hb0
  have hT : t.txt = (M.fits t.s && t.ks.all M.fits) := rfl
  clear hI hK
  cases hq : M.fits t.s with
  | false =>
    have HQ := Lib.hid hq; have HT := Lib.hid hT
    clear hq hT
    go_enter Tryz.func90, Tryz.ntmps90
    go_wp2_with fail
    refine (tooLong_any _ _ s1).mono ?_
    rintro e w1 ⟨rfl, rfl⟩
    rw [HQ.out]
    go_wp2_with fail
    go_ret
    exact ⟨ret_bool (by rw [HT.out, HQ.out]; rfl), box_below hb0⟩
  | true =>
    have HQ := Lib.hid hq; have HT := Lib.hid hT
    clear hq hT
    go_enter Tryz.func90, Tryz.ntmps90
    go_wp2_with fail
    refine (tooLong_any _ _ s1).mono ?_
    rintro e w1 ⟨rfl, rfl⟩
    rw [HQ.out]
    go_wp2_with fail
    refine (longAny_any hK1 (by omega)).mono ?_
    rintro e w2 ⟨rfl, hb1⟩
    go_wp2_with fail
    go_ret
    exact ⟨ret_bool (by rw [HT.out, HQ.out]; simp), box_below (box_step hb0 hb1)⟩

/-! ### hasFuture -/
def futAt (d : Nat) : Prop := ∀ (v : Value) (t : V) (lo hi : Nat) (w : World), VB w lo hi d v t → hi ≤ w.heap.size →
  Calls Tryz.prog 37 #[v] w fun e w' => e = .returned (.bool t.fut) ∧ Below w.heap.size w w'

set_option maxRecDepth 100000 in
set_option maxHeartbeats 1000000 in
theorem futIdx_any {d : Nat} (ih : futAt d) {A : Option Addr} {n c lo hi : Nat} {l : List V} {w : World} (h : IS w lo hi (VB w lo hi d) A n c l) (hhi : hi ≤ w.heap.size) :
    Calls Tryz.prog 93 #[.slice A n c, .func (.func 37) #[] #[]] w (Found (V.futs l) w.heap.size w) := by
  have hcap := h.cap
  have hmost := h.most
  have HL := Lib.hid h.len
  have HI := Lib.hid h
  have IH := Lib.hid ih
  clear h ih
  go_enter Tryz.func93, Tryz.ntmps93
  go_wp2_with fail
  go_loopw [8] (fun y wr => ∃ (j : Nat), y = .int .i64 j ∧ j ≤ n ∧ Hid (V.futs (l.take j) = false) ∧ Below w.heap.size w wr) (fun y _ => n - (intOf y).toNat)
  case atStart => exact ⟨0, rfl, by omega, Lib.hid (by simp [V.futs]), Below.refl _ _⟩
  case round =>
    obtain ⟨j, rfl, hj, HN, hb⟩ := hrel
    by_cases hlt : j < n
    · obtain ⟨b, off, kk, ii, ss, x, y, rfl, c0, c1, c2, c3, c4, hv⟩ := HI.out.item hb hhi hlt
      have hbs := hb.size
      have e1 := V.futs_snoc (l := l) (i := j) (by rw [HL.out]; exact hlt)
      rw [HN.out] at e1
      cases hq : (l.getD j default).fut with
      | true =>
        have e2 := V.futs_get (l := l) (i := j) (by rw [HL.out]; exact hlt) hq
        have E2 := Lib.hid e2; have HQ := Lib.hid hq
        clear e1 e2 hq
        go_wp2_with fail
        refine (IH.out _ _ _ _ _ hv (by omega)).mono ?_
        rintro e w' ⟨rfl, hb1⟩
        rw [HQ.out]
        go_wp2_with fail
        go_ret
        exact ⟨_, rfl, by omega, by omega, by rw [E2.out]; simp, below_step hb hb1⟩
      | false =>
        rw [hq] at e1
        have E1 := Lib.hid e1; have HQ := Lib.hid hq
        clear e1 hq
        go_wp2_with fail
        refine (IH.out _ _ _ _ _ hv (by omega)).mono ?_
        rintro e w' ⟨rfl, hb1⟩
        rw [HQ.out]
        go_wp2_with fail
        go_roundw
        case rel => exact ⟨j + 1, by go_num, by omega, Lib.hid E1.out, below_step hb hb1⟩
        case measure => simp [intOf]; omega
    · have e1 := HN.out
      rw [List.take_of_length_le (by rw [HL.out]; omega)] at e1
      have E1 := Lib.hid e1
      clear e1
      go_wp2_with fail
      go_ret
      exact ⟨-1, rfl, by omega, by omega, by rw [E1.out]; simp, hb⟩

set_option maxRecDepth 100000 in
set_option maxHeartbeats 1000000 in
theorem futAny_any {d : Nat} (ih : futAt d) {A : Option Addr} {n c lo hi : Nat} {l : List V} {w : World} (h : IS w lo hi (VB w lo hi d) A n c l) (hhi : hi ≤ w.heap.size) :
    Calls Tryz.prog 66 #[.slice A n c, .func (.func 37) #[] #[]] w fun e w' => e = .returned (.bool (V.futs l)) ∧ Below w.heap.size w w' := by
  have IH := Lib.hid ih
  clear ih
  go_enter Tryz.func66, Tryz.ntmps66
  go_wp2_with fail
  refine (futIdx_any IH.out h hhi).mono ?_
  rintro e w1 ⟨N, rfl, h1, h2, h3, hb⟩
  have H3 := Lib.hid h3
  clear h3
  by_cases hN : 0 ≤ N
  all_goals
    go_wp2_with fail
    go_ret
    exact ⟨ret_bool (by rw [← H3.out]; first | done | simp [hN]), hb⟩

set_option maxRecDepth 100000 in
set_option maxHeartbeats 1000000 in
theorem fut_step (d : Nat) (ih : futAt d) : futAt (d + 1) := by
  intro v t lo hi w h hhi
  have HF := Lib.hid (V.fut_eq t)
  obtain ⟨A, m, c, B, p, e, rfl, k1, k2, n1, n2, s1, hI, hK⟩ := h
  have hb0 := box_refl w (.cells #[.int .i64 t.k, .int .i64 t.n, .string t.s, .slice A m c, .slice B p e] 25)
  have hI1 := hI.kept (Kept.of_below (lo := lo) (box_below hb0) hhi) (fun _ _ r => VB.kept (Kept.of_below (box_below hb0) hhi) r)
  have hz := box_size hb0
  have IH := Lib.hid ih
  clear hI hK ih
  by_cases hk : t.k = 6
  · have hb : (t.k == 6) = true := by rw [beq_iff_eq]; exact hk
    have HB := Lib.hid hb
    clear hk
    go_enter Tryz.func37, Tryz.ntmps37
    go_wp2_with fail
    go_ret
    exact ⟨ret_bool (by rw [HF.out, HB.out]; rfl), box_below hb0⟩
  · have hb : (t.k == 6) = false := by rw [beq_eq_false_iff_ne]; exact hk
    have HB := Lib.hid hb
    clear hk
    go_enter Tryz.func37, Tryz.ntmps37
    go_wp2_with fail
    refine (futAny_any IH.out hI1 (by omega)).mono ?_
    rintro e w2 ⟨rfl, hb1⟩
    go_wp2_with fail
    go_ret
    exact ⟨ret_bool (by rw [HF.out, HB.out, Bool.false_or]), box_below (box_step hb0 hb1)⟩

theorem fut_at : ∀ d, futAt d
  | 0 => fun _ _ _ _ _ h _ => h.elim
  | d + 1 => fut_step d (fut_at d)
theorem futX {v : Value} {t : V} {lo hi : Nat} {w : World} (h : VX w lo hi v t) (hhi : hi ≤ w.heap.size) :
    Calls Tryz.prog 37 #[v] w fun e w' => e = .returned (.bool t.fut) ∧ Below w.heap.size w w' := by
  obtain ⟨d, h⟩ := h
  exact fut_at d v t lo hi w h hhi
end Go.Proofs.YtdkggnciamfcmaaGreatDoor
