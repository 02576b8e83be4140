/-
  Layer 2: the code's textsFit, roomAfter, withinLimits, hasFuture, Right.
-/
import Derived.Test.YtkodmhopollnpaaGreatVCodB
namespace Go.Proofs.YtkodmhopollnpaaGreat
set_option linter.unusedVariables false
open Go.RowKit
open M (V)

theorem tooLong_any (s : ByteArray) (w : World) (hs : s.size ≤ 140737488351232) :
    Calls Tryz.prog 80 #[.string s] w fun e w' => e = .returned (.bool (!M.fits s)) ∧ w = w' := by
  by_cases h : 4096 < s.size
  · have hf := Lib.hid (M.fits_no h)
    go_enter Tryz.func80, Tryz.ntmps80
    go_wp2_with fail
    go_ret
    exact ⟨ret_bool (by rw [hf.out]; simp; omega), rfl⟩
  · have hf := Lib.hid (M.fits_yes h)
    go_enter Tryz.func80, Tryz.ntmps80
    go_wp2_with fail
    go_ret
    exact ⟨ret_bool (by rw [hf.out]; simp; omega), rfl⟩

def Found (b : Bool) (B : Nat) (w : World) (e : Ending) (w' : World) : Prop := ∃ N : Int, e = .returned (.int .i64 N) ∧ -1 ≤ N ∧ N ≤ 9223372036854775807 ∧ decide (0 ≤ N) = b ∧ Below B w w'

set_option maxRecDepth 100000 in
set_option maxHeartbeats 1000000 in
theorem longIdx_any {A : Option Addr} {n c lo hi : Nat} {l : List ByteArray} {w : World} (h : KS w lo hi A n c l) (hhi : hi ≤ w.heap.size) :
    Calls Tryz.prog 121 #[.slice A n c, .func (.func 80) #[] #[]] w (Found (!l.all M.fits) w.heap.size w) := by
  have hcap := h.cap
  have hmost := h.most
  have HL := Lib.hid h.len
  have HK := Lib.hid h
  clear h
  go_enter Tryz.func121, Tryz.ntmps121
  go_wp2_with fail
  go_loopw [8] (fun y wr => ∃ (j : Nat), y = .int .i64 j ∧ j ≤ n ∧ Hid (∀ q, q < j → M.fits (l.getD q ByteArray.empty) = true) ∧ Below w.heap.size w wr) (fun y _ => n - (intOf y).toNat)
  case atStart => exact ⟨0, rfl, by omega, Lib.hid (fun q h => absurd h (by omega)), Below.refl _ _⟩
  case round =>
    obtain ⟨j, rfl, hj, HN, hb⟩ := hrel
    by_cases hlt : j < n
    · obtain ⟨b, off, rfl, c0⟩ := HK.out.item hb hhi hlt
      have hz := HK.out.size j hlt
      generalize hx : l.getD j ByteArray.empty = x at *
      have HX := Lib.hid hx
      clear hx
      cases hq : M.fits x with
      | false =>
        have HQ := Lib.hid hq
        clear hq
        go_wp2_with fail
        refine (tooLong_any _ _ hz).mono ?_
        rintro e w' ⟨rfl, rfl⟩
        rw [HQ.out]
        go_wp2_with fail
        go_ret
        exact ⟨_, rfl, by omega, by omega, by rw [M.not_fits (q := j) (by rw [HL.out]; exact hlt) (by rw [HX.out]; exact HQ.out)]; simp, hb⟩
      | true =>
        have HQ := Lib.hid hq
        clear hq
        go_wp2_with fail
        refine (tooLong_any _ _ hz).mono ?_
        rintro e w' ⟨rfl, rfl⟩
        rw [HQ.out]
        go_wp2_with fail
        go_roundw
        case rel =>
          refine ⟨j + 1, by go_num, by omega, Lib.hid (fun q h => ?_), hb⟩
          rcases Nat.lt_or_ge q j with h' | h'
          · exact HN.out q h'
          · obtain rfl : q = j := by omega
            rw [HX.out]; exact HQ.out
        case measure => simp [intOf]; omega
    · go_wp2_with fail
      go_ret
      exact ⟨-1, rfl, by omega, by omega, by rw [M.all_fits fun q h => HN.out q (by rw [HL.out] at h; omega)]; simp, hb⟩

set_option maxRecDepth 100000 in
set_option maxHeartbeats 1000000 in
theorem longAny_any {A : Option Addr} {n c lo hi : Nat} {l : List ByteArray} {w : World} (h : KS w lo hi A n c l) (hhi : hi ≤ w.heap.size) :
    Calls Tryz.prog 119 #[.slice A n c, .func (.func 80) #[] #[]] w fun e w' => e = .returned (.bool (!l.all M.fits)) ∧ Below w.heap.size w w' := by
  go_enter Tryz.func119, Tryz.ntmps119
  go_wp2_with fail
  refine (longIdx_any h hhi).mono ?_
  rintro e w1 ⟨N, rfl, h1, h2, h3, hb⟩
  have H3 := Lib.hid h3
  clear h3
  by_cases hN : 0 ≤ N
  all_goals
    go_wp2_with fail
    go_ret
    exact ⟨ret_bool (by rw [← H3.out]; first | done | simp [hN]), hb⟩

set_option maxRecDepth 100000 in
set_option maxHeartbeats 1000000 in
theorem textsFitX {d : Nat} {v : Value} {t : V} {lo hi : Nat} {w : World} (h : VB w lo hi (d + 1) v t) (hhi : hi ≤ w.heap.size) :
    Calls Tryz.prog 111 #[v] w fun e w' => e = .returned (.bool t.txt) ∧ Below w.heap.size w w' := by
  obtain ⟨A, m, c, B, p, e, rfl, k1, k2, n1, n2, s1, hI, hK⟩ := h
  have hb0 := box_refl w (.cells #[.int .i64 t.k, .int .i64 t.n, .string t.s, .slice A m c, .slice B p e] 31)
  have hK1 := hK.kept (Kept.of_below (lo := lo) (box_below hb0) hhi)
  have hz := box_size hb0
  have hT : t.txt = (M.fits t.s && t.ks.all M.fits) := rfl
  clear hI hK
  cases hq : M.fits t.s with
  | false =>
    have HQ := Lib.hid hq; have HT := Lib.hid hT
    clear hq hT
    go_enter Tryz.func111, Tryz.ntmps111
    go_wp2_with fail
    refine (tooLong_any _ _ s1).mono ?_
    rintro e w1 ⟨rfl, rfl⟩
    rw [HQ.out]
    go_wp2_with fail
    go_ret
    exact ⟨ret_bool (by rw [HT.out, HQ.out]; rfl), box_below hb0⟩
  | true =>
    have HQ := Lib.hid hq; have HT := Lib.hid hT
    clear hq hT
    go_enter Tryz.func111, Tryz.ntmps111
    go_wp2_with fail
    refine (tooLong_any _ _ s1).mono ?_
    rintro e w1 ⟨rfl, rfl⟩
    rw [HQ.out]
    go_wp2_with fail
    refine (longAny_any hK1 (by omega)).mono ?_
    rintro e w2 ⟨rfl, hb1⟩
    go_wp2_with fail
    go_ret
    exact ⟨ret_bool (by rw [HT.out, HQ.out]; simp), box_below (box_step hb0 hb1)⟩

/-! ### hasFuture -/




end Go.Proofs.YtkodmhopollnpaaGreat
