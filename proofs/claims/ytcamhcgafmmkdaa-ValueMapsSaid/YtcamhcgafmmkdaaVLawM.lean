/-
  Layer 2: the law ValueMaps, walked.
-/
import Derived.Test.YtcamhcgafmmkdaaVCodQ
import Derived.Test.YtcamhcgafmmkdaaVRefD2
import Derived.Test.YtcamhcgafmmkdaaVRefI
import Derived.Test.YtcamhcgafmmkdaaVRefJ
import Derived.Test.YtcamhcgafmmkdaaVRefA
import Derived.Test.YtcamhcgafmmkdaaVRefD
import Derived.Test.YtcamhcgafmmkdaaVWorks
namespace Go.Proofs.Ytcamhcgafmmkdaa
set_option linter.unusedVariables false
open Go.RowKit
open M (V)

def nullV : V := .mk 0 0 ByteArray.empty [] []
/-- A value that reads as T, and something beside it. -/
def NewU (T : V) (f : Value) (w : World) (e : Ending) (w' : World) : Prop :=
  ∃ k n s A m c C p q, e = .returned (.tuple #[.agg #[.int .i64 k, .int .i64 n, .string s, .slice A m c, .slice C p q], f]) ∧ VX w' 0 w'.heap.size (.agg #[.int .i64 k, .int .i64 n, .string s, .slice A m c, .slice C p q]) T ∧ Below w.heap.size w w'
theorem newU {T : V} {f v : Value} {w w' : World} (h : VX w' 0 w'.heap.size v T) (hb : Below w.heap.size w w') : NewU T f w (.returned (.tuple #[v, f])) w' := by
  obtain ⟨A, n, c, B, m, e, rfl⟩ := h.form
  exact ⟨_, _, _, _, _, _, _, _, _, rfl, h, hb⟩
theorem null_vx (w : World) : VX w 0 w.heap.size (.agg #[.int .i64 0, .int .i64 0, .string ByteArray.empty, .slice none 0 0, .slice none 0 0]) nullV :=
  ⟨1, none, 0, 0, none, 0, 0, rfl, by simp [nullV, V.k], by simp [nullV, V.k], by simp [nullV, V.n], by simp [nullV, V.n], by simp [nullV, V.s], IS.nil_ _ _ _ _, KS.nil_ _ _ _⟩
def orNull (r : Option V) : V := r.getD nullV
theorem g_uni {r : Option V} {w w' : World} {e : Ending} (h : NewG w.heap.size r w e w') : NewU (orNull r) (.bool r.isSome) w e w' := by
  obtain ⟨h1, h2, hb⟩ := h
  cases r with
  | none => rw [h2 rfl]; exact newU (null_vx w') hb
  | some x =>
    obtain ⟨v, rfl, hv⟩ := h1 x rfl
    exact newU (hv.weak (Nat.zero_le _) (Nat.le_refl _)) hb
theorem rg_uni {r : Option V} {w w' : World} {e : Ending} {hi : Nat} (hhi : hi ≤ w.heap.size) (h : NewGet hi r w e w') : NewU (orNull r) (.bool r.isSome) w e w' := by
  obtain ⟨h1, h2, hb⟩ := h
  cases r with
  | none => rw [h2 rfl]; exact newU (null_vx w') hb
  | some x =>
    obtain ⟨v, rfl, hv⟩ := h1 x rfl
    exact newU (hv.weak (Nat.zero_le _) (Nat.le_trans hhi hb.size)) hb
/-- What Put returns, as a pair. -/
def PutSpec (t : V) (key : ByteArray) (x : V) (r : V × Int) : Prop :=
  ((t.k == 5 && t.wf) = false → r = (nullV, 12)) ∧ ((t.k == 5 && t.wf) = true → ∀ i f, M.Place t.ks key i f → (V.within (putV t i (nxt i f) key x) = false → r = (nullV, 6)) ∧ (V.within (putV t i (nxt i f) key x) = true → r = (putV t i (nxt i f) key x, 0)))
theorem put_ex (t : V) (key : ByteArray) (x : V) : ∃ r, PutSpec t key x r := by
  cases hw : (t.k == 5 && t.wf) with
  | false => exact ⟨_, fun _ => rfl, fun h => by rw [hw] at h; cases h⟩
  | true =>
    have hkw : t.k = 5 ∧ t.wf = true := by simpa using hw
    obtain ⟨i, f, hp⟩ := M.place_ex t.ks (M.wf_rise hkw.2 hkw.1).1 key
    cases hi : V.within (putV t i (nxt i f) key x) with
    | false =>
      refine ⟨(nullV, 6), (fun h => by rw [hw] at h; cases h), fun _ i' f' hp' => ?_⟩
      obtain ⟨rfl, rfl⟩ := place_uniq hp hp'
      exact ⟨fun _ => rfl, fun h => by rw [hi] at h; cases h⟩
    | true =>
      refine ⟨(putV t i (nxt i f) key x, 0), (fun h => by rw [hw] at h; cases h), fun _ i' f' hp' => ?_⟩
      obtain ⟨rfl, rfl⟩ := place_uniq hp hp'
      exact ⟨(fun h => by rw [hi] at h; cases h), fun _ => rfl⟩
theorem put_uni {t x : V} {key : ByteArray} {w w' : World} {e : Ending} {r : V × Int} (hr : PutSpec t key x r) (h : NewPut t key x w e w') : NewU r.1 (.int .i64 r.2) w e w' := by
  obtain ⟨h1, h2, hb⟩ := h
  cases hw : (t.k == 5 && t.wf) with
  | false =>
    rw [hr.1 hw, h1 hw]
    exact newU (null_vx w') hb
  | true =>
    have hkw : t.k = 5 ∧ t.wf = true := by simpa using hw
    obtain ⟨i, f, hp⟩ := M.place_ex t.ks (M.wf_rise hkw.2 hkw.1).1 key
    obtain ⟨g1, g2⟩ := h2 hw i f hp
    obtain ⟨r1, r2⟩ := hr.2 hw i f hp
    cases hi : V.within (putV t i (nxt i f) key x) with
    | false =>
      rw [r1 hi, g1 hi]
      exact newU (null_vx w') hb
    | true =>
      obtain ⟨v, rfl, hv⟩ := g2 hi
      rw [r2 hi]
      exact newU hv hb
/-- What Drop returns, as a pair. -/
def DropSpec (t : V) (key : ByteArray) (r : V × Int) : Prop :=
  ((t.k == 5 && t.wf) = false → r = (nullV, 12)) ∧ ((t.k == 5 && t.wf) = true → ∀ i f, M.Place t.ks key i f → (f = false → r = (nullV, 15)) ∧ (f = true → r = (dropV t i, 0)))
theorem drop_ex (t : V) (key : ByteArray) : ∃ r, DropSpec t key r := by
  cases hw : (t.k == 5 && t.wf) with
  | false => exact ⟨_, fun _ => rfl, fun h => by rw [hw] at h; cases h⟩
  | true =>
    have hkw : t.k = 5 ∧ t.wf = true := by simpa using hw
    obtain ⟨i, f, hp⟩ := M.place_ex t.ks (M.wf_rise hkw.2 hkw.1).1 key
    cases f with
    | false =>
      refine ⟨(nullV, 15), (fun h => by rw [hw] at h; cases h), fun _ i' f' hp' => ?_⟩
      obtain ⟨rfl, rfl⟩ := place_uniq hp hp'
      exact ⟨fun _ => rfl, fun h => by cases h⟩
    | true =>
      refine ⟨(dropV t i, 0), (fun h => by rw [hw] at h; cases h), fun _ i' f' hp' => ?_⟩
      obtain ⟨rfl, rfl⟩ := place_uniq hp hp'
      exact ⟨(fun h => by cases h), fun _ => rfl⟩
theorem drop_uni {t : V} {key : ByteArray} {w w' : World} {e : Ending} {r : V × Int} (hr : DropSpec t key r) (h : NewDrop t key w e w') : NewU r.1 (.int .i64 r.2) w e w' := by
  obtain ⟨h1, h2, hb⟩ := h
  cases hw : (t.k == 5 && t.wf) with
  | false =>
    rw [hr.1 hw, h1 hw]
    exact newU (null_vx w') hb
  | true =>
    have hkw : t.k = 5 ∧ t.wf = true := by simpa using hw
    obtain ⟨i, f, hp⟩ := M.place_ex t.ks (M.wf_rise hkw.2 hkw.1).1 key
    obtain ⟨g1, g2⟩ := h2 hw i f hp
    obtain ⟨r1, r2⟩ := hr.2 hw i f hp
    cases f with
    | false =>
      rw [r1 rfl, g1 rfl]
      exact newU (null_vx w') hb
    | true =>
      obtain ⟨v, rfl, hv⟩ := g2 rfl
      rw [r2 rfl]
      exact newU hv hb

set_option maxRecDepth 100000 in
set_option maxHeartbeats 8000000 in
theorem mapsW {v x : Value} {t tx : V} {hi : Nat} {key : ByteArray} {w : World} (h : VX w 0 hi v t) (hx : VX w 0 hi x tx) (hkey : key.size ≤ 140737488351232) (hhi : hi ≤ w.heap.size) :
    Calls Try.prog 3 #[v, .string key, x] w fun e w' => e = .returned (.bool true) ∧ Below w.heap.size w w' := by
  obtain ⟨A, m, c, B, p, e, rfl⟩ := h.form
  obtain ⟨Ax, mx, cx, Bx, px, ex, rfl⟩ := hx.form
  have H := Lib.hid h; have HX := Lib.hid hx
  clear h hx
  have hA0 : Below (w.heap.size + 2) ((w.alloc (.cells #[.int .i64 t.k, .int .i64 t.n, .string t.s, .slice A m c, .slice B p e] 25)).alloc (.cells #[.int .i64 tx.k, .int .i64 tx.n, .string tx.s, .slice Ax mx cx, .slice Bx px ex] 25)) _ := Below.refl _ _
  have hz0 := two_size hA0
  go_enter Try.func3, Try.ntmps3
  go_wp2_with fail
  refine (fewX (H.out.later (two_below hA0) hhi) (by omega) (by decide) (by decide)).mono ?_
  rintro e1 w1 ⟨rfl, hc1⟩
  have hA1 := two_step hA0 hc1
  cases hf : decide ((t.sz : Int) ≤ 1100) with
  | false =>
    clear hf
    go_wp2_with fail
    refine (works_any _).mono ?_
    rintro e1 z1 ⟨rfl, hc1⟩
    go_wp2_with fail
    go_ret
    exact ⟨rfl, two_below (two_step hA1 hc1)⟩
  | true =>
    have HZ : Hid (t.sz ≤ 1100) := Lib.hid (by have := of_decide_eq_true hf; omega)
    clear hf
    obtain ⟨⟨b0, b1, b2, b3, b4⟩, g0, g1, g2, g3, g4⟩ := two5 hA1
    have hz1 := two_size hA1
    go_wp2_with fail
    refine (fewX (HX.out.later (two_below hA1) hhi) (by omega) (by decide) (by decide)).mono ?_
    rintro e1 y0 ⟨rfl, hc2⟩
    have hT0 := two_step hA1 hc2
    clear b0 b1 b2 b3 b4 g0 g1 g2 g3 g4
    cases hf : decide ((tx.sz : Int) ≤ 1100) with
    | false =>
      clear hf
      go_wp2_with fail
      refine (works_any _).mono ?_
      rintro e1 z1 ⟨rfl, hc1⟩
      go_wp2_with fail
      go_ret
      exact ⟨rfl, two_below (two_step hT0 hc1)⟩
    | true =>
      have HZX : Hid (tx.sz ≤ 1100) := Lib.hid (by have := of_decide_eq_true hf; omega)
      clear hf
      have hits : t.its.length ≤ 2000 := by
        have h1 := HZ.out
        have h2 := V.len_le_szs t.its
        cases t; simp only [V.sz, V.its] at h1 h2 ⊢; omega
      have HIT := Lib.hid hits
      clear hits hA0 hA1 hc1 hc2 hz0 hz1
      obtain ⟨r, hr⟩ : ∃ r, r = orNull (V.get t key) := ⟨_, rfl⟩
      obtain ⟨fb, hfb⟩ : ∃ fb, fb = (V.get t key).isSome := ⟨_, rfl⟩
      obtain ⟨u, hu⟩ := put_ex t key tx
      obtain ⟨o, ho⟩ := drop_ex t key
      have HR := Lib.hid hr; have HFB := Lib.hid hfb; have HU := Lib.hid hu; have HO := Lib.hid ho
      clear hr hfb hu ho
      obtain ⟨uT, uE⟩ := u
      obtain ⟨oT, oE⟩ := o
      have hT := hT0
      have hzz := two_size hT
      have hz : hi ≤ _ := Nat.le_trans hhi (Nat.le_trans (Nat.le_add_right _ 2) hzz)
      obtain ⟨⟨b0, b1, b2, b3, b4⟩, g0, g1, g2, g3, g4⟩ := two5 hT
      go_wp2_with fail
      refine (getX (H.out.later (two_below hT) hhi) hz key).mono fun e1 y1 h => ?_
      have hu := g_uni h
      rw [← HR.out, ← HFB.out] at hu
      obtain ⟨k1, n1, s1, A1, m1, c1, B1, p1, q1, rfl, hv1, hb1⟩ := hu
      have HV1 : Hid (VX y1 0 y1.heap.size _ r) := Lib.hid hv1
      have hT1 := two_step hT hb1
      clear h hv1 hb1 hT hz hzz b0 b1 b2 b3 b4 g0 g1 g2 g3 g4 hT0
      have hQ2 := box_refl y1 (.cells #[.int .i64 k1, .int .i64 n1, .string s1, .slice A1 m1 c1, .slice B1 p1 q1] 25)
      have hT := two_step hT1 (box_below hQ2)
      have hzz := two_size hT
      have hz : hi ≤ _ := Nat.le_trans hhi (Nat.le_trans (Nat.le_add_right _ 2) hzz)
      obtain ⟨⟨b0, b1, b2, b3, b4⟩, g0, g1, g2, g3, g4⟩ := two5 hT
      go_wp2_with fail
      refine (rGetX (H.out.later (two_below hT) hhi) hz key).mono fun e1 y2 h => ?_
      have hu := rg_uni hz h
      rw [← HR.out, ← HFB.out] at hu
      obtain ⟨k2, n2, s2, A2, m2, c2, B2, p2, q2, rfl, hv2, hb2⟩ := hu
      have HV2 : Hid (VX y2 0 y2.heap.size _ r) := Lib.hid hv2
      have hT2 := two_step hT hb2
      have hB1 := box_step hQ2 hb2
      clear h hv2 hb2 hT hz hzz b0 b1 b2 b3 b4 g0 g1 g2 g3 g4 hQ2 hT1
      have hQ3 := box_refl y2 (.cells #[.int .i64 k2, .int .i64 n2, .string s2, .slice A2 m2 c2, .slice B2 p2 q2] 25)
      have hT := two_step hT2 (box_below hQ3)
      have hzz := two_size hT
      have hz : hi ≤ _ := Nat.le_trans hhi (Nat.le_trans (Nat.le_add_right _ 2) hzz)
      obtain ⟨⟨b0, b1, b2, b3, b4⟩, g0, g1, g2, g3, g4⟩ := two5 hT
      go_wp2_with fail
      refine (putX (H.out.later (two_below hT) hhi) (HX.out.later (two_below hT) hhi) hz hkey HIT.out).mono fun e1 y3 h => ?_
      have hu := put_uni HU.out h
      obtain ⟨k3, n3, s3, A3, m3, c3, B3, p3, q3, rfl, hv3, hb3⟩ := hu
      have HV3 : Hid (VX y3 0 y3.heap.size _ uT) := Lib.hid hv3
      have hT3 := two_step hT hb3
      have hB2 := box_step hQ3 hb3
      clear h hv3 hb3 hT hz hzz b0 b1 b2 b3 b4 g0 g1 g2 g3 g4 hQ3 hT2
      have hQ4 := box_refl y3 (.cells #[.int .i64 k3, .int .i64 n3, .string s3, .slice A3 m3 c3, .slice B3 p3 q3] 25)
      have hT := two_step hT3 (box_below hQ4)
      have hzz := two_size hT
      have hz : hi ≤ _ := Nat.le_trans hhi (Nat.le_trans (Nat.le_add_right _ 2) hzz)
      obtain ⟨⟨b0, b1, b2, b3, b4⟩, g0, g1, g2, g3, g4⟩ := two5 hT
      go_wp2_with fail
      refine (rPutX (H.out.later (two_below hT) hhi) (HX.out.later (two_below hT) hhi) hz hkey (by have := HZ.out; omega) (by have := HZX.out; omega)).mono fun e1 y4 h => ?_
      have hu := put_uni HU.out h
      obtain ⟨k4, n4, s4, A4, m4, c4, B4, p4, q4, rfl, hv4, hb4⟩ := hu
      have HV4 : Hid (VX y4 0 y4.heap.size _ uT) := Lib.hid hv4
      have hT4 := two_step hT hb4
      have hB3 := box_step hQ4 hb4
      clear h hv4 hb4 hT hz hzz b0 b1 b2 b3 b4 g0 g1 g2 g3 g4 hQ4 hT3
      have hQ5 := box_refl y4 (.cells #[.int .i64 k4, .int .i64 n4, .string s4, .slice A4 m4 c4, .slice B4 p4 q4] 25)
      have hT := two_step hT4 (box_below hQ5)
      have hzz := two_size hT
      have hz : hi ≤ _ := Nat.le_trans hhi (Nat.le_trans (Nat.le_add_right _ 2) hzz)
      obtain ⟨⟨b0, b1, b2, b3, b4⟩, g0, g1, g2, g3, g4⟩ := two5 hT
      go_wp2_with fail
      refine (dropX (H.out.later (two_below hT) hhi) hz key HIT.out).mono fun e1 y5 h => ?_
      have hu := drop_uni HO.out h
      obtain ⟨k5, n5, s5, A5, m5, c5, B5, p5, q5, rfl, hv5, hb5⟩ := hu
      have HV5 : Hid (VX y5 0 y5.heap.size _ oT) := Lib.hid hv5
      have hT5 := two_step hT hb5
      have hB4 := box_step hQ5 hb5
      clear h hv5 hb5 hT hz hzz b0 b1 b2 b3 b4 g0 g1 g2 g3 g4 hQ5 hT4
      have hQ6 := box_refl y5 (.cells #[.int .i64 k5, .int .i64 n5, .string s5, .slice A5 m5 c5, .slice B5 p5 q5] 25)
      have hT := two_step hT5 (box_below hQ6)
      have hzz := two_size hT
      have hz : hi ≤ _ := Nat.le_trans hhi (Nat.le_trans (Nat.le_add_right _ 2) hzz)
      obtain ⟨⟨b0, b1, b2, b3, b4⟩, g0, g1, g2, g3, g4⟩ := two5 hT
      go_wp2_with fail
      refine (rDropX (H.out.later (two_below hT) hhi) hz (by have := HZ.out; omega)).mono fun e1 y6 h => ?_
      have hu := drop_uni HO.out h
      obtain ⟨k6, n6, s6, A6, m6, c6, B6, p6, q6, rfl, hv6, hb6⟩ := hu
      have HV6 : Hid (VX y6 0 y6.heap.size _ oT) := Lib.hid hv6
      have hT6 := two_step hT hb6
      have hB5 := box_step hQ6 hb6
      clear h hv6 hb6 hT hz hzz b0 b1 b2 b3 b4 g0 g1 g2 g3 g4 hQ6 hT5
      have hQ := box_refl y6 (.cells #[.int .i64 k6, .int .i64 n6, .string s6, .slice A6 m6 c6, .slice B6 p6 q6] 25)
      have HT6 := Lib.hid hT6
      -- what stands from here on
      have HC5 : Hid (∀ W, Below (y6.heap.size + 1) (y6.alloc (.cells #[.int .i64 k6, .int .i64 n6, .string s6, .slice A6 m6 c6, .slice B6 p6 q6] 25)) W → Below (y5.heap.size + 1) (y5.alloc (.cells #[.int .i64 k5, .int .i64 n5, .string s5, .slice A5 m5 c5, .slice B5 p5 q5] 25)) W) := Lib.hid (fun W hW => box_step hB5 (box_below hW))
      have HC4 : Hid (∀ W, Below (y6.heap.size + 1) (y6.alloc (.cells #[.int .i64 k6, .int .i64 n6, .string s6, .slice A6 m6 c6, .slice B6 p6 q6] 25)) W → Below (y4.heap.size + 1) (y4.alloc (.cells #[.int .i64 k4, .int .i64 n4, .string s4, .slice A4 m4 c4, .slice B4 p4 q4] 25)) W) := Lib.hid (fun W hW => box_step hB4 (box_below (HC5.out W hW)))
      have HC3 : Hid (∀ W, Below (y6.heap.size + 1) (y6.alloc (.cells #[.int .i64 k6, .int .i64 n6, .string s6, .slice A6 m6 c6, .slice B6 p6 q6] 25)) W → Below (y3.heap.size + 1) (y3.alloc (.cells #[.int .i64 k3, .int .i64 n3, .string s3, .slice A3 m3 c3, .slice B3 p3 q3] 25)) W) := Lib.hid (fun W hW => box_step hB3 (box_below (HC4.out W hW)))
      have HC2 : Hid (∀ W, Below (y6.heap.size + 1) (y6.alloc (.cells #[.int .i64 k6, .int .i64 n6, .string s6, .slice A6 m6 c6, .slice B6 p6 q6] 25)) W → Below (y2.heap.size + 1) (y2.alloc (.cells #[.int .i64 k2, .int .i64 n2, .string s2, .slice A2 m2 c2, .slice B2 p2 q2] 25)) W) := Lib.hid (fun W hW => box_step hB2 (box_below (HC3.out W hW)))
      have HC1 : Hid (∀ W, Below (y6.heap.size + 1) (y6.alloc (.cells #[.int .i64 k6, .int .i64 n6, .string s6, .slice A6 m6 c6, .slice B6 p6 q6] 25)) W → Below (y1.heap.size + 1) (y1.alloc (.cells #[.int .i64 k1, .int .i64 n1, .string s1, .slice A1 m1 c1, .slice B1 p1 q1] 25)) W) := Lib.hid (fun W hW => box_step hB1 (box_below (HC2.out W hW)))
      clear hB1 hB2 hB3 hB4 hB5 hT6
      obtain ⟨d10, d11, d12, d13, d14⟩ := box5 (HC1.out _ hQ)
      obtain ⟨d20, d21, d22, d23, d24⟩ := box5 (HC2.out _ hQ)
      go_wp2_with fail
      refine (rSameX (HV1.out.later (box_below (HC1.out _ hQ)) (Nat.le_refl _)) (HV2.out.later (box_below (HC2.out _ hQ)) (Nat.le_refl _)) (box_below (HC1.out _ hQ)).size (box_below (HC2.out _ hQ)).size).mono ?_
      rintro e1 x1 ⟨rfl, hs1⟩
      rw [V.same_yes rfl]
      have hR1 := box_step hQ hs1
      clear d10 d11 d12 d13 d14 d20 d21 d22 d23 d24
      obtain ⟨d30, d31, d32, d33, d34⟩ := box5 (HC3.out _ hR1)
      obtain ⟨d40, d41, d42, d43, d44⟩ := box5 (HC4.out _ hR1)
      go_wp2_with fail
      refine (rSameX (HV3.out.later (box_below (HC3.out _ hR1)) (Nat.le_refl _)) (HV4.out.later (box_below (HC4.out _ hR1)) (Nat.le_refl _)) (box_below (HC3.out _ hR1)).size (box_below (HC4.out _ hR1)).size).mono ?_
      rintro e1 x2 ⟨rfl, hs2⟩
      rw [V.same_yes rfl]
      have hR2 := box_step hR1 hs2
      clear d30 d31 d32 d33 d34 d40 d41 d42 d43 d44
      obtain ⟨d50, d51, d52, d53, d54⟩ := box5 (HC5.out _ hR2)
      obtain ⟨d60, d61, d62, d63, d64⟩ := box5 (hR2)
      go_wp2_with fail
      refine (rSameX (HV5.out.later (box_below (HC5.out _ hR2)) (Nat.le_refl _)) (HV6.out.later (box_below (hR2)) (Nat.le_refl _)) (box_below (HC5.out _ hR2)).size (box_below (hR2)).size).mono ?_
      rintro e1 x3 ⟨rfl, hs3⟩
      rw [V.same_yes rfl]
      have hR3 := box_step hR2 hs3
      clear d50 d51 d52 d53 d54 d60 d61 d62 d63 d64
      go_wp2_with fail
      refine (works_any _).mono ?_
      rintro e1 x4 ⟨rfl, hs4⟩
      have hR4 := box_step hR3 hs4
      go_wp2_with fail
      go_ret
      exact ⟨rfl, two_below (two_step HT6.out (box_below hR4))⟩
end Go.Proofs.Ytcamhcgafmmkdaa
