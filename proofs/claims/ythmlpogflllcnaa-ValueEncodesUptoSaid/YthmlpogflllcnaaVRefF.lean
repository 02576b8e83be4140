/-
  Layer 2: the reference's Encode.
-/
import Derived.Test.YthmlpogflllcnaaVRefB
import Derived.Test.YthmlpogflllcnaaVMem3
import Derived.Test.YthmlpogflllcnaaVal6
import Derived.Test.YthmlpogflllcnaaPut
import Derived.Test.YthmlpogflllcnaaPutT
import Derived.Test.YthmlpogflllcnaaVCodI
namespace Go.Proofs.Ythmlpogflllcnaa
set_option linter.unusedVariables false
open Go.RowKit
open M (V)

/-- Bytes in a slice of its own; nothing old has changed. -/
def New (l : List UInt8) (w : World) (e : Ending) (w' : World) : Prop := ∃ A m c, e = .returned (.slice A m c) ∧ RB w' 0 w'.heap.size A m c l ∧ Below w.heap.size w w'
theorem RB.wide {w : World} {lo hi n c lo' hi' : Nat} {A : Option Addr} {l : List UInt8} (h : RB w lo hi A n c l) (h1 : lo' ≤ lo) (h2 : hi ≤ hi') : RB w lo' hi' A n c l :=
  ⟨h.len, h.cap, h.most, h.nil, fun hn => by
    obtain ⟨b, off, e, g1, g2, g3⟩ := h.at_ hn
    exact ⟨b, off, e, by omega, by omega, g3⟩⟩
theorem rInt_any {A : Option Addr} {m c lo hi : Nat} {l : List UInt8} {n : Int} {w : World} (h : RB w lo hi A m c l) (hhi : hi ≤ w.heap.size) (h1 : -9223372036854775808 ≤ n) (h2 : n ≤ 9223372036854775807) (hb : (l ++ M.enc (M.zig n)).length ≤ 140737488355000) :
    Calls Try.prog 87 #[.slice A m c, .int .i64 n] w (New (l ++ M.enc (M.zig n)) w) :=
  (refPutInt_any A m c l lo hi n w h hhi h1 h2 (by have := h.len; rw [List.length_append] at hb; omega)).mono fun e w' ⟨v, e1, ho, hbl⟩ => by
    obtain ⟨A', m', c', rfl, hr⟩ := ho.form
    exact ⟨A', m', c', e1, hr.wide (Nat.zero_le _) (Nat.le_refl _), hbl⟩
theorem rText_any {A : Option Addr} {m c lo hi : Nat} {l : List UInt8} {s : ByteArray} {w : World} (h : RB w lo hi A m c l) (hhi : hi ≤ w.heap.size) (hb : (l ++ M.sby s).length ≤ 140737488355000) :
    Calls Try.prog 88 #[.slice A m c, .string s] w (New (l ++ M.sby s) w) :=
  (refPutText_any A m c l lo hi s w h hhi (by
    have := h.len
    have e : s.data.toList.length = s.size := Array.length_toList
    simp only [M.sby, List.length_append] at hb; omega)).mono fun e w' ⟨v, e1, ho, hbl⟩ => by
    obtain ⟨A', m', c', rfl, hr⟩ := ho.form
    exact ⟨A', m', c', e1, hr.wide (Nat.zero_le _) (Nat.le_refl _), hbl⟩

def rPutAt (d : Nat) : Prop := ∀ (A' : Option Addr) (m' c' : Nat) (l : List UInt8) (lo' hi' : Nat) (v : Value) (t : V) (lo hi : Nat) (w : World), RB w lo' hi' A' m' c' l → hi' ≤ w.heap.size → VB w lo hi d v t → hi ≤ w.heap.size → t.wf = true → (l ++ t.encv).length ≤ 140737488355000 →
  Calls Try.prog 68 #[.slice A' m' c', v] w (New (l ++ t.encv) w)

set_option maxRecDepth 100000 in
set_option maxHeartbeats 4000000 in
theorem rPut_step (d : Nat) (ih : rPutAt d) : rPutAt (d + 1) := by
  intro A' m' c' l lo' hi' v t lo hi w hr hhi' h hhi hw hb
  obtain ⟨k, n, s, its, ks⟩ := t
  obtain ⟨A, m, c, B, p, e, rfl, k1, k2, n1, n2, s1, hI, hK⟩ := h
  have hmap := M.wf_map hw
  have HWI : Hid (V.wfs its = true) := Lib.hid (M.wf_items hw)
  simp only [V.k, V.n, V.s, V.its, V.ks] at hI hK k1 k2 n1 n2 s1 hmap
  have hcap := hI.cap
  have hmost := hI.most
  have hcap2 := hK.cap
  have hmost2 := hK.most
  have HLI := Lib.hid hI.len
  have HLK := Lib.hid hK.len
  have HI := Lib.hid hI
  have HK := Lib.hid hK
  have IH := Lib.hid ih
  have hb0 : Below (w.heap.size + 1) (w.alloc (.cells #[.int .i64 k, .int .i64 n, .string s, .slice A m c, .slice B p e] 26)) (w.alloc (.cells #[.int .i64 k, .int .i64 n, .string s, .slice A m c, .slice B p e] 26)) := Below.refl _ _
  rw [HLI.out, HLK.out] at hmap
  have HM := Lib.hid hmap
  clear hI hK ih hmap hw
  obtain ⟨L, hL⟩ : ∃ L, L = V.encv (.mk k n s its ks) := ⟨_, rfl⟩
  rw [← hL] at hb ⊢
  have hn1 : (l ++ M.enc (M.zig k)).length ≤ 140737488355000 := by
    rw [hL, V.encv, ← List.append_assoc, List.length_append] at hb; omega
  have HL := Lib.hid hL; have HB := Lib.hid hb; have HN1 := Lib.hid hn1
  have hr0 := hr.alloc hhi' (.cells #[.int .i64 k, .int .i64 n, .string s, .slice A m c, .slice B p e] 26)
  clear hL hb hn1 hr
  by_cases c1 : k = 1 ∨ k = 2 ∨ k = 6
  · have HE : Hid (L = M.enc (M.zig k) ++ M.enc (M.zig n)) := Lib.hid (by rw [HL.out, V.enc_int c1])
    have HN2 : Hid (((l ++ M.enc (M.zig k)) ++ M.enc (M.zig n)).length ≤ 140737488355000) := Lib.hid (by rw [List.append_assoc, ← HE.out]; exact HB.out)
    rcases c1 with rfl | rfl | rfl
    all_goals
      go_enter Try.func68, Try.ntmps68
      go_wp2_with fail
      refine (rInt_any hr0 (by simp; omega) k1 k2 HN1.out).mono ?_
      rintro e w1 ⟨A1, m1, c1, rfl, hr1, hb1⟩
      simp only [World.size_alloc] at hb1
      obtain ⟨b0, b1, b2, b3, b4⟩ := box5 hb1
      have hz1 := box_size hb1
      go_wp2_with fail
      refine (rInt_any hr1 (Nat.le_refl _) n1 n2 HN2.out).mono ?_
      rintro e w2 ⟨A2, m2, c2, rfl, hr2, hb2⟩
      go_wp2_with fail
      go_ret
      exact ⟨_, _, _, rfl, by rw [HE.out, ← List.append_assoc]; exact hr2, box_below (box_step hb1 hb2)⟩
  by_cases c3 : k = 3
  · subst c3
    have HE : Hid (L = M.enc (M.zig 3) ++ M.sby s) := Lib.hid (by rw [HL.out, V.enc_text])
    have HN2 : Hid (((l ++ M.enc (M.zig 3)) ++ M.sby s).length ≤ 140737488355000) := Lib.hid (by rw [List.append_assoc, ← HE.out]; exact HB.out)
    clear c1
    go_enter Try.func68, Try.ntmps68
    go_wp2_with fail
    refine (rInt_any hr0 (by simp; omega) k1 k2 HN1.out).mono ?_
    rintro e w1 ⟨A1, m1, c1, rfl, hr1, hb1⟩
    simp only [World.size_alloc] at hb1
    obtain ⟨b0, b1, b2, b3, b4⟩ := box5 hb1
    have hz1 := box_size hb1
    go_wp2_with fail
    refine (rText_any hr1 (Nat.le_refl _) HN2.out).mono ?_
    rintro e w2 ⟨A2, m2, c2, rfl, hr2, hb2⟩
    go_wp2_with fail
    go_ret
    exact ⟨_, _, _, rfl, by rw [HE.out, ← List.append_assoc]; exact hr2, box_below (box_step hb1 hb2)⟩
  by_cases c4 : k = 4 ∨ k = 5
  · have HE : Hid (L = M.enc (M.zig k) ++ (M.enc (M.zig (m : Int)) ++ V.encs (k == 5) its ks)) := Lib.hid (by rw [HL.out, V.enc_items c4, HLI.out])
    have HN2 : Hid (((l ++ M.enc (M.zig k)) ++ M.enc (M.zig (m : Int))).length ≤ 140737488355000) := Lib.hid (by
      have := HB.out
      rw [HE.out, ← List.append_assoc, ← List.append_assoc, List.length_append] at this; omega)
    clear c1 c3
    have HC := Lib.hid c4
    rcases c4 with rfl | rfl
    · skip
      go_enter Try.func68, Try.ntmps68
      go_wp2_with fail
      refine (rInt_any hr0 (by simp; omega) k1 k2 HN1.out).mono ?_
      rintro e w1 ⟨A1, m1, c1, rfl, hr1, hb1⟩
      simp only [World.size_alloc] at hb1
      obtain ⟨b0, b1, b2, b3, b4⟩ := box5 hb1
      have hz1 := box_size hb1
      go_wp2_with fail
      refine (rInt_any hr1 (Nat.le_refl _) (by omega) (by omega) HN2.out).mono ?_
      rintro e w2 ⟨A2, m2, c2, rfl, hr2, hb2⟩
      have hb3 := box_step hb1 hb2
      clear b0 b1 b2 b3 b4
      go_wp2_with fail
      go_loopw [0, 5] (fun x y wr => ∃ (j : Nat) (A3 : Option Addr) (m3 c3 : Nat) (l' : List UInt8), x = .slice A3 m3 c3 ∧ y = .int .i64 j ∧ j ≤ m ∧ RB wr 0 wr.heap.size A3 m3 c3 l' ∧ Hid (l' ++ V.encs ((4 : Int) == 5) (its.drop j) (ks.drop j) = l ++ L) ∧ Below (w.heap.size + 1) (w.alloc (.cells #[.int .i64 4, .int .i64 n, .string s, .slice A m c, .slice B p e] 26)) wr) (fun _ y _ => m - (intOf y).toNat)
      case atStart => exact ⟨0, _, _, _, _, rfl, rfl, by omega, hr2, Lib.hid (by rw [HE.out, List.append_assoc, List.append_assoc]; rfl), hb3⟩
      case round =>
        clear hr2 hb3 hb2 hb1 hr1 hz1
        obtain ⟨j, A3, m3, c3, l', rfl, rfl, hj, hr3, HE3, hb3⟩ := hrel
        obtain ⟨b0, b1, b2, b3, b4⟩ := box5 hb3
        have hz3 := box_size hb3
        by_cases hlt : j < m
        · have hstep := V.encs_step (m := (4 : Int) == 5) (its := its) (ks := ks) (i := j) (by rw [HLI.out]; exact hlt)
          have hwj := V.wfs_get HWI.out j (by rw [HLI.out]; exact hlt)
          obtain ⟨b, off, kk, ii, ss, x, y, rfl, c0, c1, c2, c3, c4, hv⟩ := HI.out.item (box_below hb3) hhi hlt
          obtain ⟨A1, n1', cc1, B1, m1', e1', rfl, rfl⟩ := hv.cells
          generalize hq : its.getD j default = q at *
          have HQ := Lib.hid hq; have HS := Lib.hid hstep; have HWJ := Lib.hid hwj
          clear hq hstep hwj
          have hS2 : V.encs ((4 : Int) == 5) (its.drop j) (ks.drop j) = q.encv ++ V.encs ((4 : Int) == 5) (its.drop (j + 1)) (ks.drop (j + 1)) := by rw [HS.out]; rfl
          have HS2 := Lib.hid hS2
          clear hS2
          go_wp2_with fail
          refine (IH.out _ _ _ l' _ _ _ _ _ _ _ hr3 (Nat.le_refl _) hv (by omega) HWJ.out ?_).mono ?_
          · have := congrArg List.length HE3.out
            have := HB.out
            rw [HS2.out] at *
            simp only [List.length_append] at *
            omega
          rintro e w4 ⟨A4, m4, c4', rfl, hr4, hb4⟩
          have hb5 := box_step hb3 hb4
          clear c0 c1 c2 c3 c4 hv b0 b1 b2 b3 b4
          go_wp2_with fail
          go_roundw
          case rel => exact ⟨j + 1, _, _, _, _, rfl, by go_num, by omega, hr4, Lib.hid (by rw [List.append_assoc, ← HS2.out]; exact HE3.out), hb5⟩
          case measure => simp [intOf]; omega
        · go_wp2_with fail
          go_ret
          have he := HE3.out
          rw [V.encs_end (by rw [HLI.out]; omega), List.append_nil] at he
          subst he
          exact ⟨_, _, _, rfl, hr3, box_below hb3⟩
    · skip
      go_enter Try.func68, Try.ntmps68
      go_wp2_with fail
      refine (rInt_any hr0 (by simp; omega) k1 k2 HN1.out).mono ?_
      rintro e w1 ⟨A1, m1, c1, rfl, hr1, hb1⟩
      simp only [World.size_alloc] at hb1
      obtain ⟨b0, b1, b2, b3, b4⟩ := box5 hb1
      have hz1 := box_size hb1
      go_wp2_with fail
      refine (rInt_any hr1 (Nat.le_refl _) (by omega) (by omega) HN2.out).mono ?_
      rintro e w2 ⟨A2, m2, c2, rfl, hr2, hb2⟩
      have hb3 := box_step hb1 hb2
      clear b0 b1 b2 b3 b4
      go_wp2_with fail
      go_loopw [0, 5] (fun x y wr => ∃ (j : Nat) (A3 : Option Addr) (m3 c3 : Nat) (l' : List UInt8), x = .slice A3 m3 c3 ∧ y = .int .i64 j ∧ j ≤ m ∧ RB wr 0 wr.heap.size A3 m3 c3 l' ∧ Hid (l' ++ V.encs ((5 : Int) == 5) (its.drop j) (ks.drop j) = l ++ L) ∧ Below (w.heap.size + 1) (w.alloc (.cells #[.int .i64 5, .int .i64 n, .string s, .slice A m c, .slice B p e] 26)) wr) (fun _ y _ => m - (intOf y).toNat)
      case atStart => exact ⟨0, _, _, _, _, rfl, rfl, by omega, hr2, Lib.hid (by rw [HE.out, List.append_assoc, List.append_assoc]; rfl), hb3⟩
      case round =>
        clear hr2 hb3 hb2 hb1 hr1 hz1
        obtain ⟨j, A3, m3, c3, l', rfl, rfl, hj, hr3, HE3, hb3⟩ := hrel
        obtain ⟨b0, b1, b2, b3, b4⟩ := box5 hb3
        have hz3 := box_size hb3
        by_cases hlt : j < m
        · have hstep := V.encs_step (m := (5 : Int) == 5) (its := its) (ks := ks) (i := j) (by rw [HLI.out]; exact hlt)
          have hwj := V.wfs_get HWI.out j (by rw [HLI.out]; exact hlt)
          have hpm : p = m := HM.out (by trivial)
          subst hpm
          obtain ⟨b9, off9, rfl, c9⟩ := HK.out.item (box_below hb3) hhi hlt
          generalize hx : ks.getD j ByteArray.empty = kx at *
          have HX := Lib.hid hx; have HS := Lib.hid hstep; have HWJ := Lib.hid hwj
          clear hx hstep hwj
          have hS2 : V.encs ((5 : Int) == 5) (its.drop j) (ks.drop j) = M.sby kx ++ ((its.getD j default).encv ++ V.encs ((5 : Int) == 5) (its.drop (j + 1)) (ks.drop (j + 1))) := by rw [HS.out]; rfl
          have HS2 := Lib.hid hS2
          clear hS2
          have hLn : (l' ++ M.sby kx).length ≤ 140737488355000 ∧ ((l' ++ M.sby kx) ++ (its.getD j default).encv).length ≤ 140737488355000 := by
            have e1 := congrArg List.length HE3.out
            have e2 := HB.out
            rw [HS2.out] at e1
            simp only [List.length_append] at *
            omega
          have HLn := Lib.hid hLn
          clear hLn
          go_wp2_with fail
          refine (rText_any hr3 (Nat.le_refl _) HLn.out.1).mono ?_
          rintro e w4 ⟨A4, m4, c4', rfl, hr4, hb4⟩
          have hb5 := box_step hb3 hb4
          have hz5 := box_size hb5
          clear b0 b1 b2 b3 b4 c9
          obtain ⟨b0, b1, b2, b3, b4⟩ := box5 hb5
          obtain ⟨b, off, kk, ii, ss, x, y, rfl, c0, c1, c2, c3, c4, hv⟩ := HI.out.item (box_below hb5) hhi hlt
          obtain ⟨A1, n1', cc1, B1, m1', e1', rfl, rfl⟩ := hv.cells
          generalize hq : its.getD j default = q at *
          have HQ := Lib.hid hq
          clear hq
          go_wp2_with fail
          refine (IH.out _ _ _ _ _ _ _ _ _ _ _ hr4 (Nat.le_refl _) hv (by omega) HWJ.out HLn.out.2).mono ?_
          rintro e w5 ⟨A5, m5, c5, rfl, hr5, hb6⟩
          have hb7 := box_step hb5 hb6
          clear c0 c1 c2 c3 c4 hv b0 b1 b2 b3 b4
          go_wp2_with fail
          go_roundw
          case rel => exact ⟨j + 1, _, _, _, _, rfl, by go_num, by omega, hr5, Lib.hid (by rw [List.append_assoc, List.append_assoc, ← HS2.out]; exact HE3.out), hb7⟩
          case measure => simp [intOf]; omega
        · go_wp2_with fail
          go_ret
          have he := HE3.out
          rw [V.encs_end (by rw [HLI.out]; omega), List.append_nil] at he
          subst he
          exact ⟨_, _, _, rfl, hr3, box_below hb3⟩
  · have e1 : (k == 1) = false := by rw [beq_eq_false_iff_ne]; omega
    have e2 : (k == 2) = false := by rw [beq_eq_false_iff_ne]; omega
    have e3 : (k == 3) = false := by rw [beq_eq_false_iff_ne]; omega
    have e4 : (k == 4) = false := by rw [beq_eq_false_iff_ne]; omega
    have e5 : (k == 5) = false := by rw [beq_eq_false_iff_ne]; omega
    have e6 : (k == 6) = false := by rw [beq_eq_false_iff_ne]; omega
    have HE : Hid (L = M.enc (M.zig k)) := Lib.hid (by rw [HL.out, V.enc_none (by omega) (by omega) c3 (by omega) (by omega) (by omega)])
    clear c1 c3 c4
    go_enter Try.func68, Try.ntmps68
    go_wp2_with fail
    refine (rInt_any hr0 (by simp; omega) k1 k2 HN1.out).mono ?_
    rintro e w1 ⟨A1, m1, c1, rfl, hr1, hb1⟩
    simp only [World.size_alloc] at hb1
    obtain ⟨b0, b1, b2, b3, b4⟩ := box5 hb1
    have hz1 := box_size hb1
    go_wp2_with fail
    go_ret
    exact ⟨_, _, _, rfl, by rw [HE.out]; exact hr1, box_below hb1⟩

theorem rPut_at : ∀ d, rPutAt d
  | 0 => fun _ _ _ _ _ _ _ _ _ _ _ _ _ h _ _ _ => h.elim
  | d + 1 => rPut_step d (rPut_at d)

set_option maxRecDepth 100000 in
set_option maxHeartbeats 1000000 in
theorem rEncodeX {A' : Option Addr} {n' c' lo' hi' : Nat} {l : List UInt8} {v : Value} {t : V} {lo hi : Nat} {w : World} (hr : RB w lo' hi' A' n' c' l) (hhi' : hi' ≤ w.heap.size) (h : VX w lo hi v t) (hhi : hi ≤ w.heap.size) (hb : (l ++ V.code t).length ≤ 140737488355000) :
    Calls Try.prog 45 #[.slice A' n' c', v] w (New (l ++ V.code t) w) := by
  obtain ⟨A, m, c, B, p, e, rfl⟩ := h.form
  have hl := hr.len
  have hln : n' ≤ 140737488355000 := by rw [List.length_append] at hb; omega
  have HLn := Lib.hid hl
  clear hl
  have HB := Lib.hid hb
  clear hb
  have hb0 := box_refl w (.cells #[.int .i64 t.k, .int .i64 t.n, .string t.s, .slice A m c, .slice B p e] 26)
  go_enter Try.func45, Try.ntmps45
  go_wp2_with (at_builtin; refine wpList_append_kb rfl _ _ rfl (w.heap.size + 1) _ [] rfl (OB.empty _ _) lo' hi' A' n' c' l rfl (hr.alloc hhi' _) ?c1 ?c2 ?_)
  case c1 => simp; omega
  case c2 => simp
  intro v1 w1 ho1 hb1 hk1
  have hb2 := hb0.trans hb1
  have hz1 := box_size hb2
  obtain ⟨b0, b1, b2, b3, b4⟩ := box5 hb2
  obtain ⟨A1, n1, c1, rfl, hr1⟩ := ho1.form
  go_wp2_with fail
  refine (rWfX (h.later (box_below hb2) hhi) (by omega)).mono ?_
  rintro e w2 ⟨rfl, hb3⟩
  have hb4 := box_step hb2 hb3
  have hz2 := box_size hb4
  have hz3 := hb3.size
  have hr2 : RB w2 0 w2.heap.size A1 n1 c1 l := (hr1.kept (Kept.of_below hb3 (Nat.le_refl _))).wide (Nat.zero_le _) hz3
  clear b0 b1 b2 b3 b4
  obtain ⟨b0, b1, b2, b3, b4⟩ := box5 hb4
  cases hw : t.wf with
  | false =>
    have HW := Lib.hid hw
    clear hw
    go_wp2_with fail
    go_ret
    exact ⟨_, _, _, rfl, by unfold V.code; rw [HW.out]; simpa using hr2, box_below hb4⟩
  | true =>
    have HW := Lib.hid hw
    clear hw
    obtain ⟨d, hd⟩ := h.later (box_below hb4) hhi
    have hcd : V.code t = t.encv := by unfold V.code; rw [HW.out]; simp
    have HB2 : Hid ((l ++ t.encv).length ≤ 140737488355000) := Lib.hid (by rw [← hcd]; exact HB.out)
    have HCD := Lib.hid hcd
    clear hcd
    go_wp2_with fail
    refine (rPut_at d _ _ _ l _ _ _ t lo hi _ hr2 (Nat.le_refl _) hd (by omega) HW.out HB2.out).mono ?_
    rintro e w3 ⟨A3, m3, c3, rfl, hr3, hb5⟩
    go_wp2_with fail
    go_ret
    exact ⟨_, _, _, rfl, by rw [HCD.out]; exact hr3, box_below (box_step hb4 hb5)⟩
end Go.Proofs.Ythmlpogflllcnaa
