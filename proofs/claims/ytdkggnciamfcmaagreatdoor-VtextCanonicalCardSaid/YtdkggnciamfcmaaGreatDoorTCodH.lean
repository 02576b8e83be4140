/-
  Layer 3: the code's parser: a map's key.
-/
import Derived.Test.YtdkggnciamfcmaaGreatDoorTCodG
namespace Go.Proofs.YtdkggnciamfcmaaGreatDoor
set_option linter.unusedVariables false
open Go.RowKit
open M (V Res)

namespace M
theorem plc_eq {key : ByteArray} : ∀ (ks : List ByteArray) (i : Nat), i ≤ ks.length → (∀ q, q < i → Go.Op.bytesLess (ks.getD q ByteArray.empty).toList key.toList = true) → (i < ks.length → Go.Op.bytesLess (ks.getD i ByteArray.empty).toList key.toList = false) → plc ks key = i
  | [], i, h, _, _ => by
    have : i = 0 := by simpa using h
    subst this; rfl
  | k :: ks, 0, _, _, h2 => by
    have h := h2 (by simp)
    unfold plc
    rw [List.takeWhile_cons_of_neg (by rw [show k = (k :: ks).getD 0 ByteArray.empty from rfl, h]; decide)]; rfl
  | k :: ks, i + 1, hi, h1, h2 => by
    have h := h1 0 (by omega)
    have ih := plc_eq ks i (by simpa using hi) (fun q hq => by have := h1 (q + 1) (by omega); simpa using this) (fun hq => by have := h2 (by simpa using hq); simpa using this)
    unfold plc at ih ⊢
    rw [List.takeWhile_cons_of_pos (by simpa using h), List.length_cons, ih]
end M

def isKey (ks : List ByteArray) (k : ByteArray) (v : Value) (_ : World) : Prop := v = .tuple #[.string k, .int .i64 (M.plc ks k : Int)]

set_option maxRecDepth 100000 in
set_option maxHeartbeats 4000000 in
theorem nkey_any {w : World} {g i b lo hi n c : Nat} {A : Option Addr} {s : ByteArray} {ks : List ByteArray} (h : Prs w g s i b) (hk : KS w lo hi A n c ks) (hhi : hi ≤ w.heap.size) (hout : g < lo ∨ hi ≤ g) (hrise : M.Rise ks) :
    Calls Tryz.prog 80 #[.pointer (some ⟨g, 0, none⟩), .slice A n c] w (Ends g s (isKey ks) (M.nkey s ks i b) w) := by
  obtain ⟨r, hr⟩ : ∃ r, r = M.nkey s ks i b := ⟨_, rfl⟩
  rw [← hr]
  have HR := Lib.hid hr
  have HK := Lib.hid hk
  have HRI := Lib.hid hrise
  have HLEN := Lib.hid hk.len
  clear hr hk hrise
  go_enter Tryz.func80, Tryz.ntmps80
  go_wp2_with fail
  refine (vis_any h).mono ?_
  rintro e w1 ⟨hg1, hm⟩
  obtain ⟨q, hq⟩ : ∃ q, q = M.vis s i b := ⟨_, rfl⟩
  rw [← hq] at hm
  have HR2 : Hid (r = q.then fun c j b => (M.want 34 c j b).then fun _ j b => (M.lit s j b).then fun k j2 b => if M.plc ks k < ks.length ∧ (ks.getD (M.plc ks k) ByteArray.empty).toList = k.toList then .no (j - 1) 9 else .ok k j2 b) := Lib.hid (by rw [HR.out, hq]; rfl)
  rcases q with ⟨d, j, b1⟩ | ⟨kk, er⟩
  rotate_left
  · subst hm
    exact ⟨rfl, Ends.fault hg1 (by rw [HR2.out]; rfl)⟩
  obtain ⟨v, rfl, hP1, rfl⟩ := hm
  obtain ⟨q1, q2, q3, q4⟩ := M.vis_inv hq
  have hj0 : 0 < j := by omega
  have HP1 := Lib.hid hP1; have HG1 := Lib.hid hg1; have HJ := Lib.hid hj0
  clear hP1 hg1 hq q1 q2 q3 q4 h hj0
  go_wp2_with fail
  refine (want_any 34 d HP1.out HJ.out).mono ?_
  rintro e w2 ⟨hg2, hm⟩
  obtain ⟨q, hq⟩ : ∃ q, q = M.want 34 d j b1 := ⟨_, rfl⟩
  rw [← hq] at hm
  have HR3 : Hid (r = q.then fun _ j b => (M.lit s j b).then fun k j2 b => if M.plc ks k < ks.length ∧ (ks.getD (M.plc ks k) ByteArray.empty).toList = k.toList then .no (j - 1) 9 else .ok k j2 b) := Lib.hid (by rw [HR2.out, hq]; rfl)
  rcases q with ⟨u, j2, b2⟩ | ⟨kk, er⟩
  rotate_left
  · subst hm
    exact ⟨rfl, Ends.fault (HG1.out.trans hg2) (by rw [HR3.out]; rfl)⟩
  obtain ⟨v, rfl, hP2, rfl⟩ := hm
  have hj2 : j2 = j := by
    unfold M.want at hq
    split at hq
    · injection hq
    · cases hq
  subst hj2
  obtain ⟨c0, c1, c2, f1, f2⟩ := hP2.cells
  have hle := hP2.le
  have hfit := hP2.fit
  obtain ⟨k, hk⟩ : ∃ k, k = j2 - 1 := ⟨_, rfl⟩
  have hki : (j2 : Int) - 1 = (k : Int) := by have := HJ.out; omega
  have HR4 : Hid (r = (M.lit s j2 b2).then fun x j3 b => if M.plc ks x < ks.length ∧ (ks.getD (M.plc ks x) ByteArray.empty).toList = x.toList then .no k 9 else .ok x j3 b) := Lib.hid (by rw [HR3.out, hk]; rfl)
  have HP2 := Lib.hid hP2; have HG2 := Lib.hid (HG1.out.trans hg2)
  clear hP2 hg2 hq hk HR2 HR3 HR
  go_wp2_with fail
  refine (lit_any HP2.out HJ.out).mono ?_
  rintro e w3 ⟨hg3, hm⟩
  obtain ⟨q, hq⟩ : ∃ q, q = M.lit s j2 b2 := ⟨_, rfl⟩
  rw [← hq] at hm
  have HR5 : Hid (r = q.then fun x j3 b => if M.plc ks x < ks.length ∧ (ks.getD (M.plc ks x) ByteArray.empty).toList = x.toList then .no k 9 else .ok x j3 b) := Lib.hid (by rw [HR4.out, hq])
  rcases q with ⟨x, j3, b3⟩ | ⟨kk, er⟩
  rotate_left
  · subst hm
    exact ⟨rfl, Ends.fault (HG2.out.trans hg3) (by rw [HR5.out]; rfl)⟩
  obtain ⟨v, rfl, hP3, rfl⟩ := hm
  have HP3 := Lib.hid hP3; have HG3 := Lib.hid (HG2.out.trans hg3)
  have hk3 : KS w3 lo hi A n c ks := HK.out.kept fun y h1 h2 => HG3.out.block y (by omega) (fun e => by injection e; omega)
  have hz3 : hi ≤ w3.heap.size := Nat.le_trans hhi HG3.out.size
  have HK3 := Lib.hid hk3; have HZ3 := Lib.hid hz3
  clear hP3 hg3 hq hk3 hz3 c0 c1 c2 f1 f2 HR4
  go_wp2_with fail
  refine (search_any HK3.out HZ3.out HRI.out x).mono ?_
  rintro e w4 ⟨p, fnd, rfl, hp1, hp2, hp3, hp4, hb4⟩
  have hpl : M.plc ks x = p := M.plc_eq ks p hp1 hp2 (fun h => hp3 p (Nat.le_refl _) h)
  have HP4 := Lib.hid (HP3.out.kept (hb4.block g HP3.out.lt))
  have HG4 := Lib.hid (HG3.out.trans (Below.only hb4))
  have HPL := Lib.hid hpl
  cases fnd with
  | true =>
    have hfd := hp4.1 rfl
    have HR6 : Hid (r = .no k 9) := Lib.hid (by
      rw [HR5.out, Res.then_ok, hpl, if_pos ⟨hfd.1, by rw [hfd.2]⟩])
    clear hp1 hp2 hp3 hp4 hb4 hpl hfd
    go_wp2_with fail
    refine (fail_any _ _ _).mono ?_
    rintro e w5 ⟨rfl, rfl⟩
    exact ⟨rfl, Ends.fault HG4.out HR6.out⟩
  | false =>
    have HR6 : Hid (r = .ok x j3 b3) := Lib.hid (by
      rw [HR5.out, Res.then_ok, hpl, if_neg (fun h => by have := hp4.2 ⟨h.1, M.toList_inj h.2⟩; cases this)])
    clear hp1 hp2 hp3 hp4 hb4 hpl
    go_wp2_with fail
    go_ret2
    exact Ends.good HG4.out HP4.out (by show _ = _; rw [HPL.out]; rfl) HR6.out
end Go.Proofs.YtdkggnciamfcmaaGreatDoor
