/-
  Layer 3: the code's parser: integers.
-/
import Derived.Test.YtdkggnciamfcmaaGreatDoorTCodD
import Derived.Test.YtdkggnciamfcmaaGreatDoorNumP
import Derived.Laws.DeepStrings4
import Derived.Deep.RegionHeld3
namespace Go.Proofs.YtdkggnciamfcmaaGreatDoor
set_option linter.unusedVariables false
open Go.RowKit
open M (V Res)

namespace M
/-- The place behind a run of digits. -/
def digsF (s : ByteArray) : Nat → Nat → Nat
  | 0, i => i
  | k + 1, i => if digit (ch s i) = true then digsF s k (i + 1) else i
def digs (s : ByteArray) (i : Nat) : Nat := digsF s (s.size - i) i
theorem digs_end {s : ByteArray} {i : Nat} (h : s.size ≤ i) : digs s i = i := by unfold digs; rw [show s.size - i = 0 by omega]; rfl
theorem digs_yes {s : ByteArray} {i : Nat} (h : i < s.size) (hb : digit (ch s i) = true) : digs s i = digs s (i + 1) := by
  unfold digs
  rw [show s.size - i = (s.size - (i + 1)) + 1 by omega, digsF, if_pos hb]
theorem digs_no {s : ByteArray} {i : Nat} (hb : digit (ch s i) = false) : digs s i = i := by
  unfold digs
  cases s.size - i with
  | zero => rfl
  | succ k => rw [digsF, if_neg (by rw [hb]; decide)]
theorem digsF_le (s : ByteArray) : ∀ k i, i ≤ digsF s k i ∧ digsF s k i ≤ i + k
  | 0, i => ⟨Nat.le_refl _, Nat.le_refl _⟩
  | k + 1, i => by
    rw [digsF]
    split
    · have := digsF_le s k (i + 1); omega
    · omega
theorem digs_le {s : ByteArray} {i : Nat} (h : i ≤ s.size) : i ≤ digs s i ∧ digs s i ≤ s.size := by
  have := digsF_le s (s.size - i) i
  unfold digs; omega
/-- The number that a numeral spells, if an int holds it. -/
def num (s : ByteArray) (i j : Nat) : Option Int := match Lib.parseIntB 64 (s.extract i j).data.toList with | .ok v => some v | _ => none
def lead (s : ByteArray) (c i b : Nat) : Res Nat := if c = 45 then (take s i b).then fun d j b => if d = 48 ∨ digit d = false then .no (j - 1) 3 else .ok d j b else .ok c i b
def tail (s : ByteArray) (k d j b : Nat) : Res Int :=
  if d = 48 ∧ j < s.size ∧ digit (ch s j) = true then .no j 3
  else match num s k (digs s j) with | some v => .ok v (digs s j) b | none => .no k 14
def int (s : ByteArray) (c i b : Nat) : Res Int := (lead s c i b).then fun d j b => tail s (i - 1) d j b
end M

/-- What the library's two errors hold. -/
structure Doors (w : World) : Prop where
  syn : ∃ ev, w.cell? ⟨2, 0, none⟩ = some ev ∧ (ev = .nilIface ∨ ∃ te pe, ev = .iface te pe)
  rng : ∃ ev, w.cell? ⟨3, 0, none⟩ = some ev ∧ (ev = .nilIface ∨ ∃ te pe, ev = .iface te pe)
theorem Doors.grown {w w' : World} {g : Nat} (h : Doors w) (hg : w.grownBy w' (some g)) (h8 : 7 < g) : Doors w' := by
  have hk : ∀ k, k < w.heap.size → k ≠ g → w'.heap[k]? = w.heap[k]? := fun k h1 h2 => hg.block k h1 (by intro e; injection e with e; exact h2 e)
  obtain ⟨⟨e1, a1, b1⟩, ⟨e2, a2, b2⟩⟩ := h
  refine ⟨⟨e1, ?_, b1⟩, ⟨e2, ?_, b2⟩⟩
  · have hl := Lib.lt_of_cell a1
    rw [← a1]; unfold World.cell?; rw [hk _ hl (show (2 : Nat) ≠ g by omega)]
  · have hl := Lib.lt_of_cell a2
    rw [← a2]; unfold World.cell?; rw [hk _ hl (show (3 : Nat) ≠ g by omega)]
theorem Below.only {w w' : World} {g : Nat} (h : Below w.heap.size w w') : w.grownBy w' (some g) := ⟨h.os, h.tape, h.output, h.size, fun k h1 _ => h.block k h1⟩

/-- What strconv.ParseInt gives for a part of a text. -/
def numOut (o : Option Int) (n : Int) (er : Value) : Prop := match o with
  | some v => n = v ∧ er = .nilIface
  | none => ∃ N, er = .iface 108 (.pointer (some ⟨N, 0, none⟩))
theorem num_any (s : ByteArray) (i j : Nat) (w : World) (hs : (s.extract i j).size ≤ 1000000000) (hd : Doors w) :
    Calls Tryz.prog 84 #[.string (s.extract i j), .int .i64 10, .int .i64 64] w fun e w' => ∃ n er, e = .returned (.tuple #[.int .i64 n, er]) ∧ Below w.heap.size w w' ∧ numOut (M.num s i j) n er := by
  unfold M.num
  cases hq : Lib.parseIntB 64 (s.extract i j).data.toList with
  | ok v =>
    refine (Tryz.strconv_ParseInt_10_at64_ok _ (by omega) v hq w).mono ?_
    rintro e w' ⟨rfl, hw⟩
    refine ⟨v, .nilIface, rfl, ?_, rfl, rfl⟩
    rcases hw with rfl | ⟨t, rfl⟩
    · exact Below.refl _ _
    · exact Lib.bytesWorld_below _ _ _
  | range =>
    obtain ⟨ev, h1, h2⟩ := hd.rng
    refine (Tryz.strconv_ParseInt_10_at64_range _ (by omega) hq ev w h1 h2).mono ?_
    rintro e w' ⟨N, rfl, -, -, hb⟩
    exact ⟨_, _, rfl, hb, N, rfl⟩
  | _ =>
    obtain ⟨ev, h1, h2⟩ := hd.syn
    refine (Tryz.strconv_ParseInt_10_at64_syntax _ (by omega) hq ev w h1 h2).mono ?_
    rintro e w' ⟨N, rfl, -, -, hb⟩
    exact ⟨_, _, rfl, hb, N, rfl⟩

def isInt (n : Int) (v : Value) (_ : World) : Prop := v = .int .i64 n

set_option maxRecDepth 100000 in
set_option maxHeartbeats 4000000 in
theorem intg_any {w : World} {g i b : Nat} {s : ByteArray} (c : Nat) (h : Prs w g s i b) (h1 : 0 < i) (hc : c < 256) (hD : Doors w) (h8 : 7 < g) :
    Calls Tryz.prog 51 #[.pointer (some ⟨g, 0, none⟩), .int .u8 (c : Int)] w (Ends g s isInt (M.int s c i b) w) := by
  obtain ⟨r, hr⟩ : ∃ r, r = M.int s c i b := ⟨_, rfl⟩
  rw [← hr]
  have HR := Lib.hid hr
  clear hr
  obtain ⟨c0, c1, c2, f1, f2⟩ := h.cells
  have hle := h.le
  have hfit := h.fit
  obtain ⟨k, hk⟩ : ∃ k, k = i - 1 := ⟨_, rfl⟩
  have hki : (i : Int) - 1 = (k : Int) := by omega
  have hkl : k < i := by omega
  have HK := Lib.hid hk
  have HP0 := Lib.hid h
  have HD := Lib.hid hD
  have HR2 : Hid (r = (M.lead s c i b).then fun d j b => M.tail s k d j b) := Lib.hid (by rw [HR.out, hk]; rfl)
  clear hk h hD HR
  go_enter Tryz.func51, Tryz.ntmps51
  by_cases h45 : c = 45
  · subst h45
    go_wp2_with fail
    refine (take_any HP0.out).mono ?_
    rintro e w1 ⟨hg1, hm⟩
    obtain ⟨q, hq⟩ : ∃ q, q = M.take s i b := ⟨_, rfl⟩
    rw [← hq] at hm
    have HR3 : Hid (r = (q.then fun d j b => if d = 48 ∨ M.digit d = false then .no (j - 1) 3 else .ok d j b).then fun d j b => M.tail s k d j b) := Lib.hid (by rw [HR2.out, hq]; rfl)
    rcases q with ⟨d, j, b'⟩ | ⟨kk, er⟩
    rotate_left
    · subst hm
      exact ⟨rfl, Ends.fault hg1 (by rw [HR3.out]; rfl)⟩
    obtain ⟨v, rfl, hP, rfl⟩ := hm
    obtain ⟨q1, q2, q3, q4⟩ := M.take_inv hq
    have hd : d < 256 := by rw [q2]; exact M.ch_lt s _
    have hj0 : 0 < j := by omega
    have hkj : k < j := by omega
    have HP := Lib.hid hP; have HG := Lib.hid hg1
    clear hP hg1 hq q1 q2 q3 q4 c0 c1 c2 f1 f2
    by_cases h48 : d = 48
    · subst h48
      go_wp2_with fail
      refine (reject_any HP.out hj0).mono ?_
      rintro e w2 ⟨rfl, rfl⟩
      exact ⟨rfl, Ends.fault HG.out (by rw [HR3.out]; rfl)⟩
    · have e48 : ((d : Int) == 48) = false := by rw [beq_eq_false_iff_ne]; omega
      cases hdg : M.digit d with
      | false =>
        have HDG := Lib.hid hdg
        clear hdg h48
        go_wp2_with fail
        refine (digit_any d w1).mono ?_
        rintro e w2 ⟨rfl, rfl⟩
        rw [HDG.out]
        go_wp2_with fail
        refine (reject_any HP.out hj0).mono ?_
        rintro e w2 ⟨rfl, rfl⟩
        exact ⟨rfl, Ends.fault HG.out (by rw [HR3.out, Res.then_ok, if_pos (Or.inr HDG.out)]; rfl)⟩
      | true =>
        have HDG := Lib.hid hdg
        have HT : Hid (r = M.tail s k d j b') := Lib.hid (by rw [HR3.out, Res.then_ok, if_neg (by rintro (h | h); exact h48 h; rw [hdg] at h; cases h)]; rfl)
        have HN48 : Hid (¬ d = 48) := Lib.hid h48
        clear hdg h48 HR3 HR2
        go_wp2_with fail
        refine (digit_any d w1).mono ?_
        rintro e w2 ⟨rfl, rfl⟩
        rw [HDG.out]
        go_wp2_with fail
        go_loopw [] (fun wr => ∃ m : Nat, Hid (Prs wr g s m b') ∧ Hid (w.grownBy wr (some g)) ∧ Hid (M.digs s m = M.digs s j) ∧ j ≤ m) (fun wr => s.size - atOf wr g)
        case atStart => exact ⟨j, HP, HG, Lib.hid rfl, Nat.le_refl _⟩
        case round =>
          clear HP HG
          obtain ⟨m, HPm, HGm, HS, hjm⟩ := hrel
          obtain ⟨c0, c1, c2, f1, f2⟩ := HPm.out.cells
          have hl := HPm.out.le
          have HAT := Lib.hid (atOf_eq HPm.out)
          by_cases hlt : m < s.size
          · have hch := M.ch_at hlt
            have i0 : (0 : Int) ≤ (m : Int) := by omega
            have i1 : (m : Int) < (s.size : Int) := by omega
            cases hb : M.digit (M.ch s m) with
            | true =>
              have HB := Lib.hid hb
              have HS2 := Lib.hid (M.digs_yes hlt hb)
              clear hb
              go_wp2_with fail
              go_quiet (first | (go_at_call 83; refine Calls.quiet_of_same ((digit_any _ _).mono fun _ _ h => ⟨by rw [h.1, HB.out], h.2⟩)))
              go_wp2_with fail
              have hP1 : Prs ((wr.drewN nq).setCell ⟨g, 1, none⟩ (.int .i64 ((m : Int) + 1))) g s (m + 1) b' := (HPm.out.drewN nq).step (j := m + 1) hlt
              have hg1 : w.grownBy ((wr.drewN nq).setCell ⟨g, 1, none⟩ (.int .i64 ((m : Int) + 1))) (some g) := (HGm.out.trans (grown_drewN wr nq (some g))).trans (grown_set _ _ _ _)
              exact ⟨⟨m + 1, Lib.hid hP1, Lib.hid hg1, Lib.hid (by rw [← HS2.out]; exact HS.out), by omega⟩, by rw [atOf_eq hP1, HAT.out]; omega⟩
            | false =>
              have HB := Lib.hid hb
              have HS3 : Hid (M.digs s j = m) := Lib.hid (by rw [← HS.out]; exact M.digs_no hb)
              clear hb
              go_wp2_with fail
              go_quiet (first | (go_at_call 83; refine Calls.quiet_of_same ((digit_any _ _).mono fun _ _ h => ⟨by rw [h.1, HB.out], h.2⟩)))
              go_wp2_with fail
              have HPd : Hid (Prs (wr.drewN nq) g s m b') := Lib.hid (HPm.out.drewN nq)
              have HGd : Hid (w.grownBy (wr.drewN nq) (some g)) := Lib.hid (HGm.out.trans (grown_drewN wr nq (some g)))
              have HT2 : Hid (r = match M.num s k m with | some v => .ok v m b' | none => .no k 14) := Lib.hid (by rw [HT.out]; unfold M.tail; rw [if_neg (fun h => HN48.out h.1), HS3.out])
              obtain ⟨c0d, c1d, -, -, -⟩ := HPd.out.cells
              clear c0 c1 c2 f1 f2 HPm HGm HT HS3
              generalize wr.drewN nq = W at *
              have s1 : (0 : Int) ≤ (m : Int) ∧ (m : Int) ≤ (s.size : Int) := by omega
              have s2 : (0 : Int) ≤ (k : Int) ∧ (k : Int) ≤ (m : Int) := by omega
              have s3 : (0 : Int) ≤ (k : Int) := s2.1
              have s4 : (k : Int) ≤ (m : Int) := s2.2
              have s5 : (0 : Int) ≤ (m : Int) := s1.1
              have s6 : (m : Int) ≤ (s.size : Int) := s1.2
              have HCD : Hid (W.cell? ⟨g, 0, none⟩ = some (.string s) ∧ W.cell? ⟨g, 1, none⟩ = some (.int .i64 (m : Int))) := Lib.hid ⟨c0d, c1d⟩
              go_region_held3 (fun X => X.cell? ⟨g, 0, none⟩ = some (.string s) ∧ X.cell? ⟨g, 1, none⟩ = some (.int .i64 (m : Int)))
                (first | exact HCD.out | exact HCC.out)
                ((go_at_call 84
                  refine (num_any s k m W.drew (by rw [ByteArray.size_extract]; omega) (HD.out.grown (HGd.out.trans (grown_drewN W 1 _)) h8)).mono ?_
                  rintro e w5 ⟨n, er, rfl, hb5, hno⟩
                  have hgb : W.grownBy w5 (some g) := (grown_drewN W 1 (some g)).trans (Below.only hb5)
                  have HG5 : Hid (w.grownBy w5 (some g)) := Lib.hid (HGd.out.trans hgb)
                  have HP5 : Hid (Prs w5 g s m b') := Lib.hid (HPd.out.kept (hb5.block g HPd.out.lt))
                  have HCC : Hid (w5.cell? ⟨g, 0, none⟩ = some (.string s) ∧ w5.cell? ⟨g, 1, none⟩ = some (.int .i64 (m : Int))) := Lib.hid ⟨HP5.out.cells.1, HP5.out.cells.2.1⟩
                  have HNO := Lib.hid hno
                  clear hb5 hgb hno))
              all_goals have hno := HNO.out
              all_goals clear HNO
              obtain ⟨o, ho⟩ : ∃ o, o = M.num s k m := ⟨_, rfl⟩
              rw [← ho] at hno HT2
              clear ho
              cases o with
              | some v =>
                obtain ⟨rfl, rfl⟩ := hno
                go_wp2_with fail
                go_ret
                exact Ends.good HG5.out HP5.out rfl HT2.out
              | none =>
                obtain ⟨N, rfl⟩ := hno
                go_wp2_with fail
                refine (fail_any _ _ _).mono ?_
                rintro e w6 ⟨rfl, rfl⟩
                exact ⟨rfl, Ends.fault HG5.out HT2.out⟩
          · have he : decide ((m : Int) < (s.size : Int)) = false := by simp; omega
            have HS3 : Hid (M.digs s j = m) := Lib.hid (by rw [← HS.out]; exact M.digs_end (s := s) (i := m) (by omega))
            go_wp2_with fail
            go_quiet (fail)
            go_wp2_with fail
            have HPd : Hid (Prs (wr.drewN nq) g s m b') := Lib.hid (HPm.out.drewN nq)
            have HGd : Hid (w.grownBy (wr.drewN nq) (some g)) := Lib.hid (HGm.out.trans (grown_drewN wr nq (some g)))
            have HT2 : Hid (r = match M.num s k m with | some v => .ok v m b' | none => .no k 14) := Lib.hid (by rw [HT.out]; unfold M.tail; rw [if_neg (fun h => HN48.out h.1), HS3.out])
            obtain ⟨c0d, c1d, -, -, -⟩ := HPd.out.cells
            clear c0 c1 c2 f1 f2 HPm HGm HT HS3
            generalize wr.drewN nq = W at *
            have s1 : (0 : Int) ≤ (m : Int) ∧ (m : Int) ≤ (s.size : Int) := by omega
            have s2 : (0 : Int) ≤ (k : Int) ∧ (k : Int) ≤ (m : Int) := by omega
            have s3 : (0 : Int) ≤ (k : Int) := s2.1
            have s4 : (k : Int) ≤ (m : Int) := s2.2
            have s5 : (0 : Int) ≤ (m : Int) := s1.1
            have s6 : (m : Int) ≤ (s.size : Int) := s1.2
            have HCD : Hid (W.cell? ⟨g, 0, none⟩ = some (.string s) ∧ W.cell? ⟨g, 1, none⟩ = some (.int .i64 (m : Int))) := Lib.hid ⟨c0d, c1d⟩
            go_region_held3 (fun X => X.cell? ⟨g, 0, none⟩ = some (.string s) ∧ X.cell? ⟨g, 1, none⟩ = some (.int .i64 (m : Int)))
              (first | exact HCD.out | exact HCC.out)
              ((go_at_call 84
                refine (num_any s k m W.drew (by rw [ByteArray.size_extract]; omega) (HD.out.grown (HGd.out.trans (grown_drewN W 1 _)) h8)).mono ?_
                rintro e w5 ⟨n, er, rfl, hb5, hno⟩
                have hgb : W.grownBy w5 (some g) := (grown_drewN W 1 (some g)).trans (Below.only hb5)
                have HG5 : Hid (w.grownBy w5 (some g)) := Lib.hid (HGd.out.trans hgb)
                have HP5 : Hid (Prs w5 g s m b') := Lib.hid (HPd.out.kept (hb5.block g HPd.out.lt))
                have HCC : Hid (w5.cell? ⟨g, 0, none⟩ = some (.string s) ∧ w5.cell? ⟨g, 1, none⟩ = some (.int .i64 (m : Int))) := Lib.hid ⟨HP5.out.cells.1, HP5.out.cells.2.1⟩
                have HNO := Lib.hid hno
                clear hb5 hgb hno))
            all_goals have hno := HNO.out
            all_goals clear HNO
            obtain ⟨o, ho⟩ : ∃ o, o = M.num s k m := ⟨_, rfl⟩
            rw [← ho] at hno HT2
            clear ho
            cases o with
            | some v =>
              obtain ⟨rfl, rfl⟩ := hno
              go_wp2_with fail
              go_ret
              exact Ends.good HG5.out HP5.out rfl HT2.out
            | none =>
              obtain ⟨N, rfl⟩ := hno
              go_wp2_with fail
              refine (fail_any _ _ _).mono ?_
              rintro e w6 ⟨rfl, rfl⟩
              exact ⟨rfl, Ends.fault HG5.out HT2.out⟩
  · have e45 : ((c : Int) == 45) = false := by rw [beq_eq_false_iff_ne]; omega
    have HT : Hid (r = M.tail s k c i b) := Lib.hid (by rw [HR2.out]; unfold M.lead; rw [if_neg h45]; rfl)
    clear h45 HR2
    have HG0 := Lib.hid (grown_refl w (some g))
    by_cases h48 : c = 48
    · subst h48
      go_wp2_with fail
      clear c0 c1 c2 f1 f2
      go_loopw [] (fun wr => ∃ m : Nat, Hid (Prs wr g s m b) ∧ Hid (w.grownBy wr (some g)) ∧ Hid (M.digs s m = M.digs s i) ∧ Hid (m = i) ∧ i ≤ m) (fun wr => s.size - atOf wr g)
      case atStart => exact ⟨i, HP0, HG0, Lib.hid rfl, Lib.hid rfl, Nat.le_refl _⟩
      case round =>
        clear HP0 HG0
        obtain ⟨m, HPm, HGm, HS, HZ, hjm⟩ := hrel
        obtain ⟨c0, c1, c2, f1, f2⟩ := HPm.out.cells
        have hl := HPm.out.le
        have HAT := Lib.hid (atOf_eq HPm.out)
        by_cases hlt : m < s.size
        · have hch := M.ch_at hlt
          have i0 : (0 : Int) ≤ (m : Int) := by omega
          have i1 : (m : Int) < (s.size : Int) := by omega
          cases hb : M.digit (M.ch s m) with
          | true =>
            have HB := Lib.hid hb
            have HS2 := Lib.hid (M.digs_yes hlt hb)
            clear hb
            go_wp2_with fail
            go_quiet (first | (go_at_call 83; refine Calls.quiet_of_same ((digit_any _ _).mono fun _ _ h => ⟨by rw [h.1, HB.out], h.2⟩)))
            go_wp2_with fail
            have hP1 : Prs ((wr.drewN nq).setCell ⟨g, 1, none⟩ (.int .i64 ((m : Int) + 1))) g s (m + 1) b := (HPm.out.drewN nq).step (j := m + 1) hlt
            have hg1 : w.grownBy ((wr.drewN nq).setCell ⟨g, 1, none⟩ (.int .i64 ((m : Int) + 1))) (some g) := (HGm.out.trans (grown_drewN wr nq (some g))).trans (grown_set _ _ _ _)
            refine (reject_any hP1 (by omega)).mono ?_
            rintro e w7 ⟨rfl, rfl⟩
            exact ⟨rfl, Ends.fault hg1 (by rw [HT.out]; unfold M.tail; rw [if_pos ⟨rfl, by rw [← HZ.out]; exact hlt, by rw [← HZ.out]; exact HB.out⟩, HZ.out]; rfl)⟩
          | false =>
            have HB := Lib.hid hb
            have HS3 : Hid (M.digs s i = m) := Lib.hid (by rw [← HS.out]; exact M.digs_no hb)
            clear hb
            go_wp2_with fail
            go_quiet (first | (go_at_call 83; refine Calls.quiet_of_same ((digit_any _ _).mono fun _ _ h => ⟨by rw [h.1, HB.out], h.2⟩)))
            go_wp2_with fail
            have HPd : Hid (Prs (wr.drewN nq) g s m b) := Lib.hid (HPm.out.drewN nq)
            have HGd : Hid (w.grownBy (wr.drewN nq) (some g)) := Lib.hid (HGm.out.trans (grown_drewN wr nq (some g)))
            have HT2 : Hid (r = match M.num s k m with | some v => .ok v m b | none => .no k 14) := Lib.hid (by rw [HT.out]; unfold M.tail; rw [if_neg (by rintro ⟨_, _, h⟩; rw [← HZ.out, HB.out] at h; cases h), HS3.out])
            obtain ⟨c0d, c1d, -, -, -⟩ := HPd.out.cells
            clear c0 c1 c2 f1 f2 HPm HGm HT HS3
            generalize wr.drewN nq = W at *
            have s1 : (0 : Int) ≤ (m : Int) ∧ (m : Int) ≤ (s.size : Int) := by omega
            have s2 : (0 : Int) ≤ (k : Int) ∧ (k : Int) ≤ (m : Int) := by omega
            have s3 : (0 : Int) ≤ (k : Int) := s2.1
            have s4 : (k : Int) ≤ (m : Int) := s2.2
            have s5 : (0 : Int) ≤ (m : Int) := s1.1
            have s6 : (m : Int) ≤ (s.size : Int) := s1.2
            have HCD : Hid (W.cell? ⟨g, 0, none⟩ = some (.string s) ∧ W.cell? ⟨g, 1, none⟩ = some (.int .i64 (m : Int))) := Lib.hid ⟨c0d, c1d⟩
            go_region_held3 (fun X => X.cell? ⟨g, 0, none⟩ = some (.string s) ∧ X.cell? ⟨g, 1, none⟩ = some (.int .i64 (m : Int)))
              (first | exact HCD.out | exact HCC.out)
              ((go_at_call 84
                refine (num_any s k m W.drew (by rw [ByteArray.size_extract]; omega) (HD.out.grown (HGd.out.trans (grown_drewN W 1 _)) h8)).mono ?_
                rintro e w5 ⟨n, er, rfl, hb5, hno⟩
                have hgb : W.grownBy w5 (some g) := (grown_drewN W 1 (some g)).trans (Below.only hb5)
                have HG5 : Hid (w.grownBy w5 (some g)) := Lib.hid (HGd.out.trans hgb)
                have HP5 : Hid (Prs w5 g s m b) := Lib.hid (HPd.out.kept (hb5.block g HPd.out.lt))
                have HCC : Hid (w5.cell? ⟨g, 0, none⟩ = some (.string s) ∧ w5.cell? ⟨g, 1, none⟩ = some (.int .i64 (m : Int))) := Lib.hid ⟨HP5.out.cells.1, HP5.out.cells.2.1⟩
                have HNO := Lib.hid hno
                clear hb5 hgb hno))
            all_goals have hno := HNO.out
            all_goals clear HNO
            obtain ⟨o, ho⟩ : ∃ o, o = M.num s k m := ⟨_, rfl⟩
            rw [← ho] at hno HT2
            clear ho
            cases o with
            | some v =>
              obtain ⟨rfl, rfl⟩ := hno
              go_wp2_with fail
              go_ret
              exact Ends.good HG5.out HP5.out rfl HT2.out
            | none =>
              obtain ⟨N, rfl⟩ := hno
              go_wp2_with fail
              refine (fail_any _ _ _).mono ?_
              rintro e w6 ⟨rfl, rfl⟩
              exact ⟨rfl, Ends.fault HG5.out HT2.out⟩
        · have he : decide ((m : Int) < (s.size : Int)) = false := by simp; omega
          have HS3 : Hid (M.digs s i = m) := Lib.hid (by rw [← HS.out]; exact M.digs_end (s := s) (i := m) (by omega))
          go_wp2_with fail
          go_quiet (fail)
          go_wp2_with fail
          have HPd : Hid (Prs (wr.drewN nq) g s m b) := Lib.hid (HPm.out.drewN nq)
          have HGd : Hid (w.grownBy (wr.drewN nq) (some g)) := Lib.hid (HGm.out.trans (grown_drewN wr nq (some g)))
          have HT2 : Hid (r = match M.num s k m with | some v => .ok v m b | none => .no k 14) := Lib.hid (by rw [HT.out]; unfold M.tail; rw [if_neg (by rintro ⟨_, h, _⟩; rw [← HZ.out] at h; omega), HS3.out])
          obtain ⟨c0d, c1d, -, -, -⟩ := HPd.out.cells
          clear c0 c1 c2 f1 f2 HPm HGm HT HS3
          generalize wr.drewN nq = W at *
          have s1 : (0 : Int) ≤ (m : Int) ∧ (m : Int) ≤ (s.size : Int) := by omega
          have s2 : (0 : Int) ≤ (k : Int) ∧ (k : Int) ≤ (m : Int) := by omega
          have s3 : (0 : Int) ≤ (k : Int) := s2.1
          have s4 : (k : Int) ≤ (m : Int) := s2.2
          have s5 : (0 : Int) ≤ (m : Int) := s1.1
          have s6 : (m : Int) ≤ (s.size : Int) := s1.2
          have HCD : Hid (W.cell? ⟨g, 0, none⟩ = some (.string s) ∧ W.cell? ⟨g, 1, none⟩ = some (.int .i64 (m : Int))) := Lib.hid ⟨c0d, c1d⟩
          go_region_held3 (fun X => X.cell? ⟨g, 0, none⟩ = some (.string s) ∧ X.cell? ⟨g, 1, none⟩ = some (.int .i64 (m : Int)))
            (first | exact HCD.out | exact HCC.out)
            ((go_at_call 84
              refine (num_any s k m W.drew (by rw [ByteArray.size_extract]; omega) (HD.out.grown (HGd.out.trans (grown_drewN W 1 _)) h8)).mono ?_
              rintro e w5 ⟨n, er, rfl, hb5, hno⟩
              have hgb : W.grownBy w5 (some g) := (grown_drewN W 1 (some g)).trans (Below.only hb5)
              have HG5 : Hid (w.grownBy w5 (some g)) := Lib.hid (HGd.out.trans hgb)
              have HP5 : Hid (Prs w5 g s m b) := Lib.hid (HPd.out.kept (hb5.block g HPd.out.lt))
              have HCC : Hid (w5.cell? ⟨g, 0, none⟩ = some (.string s) ∧ w5.cell? ⟨g, 1, none⟩ = some (.int .i64 (m : Int))) := Lib.hid ⟨HP5.out.cells.1, HP5.out.cells.2.1⟩
              have HNO := Lib.hid hno
              clear hb5 hgb hno))
          all_goals have hno := HNO.out
          all_goals clear HNO
          obtain ⟨o, ho⟩ : ∃ o, o = M.num s k m := ⟨_, rfl⟩
          rw [← ho] at hno HT2
          clear ho
          cases o with
          | some v =>
            obtain ⟨rfl, rfl⟩ := hno
            go_wp2_with fail
            go_ret
            exact Ends.good HG5.out HP5.out rfl HT2.out
          | none =>
            obtain ⟨N, rfl⟩ := hno
            go_wp2_with fail
            refine (fail_any _ _ _).mono ?_
            rintro e w6 ⟨rfl, rfl⟩
            exact ⟨rfl, Ends.fault HG5.out HT2.out⟩
    · have e48 : ((c : Int) == 48) = false := by rw [beq_eq_false_iff_ne]; omega
      have HN48 : Hid (¬ c = 48) := Lib.hid h48
      clear h48
      go_wp2_with fail
      clear c0 c1 c2 f1 f2
      go_loopw [] (fun wr => ∃ m : Nat, Hid (Prs wr g s m b) ∧ Hid (w.grownBy wr (some g)) ∧ Hid (M.digs s m = M.digs s i) ∧ i ≤ m) (fun wr => s.size - atOf wr g)
      case atStart => exact ⟨i, HP0, HG0, Lib.hid rfl, Nat.le_refl _⟩
      case round =>
        clear HP0 HG0
        obtain ⟨m, HPm, HGm, HS, hjm⟩ := hrel
        obtain ⟨c0, c1, c2, f1, f2⟩ := HPm.out.cells
        have hl := HPm.out.le
        have HAT := Lib.hid (atOf_eq HPm.out)
        by_cases hlt : m < s.size
        · have hch := M.ch_at hlt
          have i0 : (0 : Int) ≤ (m : Int) := by omega
          have i1 : (m : Int) < (s.size : Int) := by omega
          cases hb : M.digit (M.ch s m) with
          | true =>
            have HB := Lib.hid hb
            have HS2 := Lib.hid (M.digs_yes hlt hb)
            clear hb
            go_wp2_with fail
            go_quiet (first | (go_at_call 83; refine Calls.quiet_of_same ((digit_any _ _).mono fun _ _ h => ⟨by rw [h.1, HB.out], h.2⟩)))
            go_wp2_with fail
            have hP1 : Prs ((wr.drewN nq).setCell ⟨g, 1, none⟩ (.int .i64 ((m : Int) + 1))) g s (m + 1) b := (HPm.out.drewN nq).step (j := m + 1) hlt
            have hg1 : w.grownBy ((wr.drewN nq).setCell ⟨g, 1, none⟩ (.int .i64 ((m : Int) + 1))) (some g) := (HGm.out.trans (grown_drewN wr nq (some g))).trans (grown_set _ _ _ _)
            exact ⟨⟨m + 1, Lib.hid hP1, Lib.hid hg1, Lib.hid (by rw [← HS2.out]; exact HS.out), by omega⟩, by rw [atOf_eq hP1, HAT.out]; omega⟩
          | false =>
            have HB := Lib.hid hb
            have HS3 : Hid (M.digs s i = m) := Lib.hid (by rw [← HS.out]; exact M.digs_no hb)
            clear hb
            go_wp2_with fail
            go_quiet (first | (go_at_call 83; refine Calls.quiet_of_same ((digit_any _ _).mono fun _ _ h => ⟨by rw [h.1, HB.out], h.2⟩)))
            go_wp2_with fail
            have HPd : Hid (Prs (wr.drewN nq) g s m b) := Lib.hid (HPm.out.drewN nq)
            have HGd : Hid (w.grownBy (wr.drewN nq) (some g)) := Lib.hid (HGm.out.trans (grown_drewN wr nq (some g)))
            have HT2 : Hid (r = match M.num s k m with | some v => .ok v m b | none => .no k 14) := Lib.hid (by rw [HT.out]; unfold M.tail; rw [if_neg (fun h => HN48.out h.1), HS3.out])
            obtain ⟨c0d, c1d, -, -, -⟩ := HPd.out.cells
            clear c0 c1 c2 f1 f2 HPm HGm HT HS3
            generalize wr.drewN nq = W at *
            have s1 : (0 : Int) ≤ (m : Int) ∧ (m : Int) ≤ (s.size : Int) := by omega
            have s2 : (0 : Int) ≤ (k : Int) ∧ (k : Int) ≤ (m : Int) := by omega
            have s3 : (0 : Int) ≤ (k : Int) := s2.1
            have s4 : (k : Int) ≤ (m : Int) := s2.2
            have s5 : (0 : Int) ≤ (m : Int) := s1.1
            have s6 : (m : Int) ≤ (s.size : Int) := s1.2
            have HCD : Hid (W.cell? ⟨g, 0, none⟩ = some (.string s) ∧ W.cell? ⟨g, 1, none⟩ = some (.int .i64 (m : Int))) := Lib.hid ⟨c0d, c1d⟩
            go_region_held3 (fun X => X.cell? ⟨g, 0, none⟩ = some (.string s) ∧ X.cell? ⟨g, 1, none⟩ = some (.int .i64 (m : Int)))
              (first | exact HCD.out | exact HCC.out)
              ((go_at_call 84
                refine (num_any s k m W.drew (by rw [ByteArray.size_extract]; omega) (HD.out.grown (HGd.out.trans (grown_drewN W 1 _)) h8)).mono ?_
                rintro e w5 ⟨n, er, rfl, hb5, hno⟩
                have hgb : W.grownBy w5 (some g) := (grown_drewN W 1 (some g)).trans (Below.only hb5)
                have HG5 : Hid (w.grownBy w5 (some g)) := Lib.hid (HGd.out.trans hgb)
                have HP5 : Hid (Prs w5 g s m b) := Lib.hid (HPd.out.kept (hb5.block g HPd.out.lt))
                have HCC : Hid (w5.cell? ⟨g, 0, none⟩ = some (.string s) ∧ w5.cell? ⟨g, 1, none⟩ = some (.int .i64 (m : Int))) := Lib.hid ⟨HP5.out.cells.1, HP5.out.cells.2.1⟩
                have HNO := Lib.hid hno
                clear hb5 hgb hno))
            all_goals have hno := HNO.out
            all_goals clear HNO
            obtain ⟨o, ho⟩ : ∃ o, o = M.num s k m := ⟨_, rfl⟩
            rw [← ho] at hno HT2
            clear ho
            cases o with
            | some v =>
              obtain ⟨rfl, rfl⟩ := hno
              go_wp2_with fail
              go_ret
              exact Ends.good HG5.out HP5.out rfl HT2.out
            | none =>
              obtain ⟨N, rfl⟩ := hno
              go_wp2_with fail
              refine (fail_any _ _ _).mono ?_
              rintro e w6 ⟨rfl, rfl⟩
              exact ⟨rfl, Ends.fault HG5.out HT2.out⟩
        · have he : decide ((m : Int) < (s.size : Int)) = false := by simp; omega
          have HS3 : Hid (M.digs s i = m) := Lib.hid (by rw [← HS.out]; exact M.digs_end (s := s) (i := m) (by omega))
          go_wp2_with fail
          go_quiet (fail)
          go_wp2_with fail
          have HPd : Hid (Prs (wr.drewN nq) g s m b) := Lib.hid (HPm.out.drewN nq)
          have HGd : Hid (w.grownBy (wr.drewN nq) (some g)) := Lib.hid (HGm.out.trans (grown_drewN wr nq (some g)))
          have HT2 : Hid (r = match M.num s k m with | some v => .ok v m b | none => .no k 14) := Lib.hid (by rw [HT.out]; unfold M.tail; rw [if_neg (fun h => HN48.out h.1), HS3.out])
          obtain ⟨c0d, c1d, -, -, -⟩ := HPd.out.cells
          clear c0 c1 c2 f1 f2 HPm HGm HT HS3
          generalize wr.drewN nq = W at *
          have s1 : (0 : Int) ≤ (m : Int) ∧ (m : Int) ≤ (s.size : Int) := by omega
          have s2 : (0 : Int) ≤ (k : Int) ∧ (k : Int) ≤ (m : Int) := by omega
          have s3 : (0 : Int) ≤ (k : Int) := s2.1
          have s4 : (k : Int) ≤ (m : Int) := s2.2
          have s5 : (0 : Int) ≤ (m : Int) := s1.1
          have s6 : (m : Int) ≤ (s.size : Int) := s1.2
          have HCD : Hid (W.cell? ⟨g, 0, none⟩ = some (.string s) ∧ W.cell? ⟨g, 1, none⟩ = some (.int .i64 (m : Int))) := Lib.hid ⟨c0d, c1d⟩
          go_region_held3 (fun X => X.cell? ⟨g, 0, none⟩ = some (.string s) ∧ X.cell? ⟨g, 1, none⟩ = some (.int .i64 (m : Int)))
            (first | exact HCD.out | exact HCC.out)
            ((go_at_call 84
              refine (num_any s k m W.drew (by rw [ByteArray.size_extract]; omega) (HD.out.grown (HGd.out.trans (grown_drewN W 1 _)) h8)).mono ?_
              rintro e w5 ⟨n, er, rfl, hb5, hno⟩
              have hgb : W.grownBy w5 (some g) := (grown_drewN W 1 (some g)).trans (Below.only hb5)
              have HG5 : Hid (w.grownBy w5 (some g)) := Lib.hid (HGd.out.trans hgb)
              have HP5 : Hid (Prs w5 g s m b) := Lib.hid (HPd.out.kept (hb5.block g HPd.out.lt))
              have HCC : Hid (w5.cell? ⟨g, 0, none⟩ = some (.string s) ∧ w5.cell? ⟨g, 1, none⟩ = some (.int .i64 (m : Int))) := Lib.hid ⟨HP5.out.cells.1, HP5.out.cells.2.1⟩
              have HNO := Lib.hid hno
              clear hb5 hgb hno))
          all_goals have hno := HNO.out
          all_goals clear HNO
          obtain ⟨o, ho⟩ : ∃ o, o = M.num s k m := ⟨_, rfl⟩
          rw [← ho] at hno HT2
          clear ho
          cases o with
          | some v =>
            obtain ⟨rfl, rfl⟩ := hno
            go_wp2_with fail
            go_ret
            exact Ends.good HG5.out HP5.out rfl HT2.out
          | none =>
            obtain ⟨N, rfl⟩ := hno
            go_wp2_with fail
            refine (fail_any _ _ _).mono ?_
            rintro e w6 ⟨rfl, rfl⟩
            exact ⟨rfl, Ends.fault HG5.out HT2.out⟩
end Go.Proofs.YtdkggnciamfcmaaGreatDoor
