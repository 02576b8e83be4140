/-
  Layer 6: identifiers of runs and their numbers, the code's and the reference's.
-/
import Derived.Test.YthmdacpejhncgaaDoorQCodA
import Derived.Test.YthmdacpejhncgaaDoorRDec
import Derived.Test.YthmdacpejhncgaaDoorLibP
import Derived.Lib.AppendIntMem
import Derived.Lib.AtoiAllCases
import Derived.Lib.AtoiErrMem
namespace Go.Proofs.YthmdacpejhncgaaDoor
open Go.RowKit
set_option linter.unusedVariables false

/-- What the library's variables hold: its two errors, its table of powers of ten. -/
structure Gates (w : World) : Prop where
  syn : ∃ ev, w.cell? ⟨0, 0, none⟩ = some ev ∧ (ev = .nilIface ∨ ∃ te pe, ev = .iface te pe)
  rng : ∃ ev, w.cell? ⟨1, 0, none⟩ = some ev ∧ (ev = .nilIface ∨ ∃ te pe, ev = .iface te pe)
  tab : Lib.TabIs Tryd.prog w "internal/strconv.uint64pow10" .u64 Lib.pow10Tab
theorem Gates.below {w w' : World} (h : Gates w) (hb : Below w.heap.size w w') : Gates w' := by
  obtain ⟨⟨e1, a1, b1⟩, ⟨e2, a2, b2⟩, ht⟩ := h
  refine ⟨⟨e1, ?_, b1⟩, ⟨e2, ?_, b2⟩, Lib.tabBelow_of_tabIs ht w' hb⟩
  · have hl := Lib.lt_of_cell a1
    rw [← a1]; unfold World.cell?; rw [hb.block _ hl]
  · have hl := Lib.lt_of_cell a2
    rw [← a2]; unfold World.cell?; rw [hb.block _ hl]
theorem grow_bel (w : World) (k : Nat) (os : Array Obj) : Below w.heap.size w (Sort.grow (w.drewN k) os) :=
  ⟨rfl, rfl, rfl, by rw [Sort.size_grow]; exact Nat.le_add_right _ _, fun j hj => Sort.heap_grow_old _ os hj⟩

/-- Bytes as a string. -/
def bS (l : List UInt8) : ByteArray := ⟨l.toArray⟩
theorem u8_at (s : ByteArray) (k : Nat) (h : k < s.size) : s[k].toNat < 256 := s[k].toNat_lt
theorem bS_data (l : List UInt8) : (bS l).data.toList = l := rfl
theorem bS_size (l : List UInt8) : (bS l).size = l.length := by unfold bS; simp [ByteArray.size]
theorem bS_of (s : ByteArray) : bS s.data.toList = s := rfl
theorem bS_inj {s t : ByteArray} (h : s.data.toList = t.data.toList) : s = t := by
  rw [← bS_of s, ← bS_of t, h]
theorem r_cons (l : List UInt8) : bS (114 :: l) = ⟨#[114]⟩ ++ bS l := by
  unfold bS; apply ByteArray.ext; simp

set_option maxRecDepth 100000 in
theorem qrun_any (n : Int) (w : World) (h0 : -9223372036854775808 ≤ n) (h1 : n ≤ 9223372036854775807) (G : Gates w) :
    Calls Tryd.prog 12 #[.int .i64 n] w fun e w' => e = .returned (.string (bS (Q.run n))) ∧ Below w.heap.size w w' := by
  by_cases hn : n < 1
  · rw [Q.run_no hn]
    go_enter Tryd.func12, Tryd.ntmps12
    go_wp2_with fail
    go_ret
    exact ⟨rfl, Below.refl _ _⟩
  · rw [Q.run_itoa hn, r_cons]
    have hz : (bS (Lib.itoa n)).size ≤ 21 := by rw [bS_size]; exact Lib.itoa_length_le n h0 h1
    have hi := Tryd.strconv_Itoa n h0 h1 w G.tab
    have hi : Calls Tryd.prog 23 #[.int .i64 n] w fun e w' => e = .returned (.string (bS (Lib.itoa n))) ∧ ∃ k os, w' = Sort.grow (w.drewN k) os := hi
    obtain ⟨E, hE⟩ : ∃ E, E = bS (Lib.itoa n) := ⟨_, rfl⟩
    rw [← hE] at hi hz ⊢
    have HI := Lib.hid hi
    clear hi hE G
    go_enter Tryd.func12, Tryd.ntmps12
    go_wp2_with fail
    refine (HI.out).mono ?_
    rintro e w1 ⟨rfl, k, os, rfl⟩
    have hb := grow_bel w k os
    have HB := Lib.hid hb
    clear hb
    generalize Sort.grow (w.drewN k) os = w1 at *
    go_wp2_with fail
    go_ret
    exact ⟨rfl, HB.out⟩

set_option maxRecDepth 100000 in
theorem rqrun_any (n : Int) (w : World) (h0 : -9223372036854775808 ≤ n) (h1 : n ≤ 9223372036854775807) :
    Calls Tryd.prog 13 #[.int .i64 n] w fun e w' => e = .returned (.string (bS (Q.run n))) ∧ Below w.heap.size w w' := by
  by_cases hn : n < 1
  · rw [Q.run_no hn]
    go_enter Tryd.func13, Tryd.ntmps13
    go_wp2_with fail
    go_ret
    exact ⟨rfl, Below.refl _ _⟩
  · rw [Q.run_itoa hn, r_cons]
    have hz : (bS (Lib.itoa n)).size ≤ 21 := by rw [bS_size]; exact Lib.itoa_length_le n h0 h1
    have hi : Calls Tryd.prog 24 #[.int .i64 n] w fun e w' => e = .returned (.string (bS (Lib.itoa n))) ∧ Below w.heap.size w w' := decimal_any n w h0 h1
    obtain ⟨E, hE⟩ : ∃ E, E = bS (Lib.itoa n) := ⟨_, rfl⟩
    rw [← hE] at hi hz ⊢
    have HI := Lib.hid hi
    clear hi hE
    go_enter Tryd.func13, Tryd.ntmps13
    go_wp2_with fail
    refine (HI.out).mono ?_
    rintro e w1 ⟨rfl, hb⟩
    go_wp2_with fail
    go_ret
    exact ⟨rfl, hb⟩

/-- What strconv.Atoi gives: a number and no error, or an error. -/
theorem qatoi_any (T : ByteArray) (w : World) (hs : T.size ≤ 1000000000) (G : Gates w) :
    Calls Tryd.prog 21 #[.string T] w fun e w' => ∃ n er, e = .returned (.tuple #[.int .i64 n, er]) ∧ Below w.heap.size w w' ∧
      ((∃ v, Lib.atoiAll T.data.toList = .ok v ∧ n = v ∧ er = .nilIface) ∨ ((∀ v, Lib.atoiAll T.data.toList ≠ .ok v) ∧ ∃ N, er = .iface 45 (.pointer (some ⟨N, 0, none⟩)))) := by
  cases hq : Lib.atoiAll T.data.toList with
  | ok v =>
    refine (Tryd.strconv_Atoi_ok T (by omega) v hq w).mono ?_
    rintro e w' ⟨rfl, hw⟩
    refine ⟨v, .nilIface, rfl, ?_, .inl ⟨v, rfl, rfl, rfl⟩⟩
    rcases hw with rfl | ⟨t, rfl⟩
    · exact Below.refl _ _
    · exact Lib.bytesWorld_below _ _ _
  | range =>
    obtain ⟨ev, h1, h2⟩ := G.rng
    refine (Tryd.strconv_Atoi_range T (by omega) hq ev w h1 h2).mono ?_
    rintro e w' ⟨N, rfl, -, -, hb⟩
    exact ⟨_, _, rfl, hb, .inr ⟨fun v h => (by cases h), ⟨N, rfl⟩⟩⟩
  | _ =>
    obtain ⟨ev, h1, h2⟩ := G.syn
    refine (Tryd.strconv_Atoi_syntax T (by omega) hq ev w h1 h2).mono ?_
    rintro e w' ⟨N, rfl, -, -, hb⟩
    exact ⟨_, _, rfl, hb, .inr ⟨fun v h => (by cases h), ⟨N, rfl⟩⟩⟩

theorem neq_str {s t : ByteArray} (h : s ≠ t) : (s.toList == t.toList) = false := by
  rw [beq_eq_false_iff_ne, ByteArray.toList_eq, ByteArray.toList_eq]
  intro e; exact h (bS_inj e)

set_option maxHeartbeats 1000000 in
set_option maxRecDepth 100000 in
theorem qnum_any (s : ByteArray) (w : World) (hs : s.size ≤ 1000000) (G : Gates w) :
    Calls Tryd.prog 10 #[.string s] w fun e w' => e = .returned (.tuple #[.int .i64 (Q.num s.data.toList).1, .bool (Q.num s.data.toList).2]) ∧ Below w.heap.size w w' := by
  obtain ⟨r, hr⟩ : ∃ r, r = Q.num s.data.toList := ⟨_, rfl⟩
  rw [← hr]
  have HR := Lib.hid hr
  obtain ⟨T, hT⟩ : ∃ T, T = bS (Q.cutR s.data.toList) := ⟨_, rfl⟩
  have hTs : T.size ≤ 1000000 := by
    rw [hT, bS_size]
    have := Q.cutR_len s.data.toList
    rw [q_len] at this; omega
  have hTd : T.data.toList = Q.cutR s.data.toList := by rw [hT]; rfl
  have ht : Calls Tryd.prog 22 #[.string s, .string ⟨#[114]⟩] w fun e w' => e = .returned (.string T) ∧ w' = w := by
    rw [hT]; exact Tryd.strings_TrimPrefix s ⟨#[114]⟩ w
  have HT := Lib.hid ht
  have HTD := Lib.hid hTd
  have HA := Lib.hid (qatoi_any T w (by omega) G)
  have HG := Lib.hid G
  clear hr hT ht hTd hTs G
  go_enter Tryd.func10, Tryd.ntmps10
  go_wp2_with fail
  refine (HT.out).mono ?_
  rintro e w1 ⟨rfl, rfl⟩
  go_wp2_with fail
  refine (HA.out).mono ?_
  rintro e w1 ⟨n, er, rfl, hb, hc⟩
  have HB := Lib.hid hb
  clear hb
  rcases hc with ⟨v, hv, rfl, rfl⟩ | ⟨hno, N, rfl⟩
  · obtain ⟨b0, b1⟩ := Lib.atoiAll_bounds hv
    have HV : Hid (Lib.atoiAll (Q.cutR s.data.toList) = .ok n) := Lib.hid (by rw [← HTD.out]; exact hv)
    clear hv
    by_cases he : bS (Q.run n) = s
    · have hr2 : r = (n, true) := by
        rw [HR.out]; unfold Q.num; rw [HV.out]; exact if_pos (by rw [← bS_data (Q.run n), he])
      subst hr2
      have HE := Lib.hid he
      clear he
      go_wp2_with fail
      refine (qrun_any n w1 b0 b1 (HG.out.below HB.out)).mono ?_
      rintro e w2 ⟨rfl, hb2⟩
      rw [HE.out]
      have HB2 := Lib.hid (HB.out.trans (hb2.mono HB.out.size))
      clear hb2
      go_wp2_with fail
      go_ret2
      exact ⟨rfl, HB2.out⟩
    · have hr2 : r = (0, false) := by
        rw [HR.out]; unfold Q.num; rw [HV.out]; exact if_neg (fun e => he (by rw [e]; rfl))
      subst hr2
      obtain ⟨E, hE⟩ : ∃ E, E = bS (Q.run n) := ⟨_, rfl⟩
      have hne := neq_str he
      rw [← hE] at hne
      have HE := Lib.hid hE
      clear he hE
      go_wp2_with fail
      refine (qrun_any n w1 b0 b1 (HG.out.below HB.out)).mono ?_
      rintro e w2 ⟨rfl, hb2⟩
      rw [← HE.out]
      have HB2 := Lib.hid (HB.out.trans (hb2.mono HB.out.size))
      clear hb2
      go_wp2_with fail
      go_ret2
      exact ⟨rfl, HB2.out⟩
  · have hr2 : r = (0, false) := by
      rw [HR.out]; unfold Q.num; rw [← HTD.out]
      cases hq : Lib.atoiAll T.data.toList with
      | ok v => exact absurd hq (hno v)
      | range => rfl
      | _ => rfl
    subst hr2
    clear hno
    go_wp2_with fail
    go_ret2
    exact ⟨rfl, HB.out⟩

/-- The loose number behind k bytes. -/
def nUpto (l : List UInt8) (k : Nat) : Int := ((l.drop 1).take (k - 1)).foldl Q.loose 0
theorem nUpto_one (l : List UInt8) : nUpto l 1 = 0 := rfl
theorem nUpto_step {l : List UInt8} {k : Nat} (h1 : 1 ≤ k) (hk : k < l.length) : nUpto l (k + 1) = Q.loose (nUpto l k) (l[k]) := by
  unfold nUpto
  have e : k + 1 - 1 = (k - 1) + 1 := by omega
  have hl : k - 1 < (l.drop 1).length := by rw [List.length_drop]; omega
  rw [e, List.take_succ_eq_append_getElem hl, List.foldl_append]
  simp only [List.foldl_cons, List.foldl_nil, List.getElem_drop]
  congr 2
  omega
theorem nUpto_all {l : List UInt8} {k : Nat} (hk : l.length ≤ k) : nUpto l k = (l.drop 1).foldl Q.loose 0 := by
  unfold nUpto; rw [List.take_of_length_le (by rw [List.length_drop]; omega)]

set_option maxHeartbeats 1000000 in
set_option maxRecDepth 100000 in
/-- What follows the loop. -/
theorem qnum_eq (l : List UInt8) : (if Q.lnum l < 1 ∨ Q.run (Q.lnum l) ≠ l then ((0 : Int), false) else (Q.lnum l, true)) = Q.num l :=
  Q.lnum_num l fun v h => (Lib.atoiAll_bounds h).2

set_option maxHeartbeats 1000000 in
set_option maxRecDepth 100000 in
theorem rqnum_any (s : ByteArray) (w : World) (hs : s.size ≤ 1000000) :
    Calls Tryd.prog 11 #[.string s] w fun e w' => e = .returned (.tuple #[.int .i64 (Q.num s.data.toList).1, .bool (Q.num s.data.toList).2]) ∧ Below w.heap.size w w' := by
  obtain ⟨r, hr⟩ : ∃ r, r = Q.num s.data.toList := ⟨_, rfl⟩
  rw [← hr]
  have HR : Hid (r = if Q.lnum s.data.toList < 1 ∨ Q.run (Q.lnum s.data.toList) ≠ s.data.toList then ((0 : Int), false) else (Q.lnum s.data.toList, true)) := Lib.hid (by rw [hr, qnum_eq])
  have HL := Lib.hid (q_len s)
  clear hr
  go_enter Tryd.func11, Tryd.ntmps11
  go_wp2_with fail
  go_loop [4, 5] (fun n i => ∃ (k : Nat) (m : Int), 1 ≤ k ∧ k ≤ 1000000 ∧ i = .int .i64 k ∧ n = .int .i64 m ∧ Hid (m = nUpto s.data.toList k) ∧ Hid (20 < s.size → k = 1)) (fun _ i => s.size - (intOf i).toNat)
  case atStart => exact ⟨1, 0, by omega, by omega, rfl, rfl, Lib.hid rfl, Lib.hid fun _ => rfl⟩
  case round =>
    obtain ⟨k, m, hk1, hk2, rfl, rfl, HM, HK⟩ := hrel
    by_cases hin : k < s.size ∧ s.size ≤ 20
    · obtain ⟨hlt, h20⟩ := hin
      have hkl : k < s.data.toList.length := by rw [HL.out]; exact hlt
      have HN := Lib.hid (nUpto_step hk1 hkl)
      have HQ := Lib.hid (q_at s k hlt)
      have hc := u8_at s k hlt
      go_wp2_with fail
      go_round
      case rel => exact ⟨k + 1, _, by omega, by omega, by go_num, rfl, Lib.hid (by rw [HN.out, ← HM.out]; rfl), Lib.hid (fun h => by omega)⟩
      case measure => simp [intOf]; omega
    · have hend : Hid (m = Q.lnum s.data.toList) := Lib.hid (by
        rw [HM.out]; unfold Q.lnum; rw [HL.out]
        by_cases h20 : s.size ≤ 20
        · rw [if_pos h20, nUpto_all (by rw [HL.out]; omega)]
        · rw [if_neg h20, HK.out (by omega)]; rfl)
      have hb := Q.lnum_le s.data.toList
      rw [← hend.out] at hb
      obtain ⟨hb0, hb1⟩ := hb
      have HR2 : Hid (r = if m < 1 ∨ Q.run m ≠ s.data.toList then ((0 : Int), false) else (m, true)) := Lib.hid (by rw [hend.out]; exact HR.out)
      have ht : (¬ (k : Int) < (s.size : Int)) ∨ ((k : Int) < (s.size : Int) ∧ ¬ (s.size : Int) ≤ 20) := by omega
      clear HR HM HK hend hin
      by_cases hm : m < 1
      · have hr2 : r = (0, false) := by rw [HR2.out, if_pos (.inl hm)]
        subst hr2
        rcases ht with t1 | ⟨t1, t2⟩
        all_goals (go_wp2_with fail; go_ret2; exact ⟨rfl, Below.refl _ _⟩)
      · by_cases he : bS (Q.run m) = s
        · have hr2 : r = (m, true) := by rw [HR2.out, if_neg]; intro h; rcases h with h | h; exact hm h; exact h (by rw [← bS_data (Q.run m), he])
          subst hr2
          have HE := Lib.hid he
          clear he
          rcases ht with t1 | ⟨t1, t2⟩
          all_goals (
            go_wp2_with fail
            refine (rqrun_any m _ hb0 hb1).mono ?_
            rintro e w2 ⟨rfl, hb2⟩
            rw [HE.out]
            go_wp2_with fail
            go_ret2
            exact ⟨rfl, hb2⟩)
        · have hr2 : r = (0, false) := by rw [HR2.out, if_pos]; exact .inr fun e => he (by rw [e]; rfl)
          subst hr2
          obtain ⟨E, hE⟩ : ∃ E, E = bS (Q.run m) := ⟨_, rfl⟩
          have hne := neq_str he
          rw [← hE] at hne
          have HE := Lib.hid hE
          clear he hE
          rcases ht with t1 | ⟨t1, t2⟩
          all_goals (
            go_wp2_with fail
            refine (rqrun_any m _ hb0 hb1).mono ?_
            rintro e w2 ⟨rfl, hb2⟩
            rw [← HE.out]
            go_wp2_with fail
            go_ret2
            exact ⟨rfl, hb2⟩)
end Go.Proofs.YthmdacpejhncgaaDoor
