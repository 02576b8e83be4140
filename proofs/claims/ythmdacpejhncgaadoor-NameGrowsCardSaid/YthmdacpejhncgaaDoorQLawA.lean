/-
  Layer 6: the examples of the chapter; the laws.
-/
import Derived.Test.YthmdacpejhncgaaDoorQCodC
namespace Go.Proofs.YthmdacpejhncgaaDoor
open Go.RowKit
set_option linter.unusedVariables false

theorem ex_run3 : bS (Q.run 3) = ⟨#[114, 51]⟩ := by
  rw [Q.run_yes (by decide), show (3 : Int).toNat = 3 from rfl, Lib.decDigits_one (by decide)]; rfl
theorem ex_run12 : Q.run 12 = [114, 49, 50] := by
  rw [Q.run_yes (by decide), show (12 : Int).toNat = 12 from rfl, Lib.decDigits_two (by decide) (by decide)]; rfl
theorem ex_num12 : Q.num (⟨#[114, 49, 50]⟩ : ByteArray).data.toList = (12, true) := by
  have h := Q.num_run (n := 12) (by decide) (by decide)
  rw [ex_run12] at h; exact h
theorem ex_split1 : isSplit ⟨#[111, 114, 100, 101, 114, 45, 55, 47, 114, 50]⟩ ⟨#[111, 114, 100, 101, 114, 45, 55]⟩ ⟨#[114, 50]⟩ true := by
  refine .inl ⟨7, ⟨rfl, fun j hj => ?_⟩, rfl, rfl, rfl⟩
  show [(111 : UInt8), 114, 100, 101, 114, 45, 55, 47, 114, 50][j]? ≠ some 47
  match j, hj with
  | 0, _ | 1, _ | 2, _ | 3, _ | 4, _ | 5, _ | 6, _ | 8, _ | 9, _ => decide
  | 7, h => exact absurd rfl h
  | n + 10, _ => simp
theorem ex_split2 : isSplit ⟨#[97, 47, 98, 47, 99]⟩ ⟨#[]⟩ ⟨#[]⟩ false := by
  refine .inr ⟨fun p hp => ?_, rfl, rfl, rfl⟩
  by_cases h : p = 1
  · exact hp.2 3 (by omega) rfl
  · exact hp.2 1 (fun e => h e.symm) rfl
theorem ex_key : keyS ⟨#[97]⟩ ⟨#[114, 49]⟩ = ⟨#[97, 47, 114, 49]⟩ := rfl

set_option maxHeartbeats 2000000 in
set_option maxRecDepth 100000 in
theorem lives_any (w : World) (G : Gates w) :
    Calls Tryd.prog 9 #[] w fun e w' => e = .returned (.bool true) ∧ Below w.heap.size w w' := by
  have r1 : Q.right (⟨#[95, 97, 49]⟩ : ByteArray).data.toList = true := by decide
  have r2 : Q.right (⟨#[49, 97]⟩ : ByteArray).data.toList = false := by decide
  have r3 : Q.right (⟨#[]⟩ : ByteArray).data.toList = false := by decide
  have R1 := Lib.hid r1; have R2 := Lib.hid r2; have R3 := Lib.hid r3
  clear r1 r2 r3
  have HG := Lib.hid G
  clear G
  go_enter Tryd.func9, Tryd.ntmps9
  go_wp2_with fail
  refine (qnum_any _ _ (by decide) HG.out).mono ?_
  rintro e w1 ⟨rfl, hb1⟩
  rw [ex_num12]
  have G1 := Lib.hid (HG.out.below hb1)
  have B1 := Lib.hid hb1
  clear hb1
  go_wp2_with fail
  refine (qsplit_any _ _ (by decide)).mono ?_
  rintro e w2 ⟨x, y, ok, rfl, hb, hs⟩
  obtain ⟨rfl, rfl, rfl⟩ := split_same ex_split1 hs
  have G2 := Lib.hid (G1.out.below hb)
  have B2 := Lib.hid (B1.out.trans (hb.mono B1.out.size))
  clear hb hs
  go_wp2_with fail
  refine (qsplit_any _ _ (by decide)).mono ?_
  rintro e w3 ⟨x, y, ok, rfl, hb, hs⟩
  obtain ⟨rfl, rfl, rfl⟩ := split_same ex_split2 hs
  have G3 := Lib.hid (G2.out.below hb)
  have B3 := Lib.hid (B2.out.trans (hb.mono B2.out.size))
  clear hb hs
  go_wp2_with fail
  refine (qright_any _ _ (by decide)).mono ?_
  rintro e w4 ⟨rfl, rfl⟩
  rw [R1.out]
  go_wp2_with fail
  refine (qright_any _ _ (by decide)).mono ?_
  rintro e w4 ⟨rfl, rfl⟩
  rw [R2.out]
  go_wp2_with fail
  refine (qright_any _ _ (by decide)).mono ?_
  rintro e w4 ⟨rfl, rfl⟩
  rw [R3.out]
  go_wp2_with fail
  refine (qrun_any 3 _ (by decide) (by decide) G3.out).mono ?_
  rintro e w5 ⟨rfl, hb⟩
  rw [ex_run3]
  have G4 := Lib.hid (G3.out.below hb)
  have B4 := Lib.hid (B3.out.trans (hb.mono B3.out.size))
  clear hb
  go_wp2_with fail
  refine (qrun_any 0 _ (by decide) (by decide) G4.out).mono ?_
  rintro e w6 ⟨rfl, hb⟩
  rw [show bS (Q.run 0) = ⟨#[]⟩ from rfl]
  have B5 := Lib.hid (B4.out.trans (hb.mono B4.out.size))
  clear hb
  go_wp2_with fail
  refine (qkey_any _ _ _ (by decide) (by decide)).mono ?_
  rintro e w7 ⟨rfl, rfl⟩
  rw [ex_key]
  go_wp2_with fail
  go_ret
  exact ⟨rfl, B5.out⟩

set_option maxHeartbeats 1000000 in
theorem nameChecksW (s : ByteArray) (w : World) (hs : s.size ≤ maxLen) (G : Gates w) :
    Calls Tryd.prog 3 #[.string s] w fun e w' => e = .returned (.bool true) ∧ Below w.heap.size w w' := by
  have hm := hs
  unfold maxLen at hm
  have HG := Lib.hid G
  clear G
  by_cases h : (10000 : Int) < (s.size : Int)
  · go_enter Tryd.func3, Tryd.ntmps3
    go_wp2_with fail
    go_ret
    exact ⟨rfl, Below.refl _ _⟩
  · obtain ⟨R, hR⟩ : ∃ R, R = Q.right s.data.toList := ⟨_, rfl⟩
    have HR := Lib.hid hR
    clear hR
    go_enter Tryd.func3, Tryd.ntmps3
    go_wp2_with fail
    refine (qright_any _ _ hs).mono ?_
    rintro e w1 ⟨rfl, rfl⟩
    rw [← HR.out]
    go_wp2_with fail
    refine (rqright_any _ _ hs).mono ?_
    rintro e w1 ⟨rfl, rfl⟩
    rw [← HR.out]
    go_wp2_with fail
    refine (lives_any _ HG.out).mono ?_
    rintro e w2 ⟨rfl, hb⟩
    go_wp2_with fail
    go_ret
    exact ⟨rfl, hb⟩

set_option maxHeartbeats 2000000 in
set_option maxRecDepth 100000 in
theorem nameRunsW (n : Int) (s : ByteArray) (w : World) (h0 : -9223372036854775808 ≤ n) (h1 : n ≤ 9223372036854775807) (hs : s.size ≤ maxLen) (G : Gates w) :
    Calls Tryd.prog 4 #[.int .i64 n, .string s] w fun e w' => e = .returned (.bool true) ∧ Below w.heap.size w w' := by
  have hm := hs
  unfold maxLen at hm
  have HG := Lib.hid G
  clear G
  by_cases h : (10000 : Int) < (s.size : Int)
  · go_enter Tryd.func4, Tryd.ntmps4
    go_wp2_with fail
    refine (lives_any _ HG.out).mono ?_
    rintro e w1 ⟨rfl, hb⟩
    go_wp2_with fail
    go_ret
    exact ⟨rfl, hb⟩
  · obtain ⟨E, hE⟩ : ∃ E, E = bS (Q.run n) := ⟨_, rfl⟩
    have hEz : E.size ≤ 20 := by rw [hE, bS_size]; exact Q.run_len n h1
    have hed : Q.num E.data.toList = if n < 1 then (0, false) else (n, true) := by
      rw [hE, bS_data]
      by_cases hn : n < 1
      · rw [if_pos hn, Q.num_small hn]
      · rw [if_neg hn, Q.num_run (by omega) h1]
    have HE := Lib.hid hE
    have HED := Lib.hid hed
    clear hE hed
    go_enter Tryd.func4, Tryd.ntmps4
    go_wp2_with fail
    refine (qnum_any s _ (by omega) HG.out).mono ?_
    rintro e w1 ⟨rfl, hb⟩
    have G1 := Lib.hid (HG.out.below hb)
    have B1 := Lib.hid hb
    clear hb
    obtain ⟨r, hr⟩ : ∃ r, r = Q.num s.data.toList := ⟨_, rfl⟩
    rw [← hr]
    have HR := Lib.hid hr
    clear hr
    obtain ⟨a, ok⟩ := r
    have hok : ok = true → bS (Q.run a) = s ∧ 1 ≤ a ∧ a ≤ 9223372036854775807 := by
      intro e; subst e
      have h := HR.out.symm
      exact ⟨by rw [Q.num_ok h]; rfl, Q.num_pos h, Q.num_max h fun v hv => (Lib.atoiAll_bounds hv).2⟩
    go_wp2_with fail
    refine (rqnum_any s _ (by omega)).mono ?_
    rintro e w2 ⟨rfl, hb⟩
    rw [← HR.out]
    have G2 := Lib.hid (G1.out.below hb)
    have B2 := Lib.hid (B1.out.trans (hb.mono B1.out.size))
    clear hb
    go_wp2_with fail
    refine (qrun_any n _ h0 h1 G2.out).mono ?_
    rintro e w3 ⟨rfl, hb⟩
    rw [← HE.out]
    have G3 := Lib.hid (G2.out.below hb)
    have B3 := Lib.hid (B2.out.trans (hb.mono B2.out.size))
    clear hb
    go_wp2_with fail
    refine (rqrun_any n _ h0 h1).mono ?_
    rintro e w4 ⟨rfl, hb⟩
    rw [← HE.out]
    have G4 := Lib.hid (G3.out.below hb)
    have B4 := Lib.hid (B3.out.trans (hb.mono B3.out.size))
    clear hb
    cases ok with
    | true =>
      obtain ⟨k1, k2, k3⟩ := hok rfl
      have K1 := Lib.hid k1
      clear hok k1
      go_wp2_with fail
      refine (qrun_any a _ (by omega) k3 G4.out).mono ?_
      rintro e w5 ⟨rfl, hb⟩
      rw [K1.out]
      have G5 := Lib.hid (G4.out.below hb)
      have B5 := Lib.hid (B4.out.trans (hb.mono B4.out.size))
      clear hb
      go_wp2_with fail
      refine (qrun_any n _ h0 h1 G5.out).mono ?_
      rintro e w6 ⟨rfl, hb⟩
      rw [← HE.out]
      have G6 := Lib.hid (G5.out.below hb)
      have B6 := Lib.hid (B5.out.trans (hb.mono B5.out.size))
      clear hb
      go_wp2_with fail
      refine (qnum_any E _ (by omega) G6.out).mono ?_
      rintro e w7 ⟨rfl, hb⟩
      rw [HED.out]
      have G7 := Lib.hid (G6.out.below hb)
      have B7 := Lib.hid (B6.out.trans (hb.mono B6.out.size))
      clear hb
      by_cases hn : n < 1
      · rw [if_pos hn]
        go_wp2_with fail
        refine (lives_any _ G7.out).mono ?_
        rintro e w8 ⟨rfl, hb⟩
        go_wp2_with fail
        go_ret
        exact ⟨rfl, B7.out.trans (hb.mono B7.out.size)⟩
      · rw [if_neg hn]
        go_wp2_with fail
        refine (lives_any _ G7.out).mono ?_
        rintro e w8 ⟨rfl, hb⟩
        go_wp2_with fail
        go_ret
        exact ⟨rfl, B7.out.trans (hb.mono B7.out.size)⟩
    | false =>
      clear hok
      go_wp2_with fail
      refine (qrun_any n _ h0 h1 G4.out).mono ?_
      rintro e w6 ⟨rfl, hb⟩
      rw [← HE.out]
      have G6 := Lib.hid (G4.out.below hb)
      have B6 := Lib.hid (B4.out.trans (hb.mono B4.out.size))
      clear hb
      go_wp2_with fail
      refine (qnum_any E _ (by omega) G6.out).mono ?_
      rintro e w7 ⟨rfl, hb⟩
      rw [HED.out]
      have G7 := Lib.hid (G6.out.below hb)
      have B7 := Lib.hid (B6.out.trans (hb.mono B6.out.size))
      clear hb
      by_cases hn : n < 1
      · rw [if_pos hn]
        go_wp2_with fail
        refine (lives_any _ G7.out).mono ?_
        rintro e w8 ⟨rfl, hb⟩
        go_wp2_with fail
        go_ret
        exact ⟨rfl, B7.out.trans (hb.mono B7.out.size)⟩
      · rw [if_neg hn]
        go_wp2_with fail
        refine (lives_any _ G7.out).mono ?_
        rintro e w8 ⟨rfl, hb⟩
        go_wp2_with fail
        go_ret
        exact ⟨rfl, B7.out.trans (hb.mono B7.out.size)⟩
end Go.Proofs.YthmdacpejhncgaaDoor
