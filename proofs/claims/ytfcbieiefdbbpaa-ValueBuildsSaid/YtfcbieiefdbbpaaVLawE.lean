/-
  Layer 2: the law ValueBuilds, walked.
-/
import Derived.Test.YtfcbieiefdbbpaaVRefL
import Derived.Test.YtfcbieiefdbbpaaVRefK
import Derived.Test.YtfcbieiefdbbpaaVCodN
import Derived.Test.YtfcbieiefdbbpaaVRefA
import Derived.Test.YtfcbieiefdbbpaaVRefD
import Derived.Test.YtfcbieiefdbbpaaVWorks
import Derived.Deep.RegionHeld3
namespace Go.Proofs.Ytfcbieiefdbbpaa
set_option linter.unusedVariables false
open Go.RowKit
open M (V)

theorem ks_at {w : World} {lo hi n c j : Nat} {A : Option Addr} {ks : List ByteArray} (h : KS w lo hi A n c ks) (hj : j < n) : (ks.getD j ByteArray.empty).size ≤ 140737488351232 := h.size j hj

set_option maxRecDepth 100000 in
set_option maxHeartbeats 8000000 in
theorem buildsW {A B : Option Addr} {n m c e0 hi d : Nat} {ks : List ByteArray} {its : List V} {N : Int} {w : World} (h : KS w 0 hi A n c ks) (h' : IS w 0 hi (VB w 0 hi d) B m e0 its) (hhi : hi ≤ w.heap.size) (hN1 : -9223372036854775808 ≤ N) (hN2 : N ≤ 9223372036854775807) :
    Calls Try.prog 3 #[.slice A n c, .slice B m e0, .int .i64 N] w fun e w' => e = .returned (.bool true) ∧ Below w.heap.size w w' := by
  have hcap := h.cap
  have hmost := h.most
  have hmost' := h'.most
  have hcap' := h'.cap
  have HK := Lib.hid h; have HI := Lib.hid h'
  have HL := Lib.hid h.len; have HL' := Lib.hid h'.len
  have HV0 : Hid (VX w 0 hi (.agg #[.int .i64 0, .int .i64 0, .string ⟨#[]⟩, .slice B m e0, .slice none 0 0]) (.mk 0 0 ByteArray.empty its [])) := Lib.hid ⟨d + 1, B, m, e0, none, 0, 0, rfl, by simp [V.k], by simp [V.k], by simp [V.n], by simp [V.n], by simp [V.s], h', KS.nil_ _ _ _⟩
  clear h h'
  by_cases hn : (50 : Int) < (n : Int)
  · go_enter Try.func3, Try.ntmps3
    go_wp2_with fail
    refine (works_any _).mono ?_
    rintro e w2 ⟨rfl, hb3⟩
    go_wp2_with fail
    go_ret
    exact ⟨rfl, hb3⟩
  have hn' : n ≤ 50 := by omega
  go_enter Try.func3, Try.ntmps3
  go_wp2_with fail
  refine (fewX HV0.out hhi (by decide) (by decide)).mono ?_
  rintro e1 w1 ⟨rfl, hb1⟩
  cases hf : decide (((V.mk 0 0 ByteArray.empty its []).sz : Int) ≤ 300) with
  | false =>
    clear hf
    go_wp2_with fail
    refine (works_any _).mono ?_
    rintro e w2 ⟨rfl, hb3⟩
    go_wp2_with fail
    go_ret
    exact ⟨rfl, below_step hb1 hb3⟩
  | true =>
    have HSZ : Hid (V.szs its ≤ 10000) := Lib.hid (by have := of_decide_eq_true hf; simp only [V.sz] at this; omega)
    clear hf
    have hz1 := hb1.size
    go_wp2_with fail
    -- the code's Map
    refine (mapX (HK.out.later hb1 hhi) (by omega) (HI.out.later hb1 hhi) (by omega)).mono ?_
    rintro e1 w2 ⟨k2, n2, s2, A2, m2, c2, B2, p2, e2, T, E, rfl, hv2, hm2, hb2⟩
    have hbw2 := below_step hb1 hb2
    have hz2 := hbw2.size
    have HV2 := Lib.hid hv2; have HM2 := Lib.hid hm2
    clear hv2 hm2
    have hbA := box_refl w2 (.cells #[.int .i64 k2, .int .i64 n2, .string s2, .slice A2 m2 c2, .slice B2 p2 e2] 26)
    have hbA2 : Below w.heap.size w _ := hbw2.trans ((box_below hbA).mono hz2)
    have hzA := box_size hbA
    go_wp2_with fail
    refine (rmapX (HK.out.later hbA2 hhi) (by omega) (HI.out.later hbA2 hhi) (by omega) (by omega) HSZ.out).mono ?_
    rintro e1 w3 ⟨k3, n3, s3, A3, m3, c3, B3, p3, e3, T', E', rfl, hv3, hm3, hb3⟩
    obtain ⟨rfl, rfl⟩ := HM2.out.uniq hm3
    have hbB := box_step hbA hb3
    have hzB := box_size hbB
    have HV3 := Lib.hid hv3
    clear hv3 hm3
    have hbC := hbB.alloc hzB (.cells #[.int .i64 k3, .int .i64 n3, .string s3, .slice A3 m3 c3, .slice B3 p3 e3] 26)
    have hE : (E != E) = false := by simp
    -- what stands from here on
    have HQ : Hid (∀ W, Below (w3.heap.size + 1) (w3.alloc (.cells #[.int .i64 k3, .int .i64 n3, .string s3, .slice A3 m3 c3, .slice B3 p3 e3] 26)) W → _) := Lib.hid (fun W hW => And.intro (box5 (hbC.trans (hW.mono (by omega)))) (box5 hW))
    have HB : Hid (∀ W, Below (w3.heap.size + 1) (w3.alloc (.cells #[.int .i64 k3, .int .i64 n3, .string s3, .slice A3 m3 c3, .slice B3 p3 e3] 26)) W → Below w.heap.size w W ∧ VX W 0 w2.heap.size (.agg #[.int .i64 k2, .int .i64 n2, .string s2, .slice A2 m2 c2, .slice B2 p2 e2]) T ∧ VX W 0 w3.heap.size (.agg #[.int .i64 k3, .int .i64 n3, .string s3, .slice A3 m3 c3, .slice B3 p3 e3]) T ∧ w2.heap.size ≤ W.heap.size ∧ w3.heap.size ≤ W.heap.size ∧ hi ≤ W.heap.size) := Lib.hid (fun W hW => by
      have hz := box_size hW
      have hw2 := box_below (hbC.trans (hW.mono (by omega)))
      have hw3 := box_below hW
      exact ⟨hbw2.trans (hw2.mono hz2), HV2.out.later hw2 (Nat.le_refl _), HV3.out.later hw3 (Nat.le_refl _), by omega, by omega, by omega⟩)
    have hk0 : Below (w3.heap.size + 1) (w3.alloc (.cells #[.int .i64 k3, .int .i64 n3, .string s3, .slice A3 m3 c3, .slice B3 p3 e3] 26)) _ := Below.refl _ _
    obtain ⟨⟨b0, b1, b2, b3, b4⟩, g0, g1, g2, g3, g4⟩ := HQ.out _ hk0
    have hzz := box_size hk0
    clear hb3 hbA hbB hbC
    go_wp2_with fail
    refine (rSameX (HB.out _ hk0).2.1 (HB.out _ hk0).2.2.1 (HB.out _ hk0).2.2.2.1 (HB.out _ hk0).2.2.2.2.1).mono ?_
    rintro e1 w4 ⟨rfl, hb4⟩
    rw [V.same_yes rfl]
    have hk1 := box_step hk0 hb4
    clear b0 b1 b2 b3 b4 g0 g1 g2 g3 g4
    go_wp2_with fail
    refine (list_any (HI.out.later (HB.out _ hk1).1 hhi) (HB.out _ hk1).2.2.2.2.2).mono ?_
    rintro e1 w5 ⟨v5, rfl, hv5, hb5⟩
    obtain ⟨A5, m5, c5, B5, p5, e5, rfl⟩ := hv5.agg
    have hk2 := box_step hk1 hb5
    go_wp2_with fail
    refine (rList_any (HI.out.later (HB.out _ hk2).1 hhi) (HB.out _ hk2).2.2.2.2.2).mono ?_
    rintro e1 w6 ⟨v6, rfl, hv6, hb6⟩
    obtain ⟨A6, m6, c6, B6, p6, e6, rfl⟩ := hv6.form
    have hk3 := box_step hk2 hb6
    go_wp2_with fail
    refine (rSameX ⟨_, hv5.later hb6 (Nat.le_refl _)⟩ hv6 hb6.size (Nat.le_refl _)).mono ?_
    rintro e1 w7 ⟨rfl, hb7⟩
    rw [V.same_yes rfl]
    have hk4 := box_step hk3 hb7
    clear hv5 hv6 hb4 hb5 hb6 hb7 hk0 hk1 hk2 hk3
    go_wp2_with fail
    obtain ⟨bN, hbN⟩ : ∃ b : Bool, b = decide (0 < N) := ⟨_, rfl⟩
    have HBN := Lib.hid hbN
    clear hbN
    go_loopw [12, 54] (fun x y wr => ∃ (j : Nat), y = .int .i64 j ∧ j ≤ n ∧ Below (w3.heap.size + 1) (w3.alloc (.cells #[.int .i64 k3, .int .i64 n3, .string s3, .slice A3 m3 c3, .slice B3 p3 e3] 26)) wr) (fun _ y _ => n - (intOf y).toNat)
    case atStart => exact ⟨0, rfl, by omega, hk4⟩
    case round =>
      clear hk4
      obtain ⟨j, rfl, hj, hr⟩ := hrel
      by_cases hlt : j < n
      · obtain ⟨b9, off9, rfl, c9⟩ := HK.out.item (HB.out _ hr).1 hhi hlt
        have hks := ks_at HK.out hlt
        generalize ks.getD j ByteArray.empty = kj at *
        have hr0 := below_drew hr
        have hzr := box_size hr
        obtain ⟨⟨b0, b1, b2, b3, b4⟩, g0, g1, g2, g3, g4⟩ := HQ.out _ hr
        go_wp2_with fail
        go_region_held3 (fun W => (W.cell? ⟨w2.heap.size, 0, none⟩ = some (.int .i64 k2) ∧ W.cell? ⟨w2.heap.size, 1, none⟩ = some (.int .i64 n2) ∧ W.cell? ⟨w2.heap.size, 2, none⟩ = some (.string s2) ∧ W.cell? ⟨w2.heap.size, 3, none⟩ = some (.slice A2 m2 c2) ∧ W.cell? ⟨w2.heap.size, 4, none⟩ = some (.slice B2 p2 e2)) ∧
            W.cell? ⟨w3.heap.size, 0, none⟩ = some (.int .i64 k3) ∧ W.cell? ⟨w3.heap.size, 1, none⟩ = some (.int .i64 n3) ∧ W.cell? ⟨w3.heap.size, 2, none⟩ = some (.string s3) ∧ W.cell? ⟨w3.heap.size, 3, none⟩ = some (.slice A3 m3 c3) ∧ W.cell? ⟨w3.heap.size, 4, none⟩ = some (.slice B3 p3 e3))
          (first
            | exact HQ.out _ hr6
            | exact HQ.out _ hr5
            | exact HQ.out _ hr4
            | exact HQ.out _ hr3
            | exact HQ.out _ hr2
            | exact HQ.out _ hr1
            | exact HQ.out _ hr0
            | exact HQ.out _ hr)
          (first
            | (go_at_call 10; refine (rSameX (hv4.later hb5 (Nat.le_refl _)) hv5 hb5.size (Nat.le_refl _)).mono ?_; rintro e x6 ⟨rfl, hb6⟩; rw [V.same_yes rfl]; have hr6 := box_step hr5 hb6)
            | (go_at_call 16; refine (rFailureX (HB.out _ hr4).2.2.1 (HB.out _ hr4).2.2.2.2.1 hks).mono ?_; rintro e x5 ⟨v5, rfl, hv5, hb5⟩; obtain ⟨A5, m5, c5, B5, p5, e5, rfl⟩ := hv5.form; have hr5 := box_step hr4 hb5)
            | (go_at_call 15; refine (failureX (HB.out _ hr3).2.1 (HB.out _ hr3).2.2.2.1 hks).mono ?_; rintro e x4 ⟨v4, rfl, hv4, hb4⟩; obtain ⟨A4, m4, c4, B4, p4, e4, rfl⟩ := hv4.form; have hr4 := box_step hr3 hb4)
            | (go_at_call 10; refine (rSameX ⟨1, VB.text _ 0 0 0 _ hks⟩ ⟨1, VB.text _ 0 0 0 _ hks⟩ (Nat.zero_le _) (Nat.zero_le _)).mono ?_; rintro e x3 ⟨rfl, hb3⟩; rw [V.same_yes rfl]; have hr3 := box_step hr2 hb3)
            | (go_at_call 14; refine (rText_any _ _).mono ?_; rintro e x2 ⟨rfl, hb2⟩; have hr2 := box_step hr1 hb2)
            | (go_at_call 13; refine (text_any _ _).mono ?_; rintro e x1 ⟨rfl, hb1⟩; have hr1 := box_step hr0 hb1))
        all_goals (clear b0 b1 b2 b3 b4 g0 g1 g2 g3 g4 hv4 hv5)
        all_goals go_wp2_with fail
        all_goals exact ⟨⟨j + 1, by go_num, by omega, hr6⟩, by simp [intOf]; omega⟩
      · go_wp2_with fail
        refine (int_any _ _).mono ?_
        rintro e x1 ⟨rfl, hc1⟩
        have hr1 := box_step hr hc1
        go_wp2_with fail
        refine (rInt_v _ _).mono ?_
        rintro e x2 ⟨rfl, hc2⟩
        have hr2 := box_step hr1 hc2
        go_wp2_with fail
        refine (rSameX ⟨1, VB.int _ 0 0 0 _ hN1 hN2⟩ ⟨1, VB.int _ 0 0 0 _ hN1 hN2⟩ (Nat.zero_le _) (Nat.zero_le _)).mono ?_
        rintro e x3 ⟨rfl, hc3⟩
        rw [V.same_yes rfl]
        have hr3 := box_step hr2 hc3
        go_wp2_with fail
        refine (vBool_any (decide (0 < N)) _).mono ?_
        rintro e x4 ⟨rfl, hc4⟩
        have hr4 := box_step hr3 hc4
        go_wp2_with fail
        refine (rBool_any (decide (0 < N)) _).mono ?_
        rintro e x5 ⟨rfl, hc5⟩
        have hr5 := box_step hr4 hc5
        go_wp2_with fail
        refine (rSameX ⟨1, VB.bool _ 0 0 0 _⟩ ⟨1, VB.bool _ 0 0 0 _⟩ (Nat.zero_le _) (Nat.zero_le _)).mono ?_
        rintro e x6 ⟨rfl, hc6⟩
        rw [V.same_yes rfl]
        have hr6 := box_step hr5 hc6
        go_wp2_with fail
        refine (null_any _).mono ?_
        rintro e x7 ⟨rfl, hc7⟩
        have hr7 := box_step hr6 hc7
        go_wp2_with fail
        refine (rSameX ⟨1, VB.null _ 0 0 0⟩ ⟨1, VB.null _ 0 0 0⟩ (Nat.zero_le _) (Nat.zero_le _)).mono ?_
        rintro e x8 ⟨rfl, hc8⟩
        rw [V.same_yes rfl]
        have hr8 := box_step hr7 hc8
        go_wp2_with fail
        refine (works_any _).mono ?_
        rintro e x9 ⟨rfl, hc9⟩
        have hr9 := box_step hr8 hc9
        go_wp2_with fail
        go_ret
        exact ⟨rfl, (HB.out _ hr9).1⟩
end Go.Proofs.Ytfcbieiefdbbpaa
