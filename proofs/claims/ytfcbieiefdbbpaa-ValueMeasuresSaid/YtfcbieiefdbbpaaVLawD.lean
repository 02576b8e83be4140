/-
  Layer 2: the law ValueMeasures, walked.
-/
import Derived.Test.YtfcbieiefdbbpaaVRefG
import Derived.Test.YtfcbieiefdbbpaaVCopS
import Derived.Test.YtfcbieiefdbbpaaVSpoL
import Derived.Test.YtfcbieiefdbbpaaVRefD
import Derived.Test.YtfcbieiefdbbpaaVWorks
import Derived.Deep.RegionHeld3
namespace Go.Proofs.Ytfcbieiefdbbpaa
set_option linter.unusedVariables false
open Go.RowKit
open M (V)

/-- The boxes of the law: both arguments and the old copy. -/
def BoxM (W : World) (g h : Nat) (k n : Int) (s : ByteArray) (x y : Value) (k' n' : Int) (s' : ByteArray) (x' y' : Value) (k2 n2 : Int) (s2 : ByteArray) (x2 y2 : Value) : Prop :=
  (W.cell? ⟨g, 0, none⟩ = some (.int .i64 k) ∧ W.cell? ⟨g, 1, none⟩ = some (.int .i64 n) ∧ W.cell? ⟨g, 2, none⟩ = some (.string s) ∧ W.cell? ⟨g, 3, none⟩ = some x ∧ W.cell? ⟨g, 4, none⟩ = some y) ∧
  (W.cell? ⟨g + 1, 0, none⟩ = some (.int .i64 k') ∧ W.cell? ⟨g + 1, 1, none⟩ = some (.int .i64 n') ∧ W.cell? ⟨g + 1, 2, none⟩ = some (.string s') ∧ W.cell? ⟨g + 1, 3, none⟩ = some x' ∧ W.cell? ⟨g + 1, 4, none⟩ = some y') ∧
  W.cell? ⟨h, 0, none⟩ = some (.int .i64 k2) ∧ W.cell? ⟨h, 1, none⟩ = some (.int .i64 n2) ∧ W.cell? ⟨h, 2, none⟩ = some (.string s2) ∧ W.cell? ⟨h, 3, none⟩ = some x2 ∧ W.cell? ⟨h, 4, none⟩ = some y2

set_option maxRecDepth 100000 in
set_option maxHeartbeats 4000000 in
theorem measuresW {v v' : Value} {t t' : V} {hi : Nat} {w : World} (h : VX w 0 hi v t) (h' : VX w 0 hi v' t') (hhi : hi ≤ w.heap.size) :
    Calls Try.prog 4 #[v, v'] w fun e w' => e = .returned (.bool true) ∧ Below w.heap.size w w' := by
  obtain ⟨A, m, c, B, p, e, rfl⟩ := h.form
  obtain ⟨A', m', c', B', p', e', rfl⟩ := h'.form
  have hb0 : Below (w.heap.size + 2) ((w.alloc (.cells #[.int .i64 t.k, .int .i64 t.n, .string t.s, .slice A m c, .slice B p e] 26)).alloc (.cells #[.int .i64 t'.k, .int .i64 t'.n, .string t'.s, .slice A' m' c', .slice B' p' e'] 26)) _ := Below.refl _ _
  obtain ⟨⟨b0, b1, b2, b3, b4⟩, g0, g1, g2, g3, g4⟩ := two5 hb0
  have H := Lib.hid h; have H' := Lib.hid h'
  clear h h'
  go_enter Try.func4, Try.ntmps4
  go_wp2_with fail
  refine (fewX (H.out.later (two_below hb0) hhi) (by have := two_size hb0; omega) (by decide) (by decide)).mono ?_
  rintro e1 w1 ⟨rfl, hb1⟩
  have hb2 := two_step hb0 hb1
  clear b0 b1 b2 b3 b4 g0 g1 g2 g3 g4
  obtain ⟨⟨b0, b1, b2, b3, b4⟩, g0, g1, g2, g3, g4⟩ := two5 hb2
  cases hf : decide ((t.sz : Int) ≤ 2000) with
  | false =>
    clear hf
    go_wp2_with fail
    refine (works_any _).mono ?_
    rintro e w2 ⟨rfl, hb3⟩
    go_wp2_with fail
    go_ret
    exact ⟨rfl, two_below (two_step hb2 hb3)⟩
  | true =>
    have hsz : t.sz ≤ 1000000 := by have := of_decide_eq_true hf; omega
    have HSZ := Lib.hid hsz
    clear hf hsz
    go_wp2_with fail
    refine (fewX (H'.out.later (two_below hb2) hhi) (by have := two_size hb2; omega) (by decide) (by decide)).mono ?_
    rintro e1 w2 ⟨rfl, hb3⟩
    have hb4 := two_step hb2 hb3
    cases hf : decide ((t'.sz : Int) ≤ 2000) with
    | false =>
      clear hf b0 b1 b2 b3 b4 g0 g1 g2 g3 g4
      go_wp2_with fail
      refine (works_any _).mono ?_
      rintro e w3 ⟨rfl, hb5⟩
      go_wp2_with fail
      go_ret
      exact ⟨rfl, two_below (two_step hb4 hb5)⟩
    | true =>
      clear hf b0 b1 b2 b3 b4 g0 g1 g2 g3 g4
      obtain ⟨⟨b0, b1, b2, b3, b4⟩, g0, g1, g2, g3, g4⟩ := two5 hb4
      have hz4 := two_size hb4
      go_wp2_with fail
      -- the old copy
      refine (rCopyX (H.out.later (two_below hb4) hhi) (by omega)).mono ?_
      rintro e1 w3 ⟨v3, rfl, hv3, hb5⟩
      obtain ⟨A3, m3, c3, B3, p3, e3, rfl⟩ := hv3.form
      have hb6 := two_step hb4 hb5
      have hz6 := two_size hb6
      clear b0 b1 b2 b3 b4 g0 g1 g2 g3 g4
      have hbA := hb6.alloc hz6 (.cells #[.int .i64 t.k, .int .i64 t.n, .string t.s, .slice A3 m3 c3, .slice B3 p3 e3] 26)
      have hbW : Below (w3.heap.size + 1) (w3.alloc (.cells #[.int .i64 t.k, .int .i64 t.n, .string t.s, .slice A3 m3 c3, .slice B3 p3 e3] 26)) _ := Below.refl _ _
      have HQ : Hid (∀ W, Below (w3.heap.size + 1) (w3.alloc (.cells #[.int .i64 t.k, .int .i64 t.n, .string t.s, .slice A3 m3 c3, .slice B3 p3 e3] 26)) W → _) := Lib.hid (fun W hW => And.intro (two5 (hbA.trans (hW.mono (by omega)))).1 (And.intro (two5 (hbA.trans (hW.mono (by omega)))).2 (box5 hW)))
      have HB : Hid (∀ W, Below (w3.heap.size + 1) (w3.alloc (.cells #[.int .i64 t.k, .int .i64 t.n, .string t.s, .slice A3 m3 c3, .slice B3 p3 e3] 26)) W → Below w.heap.size w W ∧ VX W 0 hi (.agg #[.int .i64 t.k, .int .i64 t.n, .string t.s, .slice A m c, .slice B p e]) t ∧ VX W 0 hi (.agg #[.int .i64 t'.k, .int .i64 t'.n, .string t'.s, .slice A' m' c', .slice B' p' e']) t' ∧ VX W 0 w3.heap.size (.agg #[.int .i64 t.k, .int .i64 t.n, .string t.s, .slice A3 m3 c3, .slice B3 p3 e3]) t ∧ hi ≤ W.heap.size ∧ w3.heap.size ≤ W.heap.size) := Lib.hid (fun W hW => by
        have hz := box_size hW
        have hw := two_below (hbA.trans (hW.mono (by omega)))
        have hw3 := box_below hW
        exact ⟨hw, H.out.later hw hhi, H'.out.later hw hhi, (hv3.later hw3 (Nat.le_refl _)).weak (Nat.zero_le _) (Nat.le_refl _), by omega, by omega⟩)
      clear hv3 hb5
      obtain ⟨⟨b0, b1, b2, b3, b4⟩, ⟨g0, g1, g2, g3, g4⟩, r0, r1, r2, r3, r4⟩ := HQ.out _ hbW
      have hz7 := box_size hbW
      go_wp2_with fail
      -- the copy
      obtain ⟨d, hd⟩ := (HB.out _ hbW).2.1
      refine (copyS_at d _ _ _ _ _ hd (HB.out _ hbW).2.2.2.2.1).mono ?_
      rintro e1 w4 ⟨v4, rfl, hv4, hsb4, hb8⟩
      clear hd
      obtain ⟨A4, m4, c4, B4, p4, e4, rfl⟩ := hv4.agg
      simp only [World.size_alloc] at hb8 hv4 hsb4
      have hb9 := hbW.trans hb8
      have hz9 := box_size hb9
      clear b0 b1 b2 b3 b4 g0 g1 g2 g3 g4 r0 r1 r2 r3 r4
      have hbC := box_refl w4 (.cells #[.int .i64 t.k, .int .i64 t.n, .string t.s, .slice A4 m4 c4, .slice B4 p4 e4] 26)
      have hb10 := hb9.alloc hz9 (.cells #[.int .i64 t.k, .int .i64 t.n, .string t.s, .slice A4 m4 c4, .slice B4 p4 e4] 26)
      obtain ⟨⟨b0, b1, b2, b3, b4⟩, ⟨g0, g1, g2, g3, g4⟩, r0, r1, r2, r3, r4⟩ := HQ.out _ hb10
      have HSB := Lib.hid hsb4
      have HV4 := Lib.hid hv4
      clear hsb4 hv4
      go_wp2_with fail
      refine (rSameX ⟨d, HV4.out.later (box_below hbC) (Nat.le_refl _)⟩ (HB.out _ hb10).2.1 (by simp) (HB.out _ hb10).2.2.2.2.1).mono ?_
      rintro e1 w5 ⟨rfl, hb11⟩
      rw [V.same_yes rfl]
      have hbD := box_step hbC hb11
      have hb12 := hb10.trans (hb11.mono (by have := (HB.out _ hb10).2.2.2.2.2; have := box_size hb10; omega))
      clear b0 b1 b2 b3 b4 g0 g1 g2 g3 g4 r0 r1 r2 r3 r4
      obtain ⟨s0, s1, s2, s3, s4⟩ := box5 hbD
      have hzD := box_size hbD
      go_wp2_with fail
      refine (spoil_at d _ (w3.heap.size + 1) _ (HSB.out.kept (Rws.of_below (box_below hbD))) (by omega)).mono ?_
      rintro e1 w6 ⟨rfl, hb13, -⟩
      have hb14 := hb12.trans hb13
      clear s0 s1 s2 s3 s4 hb13 hb12 hb11 hb10 hbD hbC hb9 hb8 HSB HV4 hbW hbA hb6
      have hb15 := below_drew hb14
      have hk0 := hb15
      obtain ⟨⟨b0, b1, b2, b3, b4⟩, ⟨g0, g1, g2, g3, g4⟩, r0, r1, r2, r3, r4⟩ := HQ.out _ hb14
      go_wp2_with fail
      go_region_held3 (fun W => (W.cell? ⟨w.heap.size, 0, none⟩ = some (.int .i64 t.k) ∧ W.cell? ⟨w.heap.size, 1, none⟩ = some (.int .i64 t.n) ∧ W.cell? ⟨w.heap.size, 2, none⟩ = some (.string t.s) ∧ W.cell? ⟨w.heap.size, 3, none⟩ = some (.slice A m c) ∧ W.cell? ⟨w.heap.size, 4, none⟩ = some (.slice B p e)) ∧
          (W.cell? ⟨w.heap.size + 1, 0, none⟩ = some (.int .i64 t'.k) ∧ W.cell? ⟨w.heap.size + 1, 1, none⟩ = some (.int .i64 t'.n) ∧ W.cell? ⟨w.heap.size + 1, 2, none⟩ = some (.string t'.s) ∧ W.cell? ⟨w.heap.size + 1, 3, none⟩ = some (.slice A' m' c') ∧ W.cell? ⟨w.heap.size + 1, 4, none⟩ = some (.slice B' p' e')) ∧
          W.cell? ⟨w3.heap.size, 0, none⟩ = some (.int .i64 t.k) ∧ W.cell? ⟨w3.heap.size, 1, none⟩ = some (.int .i64 t.n) ∧ W.cell? ⟨w3.heap.size, 2, none⟩ = some (.string t.s) ∧ W.cell? ⟨w3.heap.size, 3, none⟩ = some (.slice A3 m3 c3) ∧ W.cell? ⟨w3.heap.size, 4, none⟩ = some (.slice B3 p3 e3))
        (first
          | exact HQ.out _ hk11
          | exact HQ.out _ hk10
          | exact HQ.out _ hk9
          | exact HQ.out _ hk8
          | exact HQ.out _ hk7
          | exact HQ.out _ hk6
          | exact HQ.out _ hk5
          | exact HQ.out _ hk4
          | exact HQ.out _ hk3
          | exact HQ.out _ hk2
          | exact HQ.out _ hk1
          | exact HQ.out _ hk0
          | exact HQ.out _ hb14)
        (first
          | (go_at_call 7; refine (works_any _).mono ?_; rintro e w5 ⟨rfl, hb8⟩; have hk11 := box_step hk10 hb8)
          | (go_at_call 31; refine (rSizeX (HB.out _ hk9).2.1 (HB.out _ hk9).2.2.2.2.1 HSZ.out).mono ?_; rintro e w5 ⟨rfl, hb8⟩; have hk10 := box_step hk9 hb8)
          | (go_at_call 30; refine (sizeX (HB.out _ hk8).2.1 (HB.out _ hk8).2.2.2.2.1 HSZ.out).mono ?_; rintro e w5 ⟨rfl, hb8⟩; have hk9 := box_step hk8 hb8)
          | (go_at_call 29; refine (rDepthX (HB.out _ hk7).2.1 (HB.out _ hk7).2.2.2.2.1 HSZ.out).mono ?_; rintro e w5 ⟨rfl, hb8⟩; have hk8 := box_step hk7 hb8)
          | (go_at_call 28; refine (depthX (HB.out _ hk6).2.1 (HB.out _ hk6).2.2.2.2.1 HSZ.out).mono ?_; rintro e w5 ⟨rfl, hb8⟩; have hk7 := box_step hk6 hb8)
          | (go_at_call 27; refine (sameX (HB.out _ hk5).2.1 (HB.out _ hk5).2.2.2.1 (HB.out _ hk5).2.2.2.2.1 (HB.out _ hk5).2.2.2.2.2).mono ?_; rintro e w5 ⟨rfl, hb8⟩; rw [V.same_yes rfl]; have hk6 := box_step hk5 hb8)
          | (go_at_call 10; refine (rSameX (HB.out _ hk4).2.1 (HB.out _ hk4).2.2.1 (HB.out _ hk4).2.2.2.2.1 (HB.out _ hk4).2.2.2.2.1).mono ?_; rintro e w5 ⟨rfl, hb8⟩; have hk5 := box_step hk4 hb8)
          | (go_at_call 27; refine (sameX (HB.out _ hk3).2.1 (HB.out _ hk3).2.2.1 (HB.out _ hk3).2.2.2.2.1 (HB.out _ hk3).2.2.2.2.1).mono ?_; rintro e w5 ⟨rfl, hb8⟩; have hk4 := box_step hk3 hb8)
          | (go_at_call 26; refine (rRightX (HB.out _ hk2).2.1 (HB.out _ hk2).2.2.2.2.1 HSZ.out).mono ?_; rintro e w5 ⟨rfl, hb8⟩; have hk3 := box_step hk2 hb8)
          | (go_at_call 25; refine (rightX (HB.out _ hk1).2.1 (HB.out _ hk1).2.2.2.2.1).mono ?_; rintro e w5 ⟨rfl, hb8⟩; have hk2 := box_step hk1 hb8)
          | (go_at_call 10; refine (rSameX (HB.out _ hk0).2.1 (HB.out _ hk0).2.2.2.1 (HB.out _ hk0).2.2.2.2.1 (HB.out _ hk0).2.2.2.2.2).mono ?_; rintro e w5 ⟨rfl, hb8⟩; rw [V.same_yes rfl]; have hk1 := box_step hk0 hb8))
      all_goals go_wp2_with fail
      all_goals go_ret
      all_goals exact ⟨rfl, (HB.out _ hk11).1⟩
end Go.Proofs.Ytfcbieiefdbbpaa
