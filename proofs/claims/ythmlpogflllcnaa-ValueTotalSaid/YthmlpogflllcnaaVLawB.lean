/-
  Layer 2: the law ValueTotal.
-/
import Derived.Test.YthmlpogflllcnaaVRefA
import Derived.Test.YthmlpogflllcnaaVRefB
import Derived.Test.YthmlpogflllcnaaVRefD
import Derived.Test.YthmlpogflllcnaaVWorks
import Derived.Test.YthmlpogflllcnaaVOpen
import Derived.Test.YthmlpogflllcnaaVal8
namespace Go.Proofs.Ythmlpogflllcnaa
set_option linter.unusedVariables false
open Go.RowKit
open M (V)

theorem four_heap {w W1 : World} {o1 o2 o3 o4 : Obj} (h : W1 = (((w.alloc o1).alloc o2).alloc o3).alloc o4) :
    W1.heap.size = w.heap.size + 4 ∧ Below w.heap.size w W1 ∧ W1.heap[w.heap.size]? = some o1 ∧ W1.heap[w.heap.size + 1]? = some o2 ∧ W1.heap[w.heap.size + 1 + 1]? = some o3 ∧ W1.heap[w.heap.size + 1 + 1 + 1]? = some o4 := by
  subst h
  refine ⟨by simp, ((((Below.refl _ _).alloc (Nat.le_refl _) _).alloc (by simp) _).alloc (by simp; omega) _).alloc (by simp; omega) _, ?_, ?_, ?_, ?_⟩
  · rw [Below.heap_alloc _ _ _ (by simp; omega), Below.heap_alloc _ _ _ (by simp; omega), Below.heap_alloc _ _ _ (by simp)]; exact Array.getElem?_push_size
  · rw [Below.heap_alloc _ _ _ (by simp), Below.heap_alloc _ _ _ (by simp), show w.heap.size + 1 = (w.alloc o1).heap.size by simp]; exact Array.getElem?_push_size
  · rw [Below.heap_alloc _ _ _ (by simp), show w.heap.size + 1 + 1 = ((w.alloc o1).alloc o2).heap.size by simp]; exact Array.getElem?_push_size
  · rw [show w.heap.size + 1 + 1 + 1 = (((w.alloc o1).alloc o2).alloc o3).heap.size by simp]; exact Array.getElem?_push_size

theorem row_three {W : World} {g T hi : Nat} {x1 y1 x2 y2 x3 y3 : Value} {t1 t2 t3 : V}
    (h : W.heap[g]? = some (.cells #[.int .i64 t1.k, .int .i64 t1.n, .string t1.s, x1, y1, .int .i64 t2.k, .int .i64 t2.n, .string t2.s, x2, y2, .int .i64 t3.k, .int .i64 t3.n, .string t3.s, x3, y3] T (0, 0)))
    (h1 : VX W 0 hi (.agg #[.int .i64 t1.k, .int .i64 t1.n, .string t1.s, x1, y1]) t1) (h2 : VX W 0 hi (.agg #[.int .i64 t2.k, .int .i64 t2.n, .string t2.s, x2, y2]) t2) (h3 : VX W 0 hi (.agg #[.int .i64 t3.k, .int .i64 t3.n, .string t3.s, x3, y3]) t3) (hhi : hi ≤ W.heap.size) (hg : g < W.heap.size) :
    ∃ d, IS W 0 W.heap.size (VB W 0 W.heap.size d) (some ⟨g, 0, none⟩) 3 3 [t1, t2, t3] := by
  obtain ⟨d1, h1⟩ := h1
  obtain ⟨d2, h2⟩ := h2
  obtain ⟨d3, h3⟩ := h3
  refine ⟨d1 + d2 + d3, IS.row h rfl (Nat.le_refl _) (by decide) (Nat.zero_le _) hg fun q hq => ?_⟩
  rcases q with _ | _ | _ | q
  · exact ⟨_, _, _, _, _, rfl, rfl, rfl, rfl, rfl, (h1.up (by omega)).weak (Nat.le_refl _) hhi⟩
  · exact ⟨_, _, _, _, _, rfl, rfl, rfl, rfl, rfl, (h2.up (by omega)).weak (Nat.le_refl _) hhi⟩
  · exact ⟨_, _, _, _, _, rfl, rfl, rfl, rfl, rfl, (h3.up (by omega)).weak (Nat.le_refl _) hhi⟩
  · omega

set_option maxRecDepth 100000 in
set_option maxHeartbeats 8000000 in
theorem totalW {v1 v2 v3 : Value} {t1 t2 t3 : V} {hi : Nat} {w : World} (h1 : VX w 0 hi v1 t1) (h2 : VX w 0 hi v2 t2) (h3 : VX w 0 hi v3 t3) (hhi : hi ≤ w.heap.size) :
    Calls Try.prog 6 #[v1, v2, v3] w fun e w' => e = .returned (.bool true) ∧ Below w.heap.size w w' := by
  obtain ⟨A1, m1, c1, B1, p1, e1, rfl⟩ := h1.form
  obtain ⟨A2, m2, c2, B2, p2, e2, rfl⟩ := h2.form
  obtain ⟨A3, m3, c3, B3, p3, e3, rfl⟩ := h3.form
  obtain ⟨W1, hW1⟩ : ∃ W1, W1 = (((w.alloc (.cells #[.int .i64 t1.k, .int .i64 t1.n, .string t1.s, .slice A1 m1 c1, .slice B1 p1 e1] 26)).alloc (.cells #[.int .i64 t2.k, .int .i64 t2.n, .string t2.s, .slice A2 m2 c2, .slice B2 p2 e2] 26)).alloc (.cells #[.int .i64 t3.k, .int .i64 t3.n, .string t3.s, .slice A3 m3 c3, .slice B3 p3 e3] 26)).alloc (.cells #[.int .i64 t1.k, .int .i64 t1.n, .string t1.s, .slice A1 m1 c1, .slice B1 p1 e1, .int .i64 t2.k, .int .i64 t2.n, .string t2.s, .slice A2 m2 c2, .slice B2 p2 e2, .int .i64 t3.k, .int .i64 t3.n, .string t3.s, .slice A3 m3 c3, .slice B3 p3 e3] 26) := ⟨_, rfl⟩
  obtain ⟨hz, hb0, k1, k2, k3, k4⟩ := four_heap hW1
  obtain ⟨d, hrow⟩ := row_three k4 (h1.later hb0 hhi) (h2.later hb0 hhi) (h3.later hb0 hhi) (by omega) (by omega)
  have HQ : Hid (∀ W, Below W1.heap.size W1 W → (_ ∧ _) ∧ (_ ∧ _) ∧ (_ ∧ _)) := Lib.hid (fun W hW =>
    have q1 := lit5 ((hW.block w.heap.size (by omega)).trans k1)
    have q2 := lit5 ((hW.block (w.heap.size + 1) (by omega)).trans k2)
    have q3 := lit5 ((hW.block (w.heap.size + 1 + 1) (by omega)).trans k3)
    ⟨q1, q2, q3⟩)
  have HROW := Lib.hid hrow; have H1 := Lib.hid (h1.later hb0 hhi); have H2 := Lib.hid (h2.later hb0 hhi); have H3 := Lib.hid (h3.later hb0 hhi)
  have hhi' : hi ≤ W1.heap.size := by omega
  have HW1 := Lib.hid hW1
  clear h1 h2 h3 hrow k1 k2 k3 k4 hW1
  go_enter Try.func6, Try.ntmps6
  go_wp2_with fail
  rw [← HW1.out]
  clear HW1
  go_loopw [16] (fun y wr => ∃ j : Nat, y = .int .i64 j ∧ j ≤ 3 ∧ Below W1.heap.size W1 wr ∧ Hid (∀ q, q < j → ([t1, t2, t3].getD q default).wf = true)) (fun y _ => 3 - (intOf y).toNat)
  case atStart => exact ⟨0, rfl, by omega, Below.refl _ _, Lib.hid (fun q h => absurd h (by omega))⟩
  case round =>
    obtain ⟨j, rfl, hj, hb, HWF⟩ := hrel
    have hzr := hb.size
    by_cases hlt : j < 3
    · obtain ⟨b, off, kk, ii, ss, x', y', hg, c0, c1, c2, c3, c4, hv⟩ := HROW.out.item hb (Nat.le_refl _) hlt
      injection hg with hg
      injection hg with hg1 hg2
      subst hg1; subst hg2
      obtain ⟨a7, n7, c7, b7, m7, u7, hxy⟩ := VX.form ⟨d, hv⟩
      simp only [Value.agg.injEq, Array.mk.injEq, List.cons.injEq, and_true] at hxy
      obtain ⟨-, -, -, rfl, rfl⟩ := hxy
      have hlt' : (j : Int) < 3 := by omega
      rw [Nat.zero_add] at c0 c1 c2 c3 c4
      change wr.cell? ⟨w.heap.size + 1 + 1 + 1, j * 5, none⟩ = _ at c0
      change wr.cell? ⟨w.heap.size + 1 + 1 + 1, j * 5 + 1, none⟩ = _ at c1
      change wr.cell? ⟨w.heap.size + 1 + 1 + 1, j * 5 + 2, none⟩ = _ at c2
      change wr.cell? ⟨w.heap.size + 1 + 1 + 1, j * 5 + 3, none⟩ = _ at c3
      change wr.cell? ⟨w.heap.size + 1 + 1 + 1, j * 5 + 4, none⟩ = _ at c4
      go_wp2_with fail
      refine (fewX ⟨_, hv.alloc hzr _⟩ (by simp; omega) (by decide) (by decide)).mono ?_
      rintro e w2 ⟨rfl, hb2⟩
      simp only [World.size_alloc] at hb2
      obtain ⟨d0, d1, d2, d3, d4⟩ := box5 hb2
      have hz2 := box_size hb2
      have hb3 : Below W1.heap.size W1 w2 := hb.trans ((box_below hb2).mono hzr)
      cases hf : decide ((([t1, t2, t3].getD j default).sz : Int) ≤ 300) with
      | false =>
        clear hf
        go_wp2_with fail
        refine (works_any _).mono ?_
        rintro e w3 ⟨rfl, hb4⟩
        go_wp2_with fail
        go_ret
        exact ⟨rfl, hb0.trans ((hb3.trans (hb4.mono hb3.size)).mono hb0.size)⟩
      | true =>
        clear hf
        go_wp2_with fail
        refine (rWfX ⟨_, (hv.alloc hzr _).later hb2 (by omega)⟩ (by omega)).mono ?_
        rintro e w3 ⟨rfl, hb4⟩
        have hb5 := hb3.trans (hb4.mono hb3.size)
        cases hf : ([t1, t2, t3].getD j default).wf with
        | false =>
          clear hf
          go_wp2_with fail
          refine (works_any _).mono ?_
          rintro e w4 ⟨rfl, hb6⟩
          go_wp2_with fail
          go_ret
          exact ⟨rfl, hb0.trans ((hb5.trans (hb6.mono hb5.size)).mono hb0.size)⟩
        | true =>
          have HF := Lib.hid hf
          clear hf
          go_wp2_with fail
          refine ⟨⟨j + 1, by go_num, by omega, hb5, Lib.hid (fun q hq => ?_)⟩, by simp [intOf]; omega⟩
          rcases Nat.lt_or_ge q j with h | h
          · exact HWF.out q h
          · rw [show q = j by omega]; exact HF.out
    · obtain rfl : j = 3 := by omega
      have w1f : t1.wf = true := HWF.out 0 (by decide)
      have w2f : t2.wf = true := HWF.out 1 (by decide)
      have w3f : t3.wf = true := HWF.out 2 (by decide)
      obtain ⟨r1, r2⟩ := M.ord_three w1f w2f w3f
      have r3 := M.ord_back w1f w2f
      have r4 := M.ord_same w1f w2f
      have x1 := M.ord_small t1 t2
      have x2 := M.ord_small t2 t3
      have x3 := M.ord_small t1 t3
      clear HWF w1f w2f w3f HROW
      have X : (V.ord t1 t2 = -1 ∧ V.ord t2 t1 = 1 ∧ V.same t1 t2 = false) ∨ (V.ord t1 t2 = 0 ∧ V.ord t2 t1 = 0 ∧ V.same t1 t2 = true) ∨ (V.ord t1 t2 = 1 ∧ V.ord t2 t1 = -1 ∧ V.same t1 t2 = false) := by
        rcases x1 with h | h | h <;> rw [h] at r3 r4 <;> simp [h, r3, r4]
      clear x1 r3 r4
      rcases X with ⟨hx, hx', hs⟩ | ⟨hx, hx', hs⟩ | ⟨hx, hx', hs⟩ <;> rcases x2 with hy | hy | hy <;> rcases x3 with hv | hv | hv <;> (first
        | (exfalso; rw [hx, hy, hv] at r1 r2; unfold M.Tr at r1 r2; omega)
        | (
          clear r1 r2
          obtain ⟨⟨a0, a1, a2, a3, a4, -⟩, ⟨b0, b1, b2, b3, b4, -⟩, ⟨c0, c1, c2, c3, c4, -⟩⟩ := HQ.out wr hb
          go_wp2_with fail
          refine (orderX (H1.out.later hb hhi') (H2.out.later hb hhi') (by omega) (by omega)).mono ?_
          rintro e w2 ⟨rfl, hb2⟩
          rw [hx]
          have hb3 := hb.trans (hb2.mono hb.size)
          have s3 := hb3.size
          clear a0 a1 a2 a3 a4 b0 b1 b2 b3 b4 c0 c1 c2 c3 c4
          obtain ⟨⟨a0, a1, a2, a3, a4, -⟩, ⟨b0, b1, b2, b3, b4, -⟩, ⟨c0, c1, c2, c3, c4, -⟩⟩ := HQ.out w2 hb3
          go_wp2_with fail
          refine (orderX (H2.out.later hb3 hhi') (H1.out.later hb3 hhi') (by omega) (by omega)).mono ?_
          rintro e w3 ⟨rfl, hb4⟩
          rw [hx']
          have hb5 := hb3.trans (hb4.mono hb3.size)
          have s5 := hb5.size
          clear a0 a1 a2 a3 a4 b0 b1 b2 b3 b4 c0 c1 c2 c3 c4
          obtain ⟨⟨a0, a1, a2, a3, a4, -⟩, ⟨b0, b1, b2, b3, b4, -⟩, ⟨c0, c1, c2, c3, c4, -⟩⟩ := HQ.out w3 hb5
          go_wp2_with fail
          refine (rSameX (H1.out.later hb5 hhi') (H2.out.later hb5 hhi') (by omega) (by omega)).mono ?_
          rintro e w4 ⟨rfl, hb6⟩
          rw [hs]
          have hb7 := hb5.trans (hb6.mono hb5.size)
          have s7 := hb7.size
          clear a0 a1 a2 a3 a4 b0 b1 b2 b3 b4 c0 c1 c2 c3 c4
          obtain ⟨⟨a0, a1, a2, a3, a4, -⟩, ⟨b0, b1, b2, b3, b4, -⟩, ⟨c0, c1, c2, c3, c4, -⟩⟩ := HQ.out w4 hb7
          go_wp2_with fail
          refine (orderX (H2.out.later hb7 hhi') (H3.out.later hb7 hhi') (by omega) (by omega)).mono ?_
          rintro e w5 ⟨rfl, hb8⟩
          rw [hy]
          have hb9 := hb7.trans (hb8.mono hb7.size)
          have s9 := hb9.size
          clear a0 a1 a2 a3 a4 b0 b1 b2 b3 b4 c0 c1 c2 c3 c4
          obtain ⟨⟨a0, a1, a2, a3, a4, -⟩, ⟨b0, b1, b2, b3, b4, -⟩, ⟨c0, c1, c2, c3, c4, -⟩⟩ := HQ.out w5 hb9
          go_wp2_with fail
          first
            | (go_at_call 10
               refine (works_any _).mono ?_
               rintro e w6 ⟨rfl, hba⟩
               go_wp2_with fail
               go_ret
               exact ⟨rfl, hb0.trans ((hb9.trans (hba.mono hb9.size)).mono hb0.size)⟩)
            | (refine (orderX (H1.out.later hb9 hhi') (H3.out.later hb9 hhi') (by omega) (by omega)).mono ?_
               rintro e w6 ⟨rfl, hba⟩
               rw [hv]
               have hbb := hb9.trans (hba.mono hb9.size)
               have sb := hbb.size
               clear a0 a1 a2 a3 a4 b0 b1 b2 b3 b4 c0 c1 c2 c3 c4
               obtain ⟨⟨a0, a1, a2, a3, a4, -⟩, ⟨b0, b1, b2, b3, b4, -⟩, ⟨c0, c1, c2, c3, c4, -⟩⟩ := HQ.out w6 hbb
               go_wp2_with fail
               first
                 | (go_at_call 10
                    refine (works_any _).mono ?_
                    rintro e w7 ⟨rfl, hbc⟩
                    go_wp2_with fail
                    go_ret
                    exact ⟨rfl, hb0.trans ((hbb.trans (hbc.mono hbb.size)).mono hb0.size)⟩)
                 | (refine (orderX (H1.out.later hbb hhi') (H3.out.later hbb hhi') (by omega) (by omega)).mono ?_
                    rintro e w7 ⟨rfl, hbc⟩
                    rw [hv]
                    have hbd := hbb.trans (hbc.mono hbb.size)
                    go_wp2_with fail
                    refine (works_any _).mono ?_
                    rintro e w8 ⟨rfl, hbe⟩
                    go_wp2_with fail
                    go_ret
                    exact ⟨rfl, hb0.trans ((hbd.trans (hbe.mono hbd.size)).mono hb0.size)⟩))))
end Go.Proofs.Ythmlpogflllcnaa
