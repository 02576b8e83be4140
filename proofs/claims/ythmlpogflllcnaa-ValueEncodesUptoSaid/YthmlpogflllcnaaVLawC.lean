/-
  Layer 2: the law ValueEncodes, walked.
-/
import Derived.Test.YthmlpogflllcnaaVRefA
import Derived.Test.YthmlpogflllcnaaVRefF
import Derived.Test.YthmlpogflllcnaaVWorks
import Derived.Deep.RegionHeld3
namespace Go.Proofs.Ythmlpogflllcnaa
set_option linter.unusedVariables false
open Go.RowKit
open M (V)

theorem box_drew {W w1 : World} {o : Obj} (h : Below (W.heap.size + 1) (W.alloc o) w1) : Below (W.heap.size + 1) (W.alloc o) w1.drew := below_drew h

set_option maxRecDepth 100000 in
set_option maxHeartbeats 4000000 in
theorem encodesW {A' : Option Addr} {n' c' : Nat} {l : List UInt8} {v : Value} {t : V} {hi : Nat} {w : World} (hr : RB w 0 hi A' n' c' l) (h : VX w 0 hi v t) (hhi : hi ≤ w.heap.size) (hc : (V.code t).length ≤ 1000000000) :
    Calls Try.prog 8 #[.slice A' n' c', v] w fun e w' => e = .returned (.bool true) ∧ Below w.heap.size w w' := by
  obtain ⟨A, m, c, B, p, e, rfl⟩ := h.form
  have hb0 := box_refl w (.cells #[.int .i64 t.k, .int .i64 t.n, .string t.s, .slice A m c, .slice B p e] 26)
  have hln := hr.len
  have HR := Lib.hid hr; have H := Lib.hid h
  have HB : Hid (¬ (100 : Int) < (n' : Int) → (l ++ V.code t).length ≤ 140737488355000) := Lib.hid (fun hn => by rw [List.length_append]; omega)
  clear hr h hc hln
  obtain ⟨b0, b1, b2, b3, b4⟩ := box5 hb0
  by_cases hn : (100 : Int) < (n' : Int)
  · clear HB
    go_enter Try.func8, Try.ntmps8
    go_wp2_with fail
    refine (works_any _).mono ?_
    rintro e w2 ⟨rfl, hb3⟩
    go_wp2_with fail
    go_ret
    exact ⟨rfl, box_below (box_step hb0 hb3)⟩
  · have HC := Lib.hid (HB.out hn)
    clear HB
    go_enter Try.func8, Try.ntmps8
    go_wp2_with fail
    refine (fewX (H.out.later (box_below hb0) hhi) (by have := box_size hb0; omega) (by decide) (by decide)).mono ?_
    rintro e1 w1 ⟨rfl, hb1⟩
    have hb2 := box_step hb0 hb1
    clear b0 b1 b2 b3 b4
    cases hf : decide ((t.sz : Int) ≤ 300) with
    | false =>
      clear hf
      go_wp2_with fail
      refine (works_any _).mono ?_
      rintro e w2 ⟨rfl, hb3⟩
      go_wp2_with fail
      go_ret
      exact ⟨rfl, box_below (box_step hb2 hb3)⟩
    | true =>
      clear hf
      have hb5 := box_drew hb2
      have HQ : Hid (∀ W, Below (w.heap.size + 1) (w.alloc (.cells #[.int .i64 t.k, .int .i64 t.n, .string t.s, .slice A m c, .slice B p e] 26)) W → _) := Lib.hid (fun W hW => box5 hW)
      obtain ⟨b0, b1, b2, b3, b4⟩ := box5 hb2
      have hz5 := box_size hb5
      go_wp2_with fail
      go_region_held (fun w' => w'.cell? ⟨w.heap.size, 0, none⟩ = some (.int .i64 t.k) ∧ w'.cell? ⟨w.heap.size, 1, none⟩ = some (.int .i64 t.n) ∧ w'.cell? ⟨w.heap.size, 2, none⟩ = some (.string t.s) ∧ w'.cell? ⟨w.heap.size, 3, none⟩ = some (.slice A m c) ∧ w'.cell? ⟨w.heap.size, 4, none⟩ = some (.slice B p e))
        (first
          | exact HQ.out _ hk3
          | exact HQ.out _ hk2
          | exact HQ.out _ hk1
          | exact HQ.out _ hb5
          | exact HQ.out _ hb2)
        (first
          | (go_at_call 44; refine (encodeX (HR.out.kept (Kept.of_below (box_below hb5) hhi)) (by omega) (H.out.later (box_below hb5) hhi) (by omega) HC.out).mono ?_; rintro e w3 ⟨v3, rfl, ho3, hb6⟩; obtain ⟨A3, n3, c3, rfl, hr3⟩ := ho3.form; have hk1 := box_step hb5 hb6; have hv1 := run_convV hr3)
          | (go_at_call 45; refine (rEncodeX (HR.out.kept (Kept.of_below (box_below hk1) hhi)) (by have := box_size hk1; omega) (H.out.later (box_below hk1) hhi) (by have := box_size hk1; omega) HC.out).mono ?_; rintro e w4 ⟨A4, n4, c4, rfl, hr4, hb7⟩; have hk2 := box_step hk1 hb7; have hv2 := run_convV hr4; have hv3 := run_convV (hr3.kept (Kept.of_below hb7 (Nat.le_refl _))))
          | (go_at_call 10; refine (works_any _).mono ?_; rintro e w5 ⟨rfl, hb8⟩; have hk3 := box_step hk2 hb8))
      all_goals go_wp2_with fail
      all_goals go_ret
      all_goals exact ⟨rfl, box_below hk3⟩
end Go.Proofs.Ythmlpogflllcnaa
