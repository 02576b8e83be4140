/-
  Layer 2: the law ValueOrders.
-/
import Derived.Test.YthmlpogflllcnaaVRefA
import Derived.Test.YthmlpogflllcnaaVRefE
import Derived.Test.YthmlpogflllcnaaVWorks
import Derived.Test.YthmlpogflllcnaaVOpen
import Derived.Deep.RegionHeld3
namespace Go.Proofs.Ythmlpogflllcnaa
set_option linter.unusedVariables false
open Go.RowKit
open M (V)

def Box5 (W : World) (g : Nat) (k n : Int) (s : ByteArray) (x y : Value) : Prop := W.cell? ⟨g, 0, none⟩ = some (.int .i64 k) ∧ W.cell? ⟨g, 1, none⟩ = some (.int .i64 n) ∧ W.cell? ⟨g, 2, none⟩ = some (.string s) ∧ W.cell? ⟨g, 3, none⟩ = some x ∧ W.cell? ⟨g, 4, none⟩ = some y

set_option maxRecDepth 100000 in
set_option maxHeartbeats 4000000 in
theorem ordersW {v v' : Value} {t t' : V} {hi : Nat} {w : World} (h : VX w 0 hi v t) (h' : VX w 0 hi v' t') (hhi : hi ≤ w.heap.size) :
    Calls Try.prog 5 #[v, v'] w fun e w' => e = .returned (.bool true) ∧ Below w.heap.size w w' := by
  obtain ⟨A, m, c, B, p, e, rfl⟩ := h.form
  obtain ⟨A', m', c', B', p', e', rfl⟩ := h'.form
  have hb0 : Below (w.heap.size + 2) ((w.alloc (.cells #[.int .i64 t.k, .int .i64 t.n, .string t.s, .slice A m c, .slice B p e] 26)).alloc (.cells #[.int .i64 t'.k, .int .i64 t'.n, .string t'.s, .slice A' m' c', .slice B' p' e'] 26)) _ := Below.refl _ _
  obtain ⟨⟨b0, b1, b2, b3, b4⟩, g0, g1, g2, g3, g4⟩ := two5 hb0
  have H := Lib.hid h; have H' := Lib.hid h'
  clear h h'
  go_enter Try.func5, Try.ntmps5
  go_wp2_with fail
  refine (fewX (H.out.later (two_below hb0) hhi) (by have := two_size hb0; omega) (by decide) (by decide)).mono ?_
  rintro e1 w1 ⟨rfl, hb1⟩
  have hb2 := two_step hb0 hb1
  clear b0 b1 b2 b3 b4 g0 g1 g2 g3 g4
  obtain ⟨⟨b0, b1, b2, b3, b4⟩, g0, g1, g2, g3, g4⟩ := two5 hb2
  cases hf : decide ((t.sz : Int) ≤ 300) with
  | false =>
    clear hf
    go_wp2_with fail
    refine (works_any _).mono ?_
    rintro e w2 ⟨rfl, hb3⟩
    go_wp2_with fail
    go_ret
    exact ⟨rfl, two_below (two_step hb2 hb3)⟩
  | true =>
    clear hf
    go_wp2_with fail
    refine (fewX (H'.out.later (two_below hb2) hhi) (by have := two_size hb2; omega) (by decide) (by decide)).mono ?_
    rintro e1 w2 ⟨rfl, hb3⟩
    have hb4 := two_step hb2 hb3
    cases hf : decide ((t'.sz : Int) ≤ 300) with
    | false =>
      clear hf b0 b1 b2 b3 b4 g0 g1 g2 g3 g4
      go_wp2_with fail
      refine (works_any _).mono ?_
      rintro e w3 ⟨rfl, hb5⟩
      go_wp2_with fail
      go_ret
      exact ⟨rfl, two_below (two_step hb4 hb5)⟩
    | true =>
      clear hf b0 b1 b2 b3 b4 g0 g1 g2 g3 g4
      have hb5 := below_drew hb4
      have HQ : Hid (∀ W, Below (w.heap.size + 2) ((w.alloc (.cells #[.int .i64 t.k, .int .i64 t.n, .string t.s, .slice A m c, .slice B p e] 26)).alloc (.cells #[.int .i64 t'.k, .int .i64 t'.n, .string t'.s, .slice A' m' c', .slice B' p' e'] 26)) W → _) := Lib.hid (fun W hW => two5 hW)
      obtain ⟨⟨b0, b1, b2, b3, b4⟩, g0, g1, g2, g3, g4⟩ := two5 hb4
      have hz5 := two_size hb5
      go_wp2_with fail
      go_region_held3 (fun w' => (w'.cell? ⟨w.heap.size, 0, none⟩ = some (.int .i64 t.k) ∧ w'.cell? ⟨w.heap.size, 1, none⟩ = some (.int .i64 t.n) ∧ w'.cell? ⟨w.heap.size, 2, none⟩ = some (.string t.s) ∧ w'.cell? ⟨w.heap.size, 3, none⟩ = some (.slice A m c) ∧ w'.cell? ⟨w.heap.size, 4, none⟩ = some (.slice B p e)) ∧
          w'.cell? ⟨w.heap.size + 1, 0, none⟩ = some (.int .i64 t'.k) ∧ w'.cell? ⟨w.heap.size + 1, 1, none⟩ = some (.int .i64 t'.n) ∧ w'.cell? ⟨w.heap.size + 1, 2, none⟩ = some (.string t'.s) ∧ w'.cell? ⟨w.heap.size + 1, 3, none⟩ = some (.slice A' m' c') ∧ w'.cell? ⟨w.heap.size + 1, 4, none⟩ = some (.slice B' p' e'))
        (first
          | exact HQ.out _ hk3
          | exact HQ.out _ hk2
          | exact HQ.out _ hk1
          | exact HQ.out _ hb5
          | exact HQ.out _ hb4)
        (first
          | (go_at_call 35; refine (orderX (H.out.later (two_below hb5) hhi) (H'.out.later (two_below hb5) hhi) (by omega) (by omega)).mono ?_; rintro e w3 ⟨rfl, hb6⟩; have hk1 := two_step hb5 hb6)
          | (go_at_call 36; refine (rOrderX (H.out.later (two_below hk1) hhi) (H'.out.later (two_below hk1) hhi) (by have := two_size hk1; omega) (by have := two_size hk1; omega)).mono ?_; rintro e w4 ⟨rfl, hb7⟩; have hk2 := two_step hk1 hb7)
          | (go_at_call 10; refine (works_any _).mono ?_; rintro e w5 ⟨rfl, hb8⟩; have hk3 := two_step hk2 hb8))
      go_wp2_with fail
      go_ret
      exact ⟨rfl, two_below hk3⟩
end Go.Proofs.Ythmlpogflllcnaa
