/-
  Layer 1: the examples of the chapter.
-/
import Derived.Test.YtakinfkjimfkhaaRefC
namespace Go.Proofs.Ytakinfkjimfkhaa
open Go.RowKit

/-- A literal block of two or three bytes. -/
theorem RB.two (w : World) (a b : UInt8) (x y : Int) (hx : x = (a.toNat : Int)) (hy : y = (b.toNat : Int)) :
    RB (w.alloc (.cells #[.int .u8 x, .int .u8 y] 5)) w.heap.size (w.heap.size + 1) (some ⟨w.heap.size, 0, none⟩) 2 2 [a, b] := by
  subst hx; subst hy
  refine ⟨rfl, Nat.le_refl _, (by unfold maxLen; omega), (fun e => by cases e), fun _ => ⟨w.heap.size, 0, rfl, Nat.le_refl _, by omega, fun j hj => ?_⟩⟩
  rw [World.cell?_alloc_at _ _ _ _ rfl]
  match j, hj with
  | 0, _ => rfl
  | 1, _ => rfl
theorem RB.three (w : World) (a b c : UInt8) (x y z : Int) (hx : x = (a.toNat : Int)) (hy : y = (b.toNat : Int)) (hz : z = (c.toNat : Int)) :
    RB (w.alloc (.cells #[.int .u8 x, .int .u8 y, .int .u8 z] 5)) w.heap.size (w.heap.size + 1) (some ⟨w.heap.size, 0, none⟩) 3 3 [a, b, c] := by
  subst hx; subst hy; subst hz
  refine ⟨rfl, Nat.le_refl _, (by unfold maxLen; omega), (fun e => by cases e), fun _ => ⟨w.heap.size, 0, rfl, Nat.le_refl _, by omega, fun j hj => ?_⟩⟩
  rw [World.cell?_alloc_at _ _ _ _ rfl]
  match j, hj with
  | 0, _ => rfl
  | 1, _ => rfl
  | 2, _ => rfl

/-- 'equal', whatever the worlds around: true if the two read alike. -/
theorem equalX {A B : Option Addr} {m n c d : Nat} {l r : List UInt8} {lo hi lo' hi' : Nat} {w : World} (h : RB w lo hi A m c l) (h' : RB w lo' hi' B n d r) :
    Calls Try.prog 11 #[.slice A m c, .slice B n d] w fun e w' => e = .returned (.bool (decide (l = r))) ∧ ∀ X, Below X w w' :=
  (equal_any A B m n c d l r lo hi lo' hi' w h h').mono fun e w' ⟨h1, q, h2⟩ => ⟨h1, fun X => by subst h2; exact ⟨rfl, rfl, rfl, Nat.le_refl _, fun _ _ => rfl⟩⟩

section
variable {w w' : World} {lo g g' B : Nat} {s : M.St}
theorem RdX.below (h : RdX w lo g s) (hb : Below B w w') (hB : g < B) : RdX w' lo g s := h.kept (Kept.of_below hb hB)
theorem RdX.alloc (h : RdX w lo g s) (o : Obj) : RdX (w.alloc o) lo g s := h.kept fun b _ h2 => Below.heap_alloc w o b (by have := h.lt; omega)
theorem RdX.only (h : RdX w lo g s) (hg : w.grownBy w' (some g')) (hne : g' < lo ∨ g < g') : RdX w' lo g s := h.kept (Kept.of_only hg (by have := h.lt; omega) (by omega))
theorem RfX.below (h : RfX w lo g s) (hb : Below B w w') (hB : g < B) : RfX w' lo g s := h.kept (Kept.of_below hb hB)
theorem RfX.alloc (h : RfX w lo g s) (o : Obj) : RfX (w.alloc o) lo g s := h.kept fun b _ h2 => Below.heap_alloc w o b (by have := h.lt; omega)
theorem RfX.only (h : RfX w lo g s) (hg : w.grownBy w' (some g')) (hne : g' < lo ∨ g < g') : RfX w' lo g s := h.kept (Kept.of_only hg (by have := h.lt; omega) (by omega))
theorem RdX.ge (h : RdX w lo g s) : lo ≤ g := by obtain ⟨_, _, _, h⟩ := h; exact h.low
theorem RfX.ge (h : RfX w lo g s) : lo ≤ g := by obtain ⟨_, _, _, h⟩ := h; exact h.low
end

theorem b_step {a w1 w2 : World} (h : Below a.heap.size a w1) (h2 : Below w1.heap.size w1 w2) : Below a.heap.size a w2 := h.trans (h2.mono h.size)
theorem b_alloc {a w1 : World} (h : Below a.heap.size a w1) (o : Obj) : Below a.heap.size a (w1.alloc o) := h.alloc h.size o
theorem b_only {a w1 w2 : World} {g : Nat} (h : Below a.heap.size a w1) (hg : w1.grownBy w2 (some g)) (hB : a.heap.size ≤ g) : Below a.heap.size a w2 := h.trans (only_below hg hB h.size)

theorem ex_text : (M.St.mk [4, 97] 0).text 9 = ([], ⟨[], 4⟩) := by kernel_rfl
theorem ex_int : (M.St.mk [128, 0] 0).int (-9223372036854775808) 9223372036854775807 = (0, ⟨[], 3⟩) := by kernel_rfl
theorem ex_put : decide (([7] : List UInt8) ++ M.enc (M.zig (-65)) = [7, 129, 1]) = true := by
  rw [show M.zig (-65) = 129 from rfl, M.enc_big (by omega), M.enc_small (by omega)]; rfl
theorem ex_puts : decide (([] : List UInt8) ++ (M.enc (M.zig ((⟨#[97, 98]⟩ : ByteArray).data.toList.length : Int)) ++ (⟨#[97, 98]⟩ : ByteArray).data.toList) = [4, 97, 98]) = true := by
  rw [show M.zig ((⟨#[97, 98]⟩ : ByteArray).data.toList.length : Int) = 4 from rfl, M.enc_small (by omega)]; rfl

set_option maxHeartbeats 2000000 in
set_option maxRecDepth 100000 in
theorem works_any (w : World) :
    Calls Try.prog 10 #[] w fun e w' => e = .returned (.bool true) ∧ Below w.heap.size w w' := by
  go_enter Try.func10, Try.ntmps10
  go_wp2_with fail
  refine (openX _ _ _ [4, 97] _ _ _ (RB.two _ 4 97 4 97 rfl rfl) (by simp) (by omega)).mono ?_
  rintro e w1 ⟨g1, rfl, hR1, hb1⟩
  go_wp2_with fail
  refine (openX _ _ _ [128, 0] _ _ _ (RB.two _ 128 0 128 0 rfl rfl) (by simp) (by omega)).mono ?_
  rintro e w2 ⟨g2, rfl, hR2, hb2⟩
  have hl1 := hR1.lt
  have hge1 := hR1.ge
  have hge2 := hR2.ge
  have hR12 : RdX w2 _ g1 _ := (hR1.alloc _).below hb2 (by simp; omega)
  have hB2 : Below w.heap.size w w2 := b_step (b_alloc (b_step (b_alloc (Below.refl _ _) _) hb1) _) hb2
  simp only [World.size_alloc] at hge1 hge2
  clear hR1 hb1 hb2
  go_wp2_with fail
  refine (textX 9 hR12).mono ?_
  rintro e w3 ⟨rfl, hR13, hg3⟩
  rw [ex_text] at hR13
  have hR23 := hR2.only hg3 (.inl (by simp; omega))
  go_wp2_with fail
  refine (intX _ _ hR23).mono ?_
  rintro e w4 ⟨rfl, hR24, hg4⟩
  rw [ex_int] at hR24
  have hR14 := hR13.only hg4 (.inr (by omega))
  have hB4 := b_only (b_only hB2 hg3 (by omega)) hg4 (by have := hB2.size; omega)
  clear hg3 hg4 hR12 hR23 hR13 hR2
  go_wp2_with fail
  refine (putInt_any _ _ _ [7] _ _ _ _ (RB.one (n := 7) _ rfl) (by simp) (by omega) (by omega) (by omega)).mono ?_
  rintro e w5 ⟨v5, rfl, ho5, hb5⟩
  obtain ⟨A5, n5, c5, rfl, hr5⟩ := ho5.form
  go_wp2_with fail
  refine (equalX (hr5.alloc (Nat.le_refl _) _) (RB.three _ 7 129 1 7 129 1 rfl rfl rfl)).mono ?_
  rintro e w6 ⟨rfl, hb6⟩
  rw [ex_put]
  have hB6 := (b_alloc (b_step (b_alloc hB4 _) hb5) _).trans (hb6 _)
  have hR16 : RdX w6 _ g1 _ := (((hR14.alloc _).below hb5 (by have := hR14.lt; simp; omega)).alloc _).below (hb6 (g1 + 1)) (by omega)
  have hR26 : RdX w6 _ g2 _ := (((hR24.alloc _).below hb5 (by have := hR24.lt; simp; omega)).alloc _).below (hb6 (g2 + 1)) (by omega)
  clear hR14 hR24 hB2 hB4 hb5 hb6 ho5 hr5
  go_wp2_with fail
  refine (putText_any _ _ _ [] _ _ _ _ (RB.nil_ _ 0 0) (by omega) (by show 0 + 2 ≤ _; omega)).mono ?_
  rintro e w7 ⟨v7, rfl, ho7, hb7⟩
  obtain ⟨A7, n7, c7, rfl, hr7⟩ := ho7.form
  go_wp2_with fail
  refine (equalX (hr7.alloc (Nat.le_refl _) _) (RB.three _ 4 97 98 4 97 98 rfl rfl rfl)).mono ?_
  rintro e w8 ⟨rfl, hb8⟩
  rw [ex_puts]
  have hB8 := (b_alloc (b_step hB6 hb7) _).trans (hb8 _)
  have hR18 : RdX w8 _ g1 _ := ((hR16.below hb7 (by have := hR16.lt; omega)).alloc _).below (hb8 (g1 + 1)) (by omega)
  have hR28 : RdX w8 _ g2 _ := ((hR26.below hb7 (by have := hR26.lt; omega)).alloc _).below (hb8 (g2 + 1)) (by omega)
  clear hR16 hR26 hB6 hb7 hb8 ho7 hr7
  go_wp2_with fail
  refine (errX hR18).mono ?_
  rintro e w' ⟨rfl, rfl⟩
  go_wp2_with fail
  refine (errX hR28).mono ?_
  rintro e w' ⟨rfl, rfl⟩
  go_wp2_with fail
  refine (openX _ _ _ [] _ _ _ (RB.nil_ _ 0 0) (by omega) (by omega)).mono ?_
  rintro e w9 ⟨g9, rfl, hR9, hb9⟩
  go_wp2_with fail
  refine (endX hR9).mono ?_
  rintro e w' ⟨rfl, rfl⟩
  go_wp2_with fail
  go_ret
  exact ⟨rfl, b_step hB8 hb9⟩
end Go.Proofs.Ytakinfkjimfkhaa
