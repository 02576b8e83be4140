/-
  Layer 1: 'play': one call on both readers.
-/
import Derived.Test.YtakinfkjimfkhaaLawB
import Derived.Deep.RegionHeld3
namespace Go.Proofs.Ytakinfkjimfkhaa
open Go.RowKit

theorem RdX.drew {w : World} {lo g : Nat} {s : M.St} (h : RdX w lo g s) : RdX w.drew lo g s := h.kept fun _ _ _ => rfl
theorem RfX.drew {w : World} {lo g : Nat} {s : M.St} (h : RfX w lo g s) : RfX w.drew lo g s := h.kept fun _ _ _ => rfl

theorem ok_int {s : M.St} (h : s.ok) (x y : Int) : (s.int x y).2.ok := by
  unfold M.St.int
  split
  · exact h
  · split
    · exact fun _ => rfl
    · split
      · exact fun _ => rfl
      · exact fun e => absurd rfl e
theorem ok_text {s : M.St} (h : s.ok) (y : Int) : (s.text y).2.ok := by
  unfold M.St.text
  split
  · exact ok_int h 0 y
  · split
    · exact fun _ => rfl
    · exact fun e => absurd rfl e
theorem ok_bool {s : M.St} (h : s.ok) : s.bool.2.ok := by
  unfold M.St.bool
  split
  · exact h
  · split
    · exact fun _ => rfl
    · split
      · exact fun _ => rfl
      · exact fun e => absurd rfl e
theorem ok_fail {s : M.St} (h : s.ok) (x : Int) : (s.fail x).ok := by
  unfold M.St.fail
  split
  · exact fun _ => rfl
  · exact h

/-- Both readers are in state s. -/
structure Two (w : World) (lo1 g1 lo2 g2 : Nat) (s : M.St) : Prop where
  rd : RdX w lo1 g1 s
  rf : RfX w lo2 g2 s
  lt : g1 < lo2
  ok : s.ok

theorem only2 {a w w' : World} {B g : Nat} (h : Below B a w) (hg : w.grownBy w' (some g)) (hB : B ≤ g) (hs : B ≤ a.heap.size) : Below B a w' := h.trans (only_below hg hB (Nat.le_trans hs h.size))

def Played (w : World) (lo1 g1 lo2 g2 : Nat) (w' : World) : Prop := Below lo1 w w' ∧ ∃ s, Two w' lo1 g1 lo2 g2 s

set_option maxHeartbeats 4000000 in
set_option maxRecDepth 100000 in
theorem play0 {w : World} {lo1 g1 lo2 g2 : Nat} {s : M.St} (x y : Int) (h : Two w lo1 g1 lo2 g2 s) :
    Calls Try.prog 20 #[.pointer (some ⟨g1, 0, none⟩), .pointer (some ⟨g2, 0, none⟩), .agg #[.int .i64 0, .int .i64 x, .int .i64 y]] w fun e w' => e = .returned (.bool true) ∧ Played w lo1 g1 lo2 g2 w' := by
  obtain ⟨hR, hF, hlt, hok⟩ := h
  have l1 := hR.lt
  have l2 := hF.lt
  have l3 := hF.ge
  have l4 := hR.ge
  have c0 : (w.alloc (.cells #[.int .i64 0, .int .i64 x, .int .i64 y] 35)).cell? ⟨w.heap.size, 0, none⟩ = some (.int .i64 0) := by rw [World.cell?_alloc_at _ _ _ _ rfl]; rfl
  have c1 : (w.alloc (.cells #[.int .i64 0, .int .i64 x, .int .i64 y] 35)).cell? ⟨w.heap.size, 1, none⟩ = some (.int .i64 x) := by rw [World.cell?_alloc_at _ _ _ _ rfl]; rfl
  have c2 : (w.alloc (.cells #[.int .i64 0, .int .i64 x, .int .i64 y] 35)).cell? ⟨w.heap.size, 2, none⟩ = some (.int .i64 y) := by rw [World.cell?_alloc_at _ _ _ _ rfl]; rfl
  have hR1 : RdX (w.alloc (.cells #[.int .i64 0, .int .i64 x, .int .i64 y] 35)) lo1 g1 s := hR.alloc _
  have hF1 : RfX (w.alloc (.cells #[.int .i64 0, .int .i64 x, .int .i64 y] 35)) lo2 g2 s := hF.alloc _
  have hB1 : Below lo1 w (w.alloc (.cells #[.int .i64 0, .int .i64 x, .int .i64 y] 35)) := (Below.refl _ _).alloc (by omega) _
  go_enter Try.func20, Try.ntmps20
  go_wp2_with fail
  go_region_held3 (fun w' => w'.cell? ⟨w.heap.size, 1, none⟩ = some (.int .i64 x) ∧ w'.cell? ⟨w.heap.size, 2, none⟩ = some (.int .i64 y))
    (first
      | go_keep
      | (go_split_ands; refine ⟨?_, ?_⟩ <;> (refine hg2.cell ?_ ?_; assumption; simp; omega))
      | (go_split_ands; refine ⟨?_, ?_⟩ <;> (refine hg1.cell ?_ ?_; assumption; simp; omega)))
    (first
      | (go_at_call 21; refine (intX _ _ (by first | exact hR1 | exact hR1.drew)).mono ?_; rintro e w1 ⟨rfl, hR2, hg1⟩)
      | (go_at_call 28; refine (rIntX _ _ (by first | exact hF1.drew.only hg1 (.inl hlt) | exact hF1.only hg1 (.inl hlt))).mono ?_; rintro e w2 ⟨rfl, hF2, hg2⟩))
  have hR3 := hR2.only hg2 (.inr (by omega))
  have hB2 : Below lo1 w w2 := only2 (only2 hB1.drew hg1 l4 (by omega)) hg2 (by omega) (by omega)
  have hok2 := ok_int hok x y
  clear hR hF hR1 hF1 hB1 hR2 hg1 hg2 c0 c1 c2
  go_wp2_with fail
  refine (errX hR3).mono ?_
  rintro e w' ⟨rfl, rfl⟩
  go_wp2_with fail
  refine (rErrX hF2).mono ?_
  rintro e w' ⟨rfl, rfl⟩
  go_wp2_with fail
  refine (endX hR3).mono ?_
  rintro e w' ⟨rfl, rfl⟩
  go_wp2_with fail
  refine (rEndX hF2).mono ?_
  rintro e w' ⟨rfl, rfl⟩
  go_wp2_with fail
  refine (leftX hR3).mono ?_
  rintro e w' ⟨rfl, rfl⟩
  go_wp2_with fail
  refine (rLeftX hok2 hF2).mono ?_
  rintro e w' ⟨rfl, rfl⟩
  go_wp2_with fail
  go_ret
  exact ⟨rfl, hB2, _, hR3, hF2, hlt, hok2⟩

set_option maxHeartbeats 4000000 in
set_option maxRecDepth 100000 in
theorem play1 {w : World} {lo1 g1 lo2 g2 : Nat} {s : M.St} (x y : Int) (h : Two w lo1 g1 lo2 g2 s) :
    Calls Try.prog 20 #[.pointer (some ⟨g1, 0, none⟩), .pointer (some ⟨g2, 0, none⟩), .agg #[.int .i64 1, .int .i64 x, .int .i64 y]] w fun e w' => e = .returned (.bool true) ∧ Played w lo1 g1 lo2 g2 w' := by
  obtain ⟨hR, hF, hlt, hok⟩ := h
  have l1 := hR.lt
  have l2 := hF.lt
  have l3 := hF.ge
  have l4 := hR.ge
  have c0 : (w.alloc (.cells #[.int .i64 1, .int .i64 x, .int .i64 y] 35)).cell? ⟨w.heap.size, 0, none⟩ = some (.int .i64 1) := by rw [World.cell?_alloc_at _ _ _ _ rfl]; rfl
  have c1 : (w.alloc (.cells #[.int .i64 1, .int .i64 x, .int .i64 y] 35)).cell? ⟨w.heap.size, 1, none⟩ = some (.int .i64 x) := by rw [World.cell?_alloc_at _ _ _ _ rfl]; rfl
  have c2 : (w.alloc (.cells #[.int .i64 1, .int .i64 x, .int .i64 y] 35)).cell? ⟨w.heap.size, 2, none⟩ = some (.int .i64 y) := by rw [World.cell?_alloc_at _ _ _ _ rfl]; rfl
  have hR1 : RdX (w.alloc (.cells #[.int .i64 1, .int .i64 x, .int .i64 y] 35)) lo1 g1 s := hR.alloc _
  have hF1 : RfX (w.alloc (.cells #[.int .i64 1, .int .i64 x, .int .i64 y] 35)) lo2 g2 s := hF.alloc _
  have hB1 : Below lo1 w (w.alloc (.cells #[.int .i64 1, .int .i64 x, .int .i64 y] 35)) := (Below.refl _ _).alloc (by omega) _
  go_enter Try.func20, Try.ntmps20
  go_wp2_with fail
  go_region_held3 (fun w' => w'.cell? ⟨w.heap.size, 1, none⟩ = some (.int .i64 x) ∧ w'.cell? ⟨w.heap.size, 2, none⟩ = some (.int .i64 y))
    (first
      | go_keep
      | (go_split_ands; refine ⟨?_, ?_⟩ <;> (refine hg2.cell ?_ ?_; assumption; simp; omega))
      | (go_split_ands; refine ⟨?_, ?_⟩ <;> (refine hg1.cell ?_ ?_; assumption; simp; omega)))
    (first
      | (go_at_call 22; refine (textX _ (by first | exact hR1 | exact hR1.drew)).mono ?_; rintro e w1 ⟨rfl, hR2, hg1⟩)
      | (go_at_call 32; refine (rTextX _ (by first | exact hF1.drew.only hg1 (.inl hlt) | exact hF1.only hg1 (.inl hlt))).mono ?_; rintro e w2 ⟨rfl, hF2, hg2⟩))
  have hR3 := hR2.only hg2 (.inr (by omega))
  have hB2 : Below lo1 w w2 := only2 (only2 hB1.drew hg1 l4 (by omega)) hg2 (by omega) (by omega)
  have hok2 := ok_text hok y
  clear hR hF hR1 hF1 hB1 hR2 hg1 hg2 c0 c1 c2
  go_wp2_with fail
  refine (errX hR3).mono ?_
  rintro e w' ⟨rfl, rfl⟩
  go_wp2_with fail
  refine (rErrX hF2).mono ?_
  rintro e w' ⟨rfl, rfl⟩
  go_wp2_with fail
  refine (endX hR3).mono ?_
  rintro e w' ⟨rfl, rfl⟩
  go_wp2_with fail
  refine (rEndX hF2).mono ?_
  rintro e w' ⟨rfl, rfl⟩
  go_wp2_with fail
  refine (leftX hR3).mono ?_
  rintro e w' ⟨rfl, rfl⟩
  go_wp2_with fail
  refine (rLeftX hok2 hF2).mono ?_
  rintro e w' ⟨rfl, rfl⟩
  go_wp2_with fail
  go_ret
  exact ⟨rfl, hB2, _, hR3, hF2, hlt, hok2⟩

set_option maxHeartbeats 4000000 in
set_option maxRecDepth 100000 in
theorem play2 {w : World} {lo1 g1 lo2 g2 : Nat} {s : M.St} (x y : Int) (h : Two w lo1 g1 lo2 g2 s) :
    Calls Try.prog 20 #[.pointer (some ⟨g1, 0, none⟩), .pointer (some ⟨g2, 0, none⟩), .agg #[.int .i64 2, .int .i64 x, .int .i64 y]] w fun e w' => e = .returned (.bool true) ∧ Played w lo1 g1 lo2 g2 w' := by
  obtain ⟨hR, hF, hlt, hok⟩ := h
  have l1 := hR.lt
  have l2 := hF.lt
  have l3 := hF.ge
  have l4 := hR.ge
  have c0 : (w.alloc (.cells #[.int .i64 2, .int .i64 x, .int .i64 y] 35)).cell? ⟨w.heap.size, 0, none⟩ = some (.int .i64 2) := by rw [World.cell?_alloc_at _ _ _ _ rfl]; rfl
  have c1 : (w.alloc (.cells #[.int .i64 2, .int .i64 x, .int .i64 y] 35)).cell? ⟨w.heap.size, 1, none⟩ = some (.int .i64 x) := by rw [World.cell?_alloc_at _ _ _ _ rfl]; rfl
  have c2 : (w.alloc (.cells #[.int .i64 2, .int .i64 x, .int .i64 y] 35)).cell? ⟨w.heap.size, 2, none⟩ = some (.int .i64 y) := by rw [World.cell?_alloc_at _ _ _ _ rfl]; rfl
  have hR1 : RdX (w.alloc (.cells #[.int .i64 2, .int .i64 x, .int .i64 y] 35)) lo1 g1 s := hR.alloc _
  have hF1 : RfX (w.alloc (.cells #[.int .i64 2, .int .i64 x, .int .i64 y] 35)) lo2 g2 s := hF.alloc _
  have hB1 : Below lo1 w (w.alloc (.cells #[.int .i64 2, .int .i64 x, .int .i64 y] 35)) := (Below.refl _ _).alloc (by omega) _
  go_enter Try.func20, Try.ntmps20
  go_wp2_with fail
  refine (boolX hR1).mono ?_
  rintro e w1 ⟨rfl, hR2, hg1⟩
  have c3 := hg1.cell c1 (by simp; omega)
  go_wp2_with fail
  refine (rBoolX (hF1.only hg1 (.inl hlt))).mono ?_
  rintro e w2 ⟨rfl, hF2, hg2⟩
  have hR3 := hR2.only hg2 (.inr (by omega))
  have hB2 : Below lo1 w w2 := only2 (only2 hB1 hg1 l4 (by omega)) hg2 (by omega) (by omega)
  have hok2 := ok_bool hok
  clear hR hF hR1 hF1 hB1 hR2 hg1 hg2 c0 c1 c2 c3
  go_wp2_with fail
  refine (errX hR3).mono ?_
  rintro e w' ⟨rfl, rfl⟩
  go_wp2_with fail
  refine (rErrX hF2).mono ?_
  rintro e w' ⟨rfl, rfl⟩
  go_wp2_with fail
  refine (endX hR3).mono ?_
  rintro e w' ⟨rfl, rfl⟩
  go_wp2_with fail
  refine (rEndX hF2).mono ?_
  rintro e w' ⟨rfl, rfl⟩
  go_wp2_with fail
  refine (leftX hR3).mono ?_
  rintro e w' ⟨rfl, rfl⟩
  go_wp2_with fail
  refine (rLeftX hok2 hF2).mono ?_
  rintro e w' ⟨rfl, rfl⟩
  go_wp2_with fail
  go_ret
  exact ⟨rfl, hB2, _, hR3, hF2, hlt, hok2⟩

set_option maxHeartbeats 4000000 in
set_option maxRecDepth 100000 in
theorem play3 {w : World} {lo1 g1 lo2 g2 : Nat} {s : M.St} (x y : Int) (h : Two w lo1 g1 lo2 g2 s) :
    Calls Try.prog 20 #[.pointer (some ⟨g1, 0, none⟩), .pointer (some ⟨g2, 0, none⟩), .agg #[.int .i64 3, .int .i64 x, .int .i64 y]] w fun e w' => e = .returned (.bool true) ∧ Played w lo1 g1 lo2 g2 w' := by
  obtain ⟨hR, hF, hlt, hok⟩ := h
  have l1 := hR.lt
  have l2 := hF.lt
  have l3 := hF.ge
  have l4 := hR.ge
  have c0 : (w.alloc (.cells #[.int .i64 3, .int .i64 x, .int .i64 y] 35)).cell? ⟨w.heap.size, 0, none⟩ = some (.int .i64 3) := by rw [World.cell?_alloc_at _ _ _ _ rfl]; rfl
  have c1 : (w.alloc (.cells #[.int .i64 3, .int .i64 x, .int .i64 y] 35)).cell? ⟨w.heap.size, 1, none⟩ = some (.int .i64 x) := by rw [World.cell?_alloc_at _ _ _ _ rfl]; rfl
  have c2 : (w.alloc (.cells #[.int .i64 3, .int .i64 x, .int .i64 y] 35)).cell? ⟨w.heap.size, 2, none⟩ = some (.int .i64 y) := by rw [World.cell?_alloc_at _ _ _ _ rfl]; rfl
  have hR1 : RdX (w.alloc (.cells #[.int .i64 3, .int .i64 x, .int .i64 y] 35)) lo1 g1 s := hR.alloc _
  have hF1 : RfX (w.alloc (.cells #[.int .i64 3, .int .i64 x, .int .i64 y] 35)) lo2 g2 s := hF.alloc _
  have hB1 : Below lo1 w (w.alloc (.cells #[.int .i64 3, .int .i64 x, .int .i64 y] 35)) := (Below.refl _ _).alloc (by omega) _
  go_enter Try.func20, Try.ntmps20
  go_wp2_with fail
  refine (failX _ hR1).mono ?_
  rintro e w1 ⟨rfl, hR2, hg1⟩
  have c3 := hg1.cell c1 (by simp; omega)
  go_wp2_with fail
  refine (rFailX _ (hF1.only hg1 (.inl hlt))).mono ?_
  rintro e w2 ⟨rfl, hF2, hg2⟩
  have hR3 := hR2.only hg2 (.inr (by omega))
  have hB2 : Below lo1 w w2 := only2 (only2 hB1 hg1 l4 (by omega)) hg2 (by omega) (by omega)
  have hok2 := ok_fail hok x
  clear hR hF hR1 hF1 hB1 hR2 hg1 hg2 c0 c1 c2 c3
  go_wp2_with fail
  refine (errX hR3).mono ?_
  rintro e w' ⟨rfl, rfl⟩
  go_wp2_with fail
  refine (rErrX hF2).mono ?_
  rintro e w' ⟨rfl, rfl⟩
  go_wp2_with fail
  refine (endX hR3).mono ?_
  rintro e w' ⟨rfl, rfl⟩
  go_wp2_with fail
  refine (rEndX hF2).mono ?_
  rintro e w' ⟨rfl, rfl⟩
  go_wp2_with fail
  refine (leftX hR3).mono ?_
  rintro e w' ⟨rfl, rfl⟩
  go_wp2_with fail
  refine (rLeftX hok2 hF2).mono ?_
  rintro e w' ⟨rfl, rfl⟩
  go_wp2_with fail
  go_ret
  exact ⟨rfl, hB2, _, hR3, hF2, hlt, hok2⟩

set_option maxHeartbeats 4000000 in
set_option maxRecDepth 100000 in
theorem play4 {w : World} {lo1 g1 lo2 g2 : Nat} {s : M.St} (k : Int) (x y : Int) (k0 : (k == 0) = false) (k1 : (k == 1) = false) (k2 : (k == 2) = false) (k3 : (k == 3) = false) (h : Two w lo1 g1 lo2 g2 s) :
    Calls Try.prog 20 #[.pointer (some ⟨g1, 0, none⟩), .pointer (some ⟨g2, 0, none⟩), .agg #[.int .i64 k, .int .i64 x, .int .i64 y]] w fun e w' => e = .returned (.bool true) ∧ Played w lo1 g1 lo2 g2 w' := by
  obtain ⟨hR, hF, hlt, hok⟩ := h
  have l1 := hR.lt
  have l2 := hF.lt
  have l3 := hF.ge
  have l4 := hR.ge
  have c0 : (w.alloc (.cells #[.int .i64 k, .int .i64 x, .int .i64 y] 35)).cell? ⟨w.heap.size, 0, none⟩ = some (.int .i64 k) := by rw [World.cell?_alloc_at _ _ _ _ rfl]; rfl
  have c1 : (w.alloc (.cells #[.int .i64 k, .int .i64 x, .int .i64 y] 35)).cell? ⟨w.heap.size, 1, none⟩ = some (.int .i64 x) := by rw [World.cell?_alloc_at _ _ _ _ rfl]; rfl
  have c2 : (w.alloc (.cells #[.int .i64 k, .int .i64 x, .int .i64 y] 35)).cell? ⟨w.heap.size, 2, none⟩ = some (.int .i64 y) := by rw [World.cell?_alloc_at _ _ _ _ rfl]; rfl
  have hR1 : RdX (w.alloc (.cells #[.int .i64 k, .int .i64 x, .int .i64 y] 35)) lo1 g1 s := hR.alloc _
  have hF1 : RfX (w.alloc (.cells #[.int .i64 k, .int .i64 x, .int .i64 y] 35)) lo2 g2 s := hF.alloc _
  have hB1 : Below lo1 w (w.alloc (.cells #[.int .i64 k, .int .i64 x, .int .i64 y] 35)) := (Below.refl _ _).alloc (by omega) _
  go_enter Try.func20, Try.ntmps20
  clear hR hF c1 c2
  go_wp2_with fail
  refine (errX hR1).mono ?_
  rintro e w' ⟨rfl, rfl⟩
  go_wp2_with fail
  refine (rErrX hF1).mono ?_
  rintro e w' ⟨rfl, rfl⟩
  go_wp2_with fail
  refine (endX hR1).mono ?_
  rintro e w' ⟨rfl, rfl⟩
  go_wp2_with fail
  refine (rEndX hF1).mono ?_
  rintro e w' ⟨rfl, rfl⟩
  go_wp2_with fail
  refine (leftX hR1).mono ?_
  rintro e w' ⟨rfl, rfl⟩
  go_wp2_with fail
  refine (rLeftX hok hF1).mono ?_
  rintro e w' ⟨rfl, rfl⟩
  go_wp2_with fail
  go_ret
  exact ⟨rfl, hB1, _, hR1, hF1, hlt, hok⟩

theorem playX {w : World} {lo1 g1 lo2 g2 : Nat} {s : M.St} (k x y : Int) (h : Two w lo1 g1 lo2 g2 s) :
    Calls Try.prog 20 #[.pointer (some ⟨g1, 0, none⟩), .pointer (some ⟨g2, 0, none⟩), .agg #[.int .i64 k, .int .i64 x, .int .i64 y]] w fun e w' => e = .returned (.bool true) ∧ Played w lo1 g1 lo2 g2 w' := by
  by_cases h0 : k = 0
  · subst h0; exact play0 x y h
  · by_cases h1 : k = 1
    · subst h1; exact play1 x y h
    · by_cases h2 : k = 2
      · subst h2; exact play2 x y h
      · by_cases h3 : k = 3
        · subst h3; exact play3 x y h
        · exact play4 k x y (by rw [beq_eq_false_iff_ne]; exact h0) (by rw [beq_eq_false_iff_ne]; exact h1) (by rw [beq_eq_false_iff_ne]; exact h2) (by rw [beq_eq_false_iff_ne]; exact h3) h
end Go.Proofs.Ytakinfkjimfkhaa
