/-
  Layer 3: what Parse defers: a fault becomes the results.
-/
import Derived.Test.YtdkggnciamfcmaaGreatDoorTCodC
import Derived.Test.YtdkggnciamfcmaaGreatDoorRecov
import Derived.Deep.RegionHeld3
namespace Go.Proofs.YtdkggnciamfcmaaGreatDoor
set_option linter.unusedVariables false
open Go.RowKit
open M (V Res)

theorem null3_any (w : World) :
    Calls Tryz.prog 25 #[] w fun e w' => e = .returned (.agg #[.int .i64 0, .int .i64 0, .string ByteArray.empty, .slice none 0 0, .slice none 0 0]) ∧ Below w.heap.size w w' := by
  go_enter Tryz.func25, Tryz.ntmps25
  go_wp2_with fail
  exact bodyPost_ret (v := .agg #[.int .i64 0, .int .i64 0, .string ByteArray.empty, .slice none 0 0, .slice none 0 0]) (by simp [results, Tryz.results25, go_sem]; rfl) rfl ⟨rfl, (Below.refl _ _).alloc (Nat.le_refl _) _⟩

/-- What the closure leaves: the three results, and nothing else below them. -/
structure Caught (r2 r3 r4 i : Nat) (er : Int) (w w' : World) : Prop where
  v : w'.heap[r2]? = some (.cells #[.int .i64 0, .int .i64 0, .string ByteArray.empty, .slice none 0 0, .slice none 0 0] 25 (0, 0))
  at_ : w'.heap[r3]? = some (.cells #[.int .i64 (i : Int)] 3 (0, 0))
  e : w'.heap[r4]? = some (.cells #[.int .i64 er] 28 (0, 0))
  bel : Below r2 w w'
theorem caught {x0 x1 x2 x3 x4 x5 x6 : Value} {r2 r3 r4 i : Nat} {er : Int} {w W : World} (hb : Below r2 w W) (hr3 : r2 < r3) (hr4 : r3 < r4) (h2 : W.heap[r2]? = some (.cells #[x0, x1, x2, x3, x4] 25 (0, 0))) (h3 : W.heap[r3]? = some (.cells #[x5] 3 (0, 0))) (h4 : W.heap[r4]? = some (.cells #[x6] 28 (0, 0))) :
    Caught r2 r3 r4 i er w (((stored W r2 (.int .i64 0) (.int .i64 0) (.string ByteArray.empty) (.slice none 0 0) (.slice none 0 0)).setCell ⟨r3, 0, none⟩ (.int .i64 (i : Int))).setCell ⟨r4, 0, none⟩ (.int .i64 er)) := by
  have g2 := lit_stored h2 (.int .i64 0) (.int .i64 0) (.string ByteArray.empty) (.slice none 0 0) (.slice none 0 0)
  have g3 := (stored_other W r2 r3 (.int .i64 0) (.int .i64 0) (.string ByteArray.empty) (.slice none 0 0) (.slice none 0 0) (by omega)).trans h3
  have g4 := (stored_other W r2 r4 (.int .i64 0) (.int .i64 0) (.string ByteArray.empty) (.slice none 0 0) (.slice none 0 0) (by omega)).trans h4
  have gb := stored_below hb (Nat.le_refl r2) (.int .i64 0) (.int .i64 0) (.string ByteArray.empty) (.slice none 0 0) (.slice none 0 0)
  generalize stored W r2 (.int .i64 0) (.int .i64 0) (.string ByteArray.empty) (.slice none 0 0) (.slice none 0 0) = X at *
  refine ⟨?_, ?_, ?_, (gb.setCell (p := ⟨r3, 0, none⟩) (by show r2 ≤ r3; omega) _).setCell (p := ⟨r4, 0, none⟩) (by show r2 ≤ r4; omega) _⟩
  · rw [heap_setCell_other _ _ _ _ (by show r2 ≠ r4; omega), heap_setCell_other _ _ _ _ (by show r2 ≠ r3; omega)]; exact g2
  · rw [heap_setCell_other _ _ _ _ (by show r3 ≠ r4; omega)]; exact heap_setCell_same _ _ 0 _ _ _ g3
  · exact heap_setCell_same _ _ 0 _ _ _ ((heap_setCell_other _ _ _ _ (by show r4 ≠ r3; omega)).trans g4)

set_option maxRecDepth 100000 in
set_option maxHeartbeats 4000000 in
theorem catch_fault {x0 x1 x2 x3 x4 x5 x6 : Value} (r2 r3 r4 i : Nat) (er : Int) (w : World) (hr3 : r2 < r3) (hr4 : r3 < r4) (h2 : w.heap[r2]? = some (.cells #[x0, x1, x2, x3, x4] 25 (0, 0))) (h3 : w.heap[r3]? = some (.cells #[x5] 3 (0, 0))) (h4 : w.heap[r4]? = some (.cells #[x6] 28 (0, 0))) :
    CallsD Tryz.prog 24 #[.pointer (some ⟨r2, 0, none⟩), .pointer (some ⟨r3, 0, none⟩), .pointer (some ⟨r4, 0, none⟩)] (.panicking [{ v := faultV i er, recovered := false }]) w fun e u' w' =>
      e = .returned (.tuple #[]) ∧ u' = .panicking [{ v := faultV i er, recovered := true }] ∧ Caught r2 r3 r4 i er w w' := by
  unfold faultV
  refine callsD_of_wpS Tryz.func24 rfl fun c₀ cs hu => ?_
  apply wpS_seq
  have hrec : recoverD (c₀ :: cs) = some (.iface 45 (.agg #[.int .i64 (i : Int), .int .i64 er]), { c₀ with mode := .panicking [{ v := .iface 45 (.agg #[.int .i64 (i : Int), .int .i64 er]), recovered := true }] } :: cs) := by simp only [recoverD, hu]
  refine region_recover rfl ?hr hrec ?hno ?_
  case hr => simp [go_sem]
  case hno => rintro ⟨a', w', h⟩; obtain ⟨u, h⟩ := h; exact absurd h.1 (by simp)
  have has : ∀ (v : Value) (w : World), (Instr.typeAssert (.iface 45 v) 20 45 true).run Tryz.prog w = .ok (.tuple #[v, .bool true]) w := fun v w => by kernel_rfl
  change wpList _ _ _ _ { tmps := #[.pointer (some ⟨r2, 0, none⟩), .pointer (some ⟨r3, 0, none⟩), .pointer (some ⟨r4, 0, none⟩), undef, undef, undef, .iface 45 (.agg #[.int .i64 (i : Int), .int .i64 er]), undef, undef, undef, undef, undef, undef, undef, undef, undef], defers := [] } w
  go_wp2_with fail
  refine wpS_of_wp ?_
  have f0 : (w.alloc (.cells #[.int .i64 (i : Int), .int .i64 er] 45)).cell? ⟨w.heap.size, 0, none⟩ = some (.int .i64 (i : Int)) := by rw [World.cell?_alloc_at _ _ _ _ rfl]; rfl
  have f1 : (w.alloc (.cells #[.int .i64 (i : Int), .int .i64 er] 45)).cell? ⟨w.heap.size, 1, none⟩ = some (.int .i64 er) := by rw [World.cell?_alloc_at _ _ _ _ rfl]; rfl
  go_wp2_with fail
  have hl2 := row_lt h2; have hl3 := row_lt h3; have hl4 := row_lt h4
  have H2 := Lib.hid h2; have H3 := Lib.hid h3; have H4 := Lib.hid h4
  have HU := Lib.hid hu
  generalize hW1 : w.alloc (.cells #[.int .i64 (i : Int), .int .i64 er] 45) = W1 at *
  have hz1 : w.heap.size < W1.heap.size := by rw [← hW1]; simp
  have HB1 : Hid (Below w.heap.size w W1) := Lib.hid (by rw [← hW1]; exact (Below.refl _ _).alloc (Nat.le_refl _) _)
  clear hW1 h2 h3 h4 hu hrec
  go_region_with (first | (go_at_call 25
                           refine (null3_any _).mono ?_
                           rintro e W2 ⟨rfl, hb2⟩
                           have HB2 : Hid (Below W1.heap.size W1 W2) := Lib.hid ⟨hb2.os, hb2.tape, hb2.output, hb2.size, hb2.block⟩
                           have g0 := (HB2.out.cell (p := ⟨w.heap.size, 0, none⟩) hz1).trans f0
                           have g1 := (HB2.out.cell (p := ⟨w.heap.size, 1, none⟩) hz1).trans f1
                           have k2 := (HB2.out.block r2 (by omega)).trans ((HB1.out.block r2 hl2).trans H2.out)
                           have k3 := (HB2.out.block r3 (by omega)).trans ((HB1.out.block r3 hl3).trans H3.out)
                           have k4 := (HB2.out.block r4 (by omega)).trans ((HB1.out.block r4 hl4).trans H4.out)
                           obtain ⟨m0, m1, m2, m3, m4, n0, n1, n2, n3, n4⟩ := lit5 k2
                           have m5 := cell_of_row _ _ 0 _ _ _ k3
                           have n5 := frozen_of_row _ _ 0 _ _ k3
                           have m6 := cell_of_row _ _ 0 _ _ _ k4
                           have n6 := frozen_of_row _ _ 0 _ _ k4
                           have K2 := Lib.hid k2; have K3 := Lib.hid k3; have K4 := Lib.hid k4
                           clear k2 k3 k4 hb2))
  all_goals go_wp2_with fail
  all_goals exact ⟨rfl, _, rfl, _, results_none rfl _ _ _, rfl, rfl, caught ((HB1.out.mono (Nat.le_of_lt hl2)).trans (HB2.out.mono (by omega))) hr3 hr4 K2.out K3.out K4.out⟩

set_option maxRecDepth 100000 in
set_option maxHeartbeats 4000000 in
theorem catch_idle (r2 r3 r4 : Nat) (w : World) :
    CallsD Tryz.prog 24 #[.pointer (some ⟨r2, 0, none⟩), .pointer (some ⟨r3, 0, none⟩), .pointer (some ⟨r4, 0, none⟩)] .returning w fun e u' w' =>
      e = .returned (.tuple #[]) ∧ u' = .returning ∧ Below w.heap.size w w' := by
  refine callsD_of_wpS Tryz.func24 rfl fun c₀ cs hu => ?_
  apply wpS_seq
  have hrec : recoverD (c₀ :: cs) = none := by simp only [recoverD, hu]
  refine region_idle rfl ?hr hrec ?hno ?_
  case hr => simp [go_sem]
  case hno => rintro ⟨a', w', h⟩; obtain ⟨u, h⟩ := h; exact absurd h.1 (by simp)
  have has : ∀ (w : World), (Instr.typeAssert .nilIface 20 45 true).run Tryz.prog w = .ok (.tuple #[.agg #[.int .i64 0, .int .i64 0], .bool false]) w := fun w => by kernel_rfl
  change wpList _ _ _ _ { tmps := #[.pointer (some ⟨r2, 0, none⟩), .pointer (some ⟨r3, 0, none⟩), .pointer (some ⟨r4, 0, none⟩), undef, undef, undef, .nilIface, undef, undef, undef, undef, undef, undef, undef, undef, undef], defers := [] } w
  go_wp2_with fail
  refine wpS_of_wp ?_
  go_wp2_with fail
  refine ⟨rfl, .returning, ?_, _, results_none rfl _ _ _, rfl, rfl, (Below.refl _ _).alloc (Nat.le_refl _) _⟩
  cases c₀
  simp only at hu
  rw [hu]
end Go.Proofs.YtdkggnciamfcmaaGreatDoor
