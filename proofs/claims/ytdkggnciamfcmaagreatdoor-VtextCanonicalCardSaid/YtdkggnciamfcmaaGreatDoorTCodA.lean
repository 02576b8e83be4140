/-
  Layer 3: the code's parser: its smallest methods.
-/
import Derived.Test.YtdkggnciamfcmaaGreatDoorTMath
import Derived.Test.YtdkggnciamfcmaaGreatDoorVMem3
import Derived.WalkLawsBesides
import Derived.BigQuiet
namespace Go.Proofs.YtdkggnciamfcmaaGreatDoor
set_option linter.unusedVariables false
open Go.RowKit
open M (V Res)

/-- The parser in block g. -/
structure Prs (w : World) (g : Nat) (s : ByteArray) (i b : Nat) : Prop where
  blk : w.heap[g]? = some (.cells #[.string s, .int .i64 (i : Int), .int .i64 (b : Int)] 49 (0, 0))
  le : i ≤ s.size
  fit : s.size ≤ 1000000000
  cnt : b ≤ 1000
/-- What the parser panics with. -/
def faultV (i : Nat) (e : Int) : Value := .iface 45 (.agg #[.int .i64 (i : Int), .int .i64 e])
/-- What a method of the parser ends in: a result and the parser a step on, or a fault. -/
def Ends {α : Type} (g : Nat) (s : ByteArray) (R : α → Value → World → Prop) (r : Res α) (w : World) (e : Ending) (w' : World) : Prop :=
  w.grownBy w' (some g) ∧ match r with
  | .ok a i b => ∃ v, e = .returned v ∧ Prs w' g s i b ∧ R a v w'
  | .no i er => e = .panicked [{ v := faultV i er, recovered := false }]
def isByte (c : Nat) (v : Value) (_ : World) : Prop := v = .int .u8 (c : Int)
def isBool (c : Bool) (v : Value) (_ : World) : Prop := v = .bool c
def isUnit (_ : Unit) (v : Value) (_ : World) : Prop := v = .tuple #[]

section
variable {w w' : World} {g i b : Nat} {s : ByteArray}
theorem Prs.lt (h : Prs w g s i b) : g < w.heap.size := row_lt h.blk
theorem Prs.cells (h : Prs w g s i b) : w.cell? ⟨g, 0, none⟩ = some (.string s) ∧ w.cell? ⟨g, 1, none⟩ = some (.int .i64 (i : Int)) ∧ w.cell? ⟨g, 2, none⟩ = some (.int .i64 (b : Int)) ∧ w.frozen? ⟨g, 1, none⟩ = false ∧ w.frozen? ⟨g, 2, none⟩ = false :=
  ⟨cell_of_row w g 0 _ _ _ h.blk, cell_of_row w g 1 _ _ _ h.blk, cell_of_row w g 2 _ _ _ h.blk, frozen_of_row w g 1 _ _ h.blk, frozen_of_row w g 2 _ _ h.blk⟩
theorem Prs.step (h : Prs w g s i b) {j : Nat} (hj : j ≤ s.size) : Prs (w.setCell ⟨g, 1, none⟩ (.int .i64 (j : Int))) g s j b := ⟨heap_setCell_same _ _ 1 _ _ _ h.blk, hj, h.fit, h.cnt⟩
theorem Prs.more (h : Prs w g s i b) {c : Nat} (hc : c ≤ 1000) : Prs (w.setCell ⟨g, 2, none⟩ (.int .i64 (c : Int))) g s i c := ⟨heap_setCell_same _ _ 2 _ _ _ h.blk, h.le, h.fit, hc⟩
theorem grown_drewN (w : World) (k : Nat) (r : Option Nat) : w.grownBy (w.drewN k) r := ⟨rfl, rfl, rfl, Nat.le_refl _, fun _ _ _ => rfl⟩
theorem grown_refl (w : World) (r : Option Nat) : w.grownBy w r := ⟨rfl, rfl, rfl, Nat.le_refl _, fun _ _ _ => rfl⟩
theorem grown_set (w : World) (g k : Nat) (v : Value) : w.grownBy (w.setCell ⟨g, k, none⟩ v) (some g) := ⟨rfl, rfl, rfl, by simp [World.setCell], fun x _ hx => heap_setCell_other _ _ _ _ (fun e => hx (by rw [e]))⟩
theorem Prs.drewN (h : Prs w g s i b) (k : Nat) : Prs (w.drewN k) g s i b := ⟨h.blk, h.le, h.fit, h.cnt⟩
end

set_option maxHeartbeats 400000 in
theorem fail_any (n e : Int) (w : World) :
    Calls Tryz.prog 28 #[.int .i64 n, .int .i64 e] w fun r w' => r = .panicked [{ v := .iface 45 (.agg #[.int .i64 n, .int .i64 e]), recovered := false }] ∧ w' = w := by
  go_enter Tryz.func28, Tryz.ntmps28
  go_wp2
  exact ⟨rfl, rfl, rfl⟩

set_option maxHeartbeats 400000 in
theorem reject_any {w : World} {g i b : Nat} {s : ByteArray} (h : Prs w g s i b) (h1 : 0 < i) :
    Calls Tryz.prog 73 #[.pointer (some ⟨g, 0, none⟩)] w fun r w' => r = .panicked [{ v := faultV (i - 1) 3, recovered := false }] ∧ w' = w := by
  obtain ⟨c0, c1, c2, f1, f2⟩ := h.cells
  have hl := h.le
  have hf := h.fit
  obtain ⟨k, hk⟩ : ∃ k, k = i - 1 := ⟨_, rfl⟩
  have hw : (i : Int) - 1 = (k : Int) := by omega
  rw [← hk]
  clear hk
  go_enter Tryz.func73, Tryz.ntmps73
  go_wp2_with fail
  refine (fail_any _ _ _).mono ?_
  rintro e w' ⟨rfl, rfl⟩
  exact ⟨rfl, rfl, rfl⟩

set_option maxHeartbeats 400000 in
theorem isBlank_any (c : Nat) (w : World) :
    Calls Tryz.prog 52 #[.int .u8 (c : Int)] w fun e w' => e = .returned (.bool (M.blank c)) ∧ w' = w := by
  go_enter Tryz.func52, Tryz.ntmps52
  go_wp2
  all_goals go_ret
  all_goals (refine ⟨?_, rfl⟩; first | (rw [M.blank_yes (by omega)]; rfl) | (rw [M.blank_no (by omega)]; rfl) | (rw [← M.blank_int]; rfl))

set_option maxRecDepth 100000 in
set_option maxHeartbeats 1000000 in
theorem take_any {w : World} {g i b : Nat} {s : ByteArray} (h : Prs w g s i b) :
    Calls Tryz.prog 75 #[.pointer (some ⟨g, 0, none⟩)] w (Ends g s isByte (M.take s i b) w) := by
  obtain ⟨c0, c1, c2, f1, f2⟩ := h.cells
  have hl := h.le
  have hf := h.fit
  by_cases hlt : i < s.size
  · rw [M.take_ok hlt]
    have hch := M.ch_at hlt
    have HP := Lib.hid h
    have he : ((i : Int) == (s.size : Int)) = false := by rw [beq_eq_false_iff_ne]; omega
    have i0 : (0 : Int) ≤ (i : Int) := by omega
    have i1 : (i : Int) < (s.size : Int) := by omega
    clear h
    go_enter Tryz.func75, Tryz.ntmps75
    go_wp2_with fail
    go_quiet (fail)
    go_wp2_with fail
    have hP1 : Prs ((w.drewN nq).setCell ⟨g, 1, none⟩ (.int .i64 ((i : Int) + 1))) g s (i + 1) b := (HP.out.drewN nq).step (j := i + 1) hlt
    have hg1 : w.grownBy ((w.drewN nq).setCell ⟨g, 1, none⟩ (.int .i64 ((i : Int) + 1))) (some g) := (grown_drewN w nq (some g)).trans (grown_set _ _ _ _)
    obtain ⟨d0, d1, -, -, -⟩ := hP1.cells
    have d1 : ((w.drewN nq).setCell ⟨g, 1, none⟩ (.int .i64 ((i : Int) + 1))).cell? ⟨g, 1, none⟩ = some (.int .i64 ((i : Int) + 1)) := d1
    have HP1 := Lib.hid hP1; have HG1 := Lib.hid hg1
    clear hP1 hg1 c0 c1 c2 f1 f2
    generalize (w.drewN nq).setCell ⟨g, 1, none⟩ (.int .i64 ((i : Int) + 1)) = W at *
    go_quiet (fail)
    go_wp2_with fail
    go_ret
    exact ⟨HG1.out.trans (grown_drewN _ _ _), _, rfl, HP1.out.drewN _, rfl⟩
  · obtain rfl : i = s.size := by omega
    rw [M.take_no (by omega)]
    clear h
    go_enter Tryz.func75, Tryz.ntmps75
    go_wp2_with fail
    go_quiet (fail)
    go_wp2_with fail
    refine (fail_any _ _ _).mono ?_
    rintro e w' ⟨rfl, rfl⟩
    exact ⟨rfl, grown_drewN _ _ _, rfl⟩

/-- The place in a parser's block. -/
def atOf (w : World) (g : Nat) : Nat := match w.cell? ⟨g, 1, none⟩ with | some (.int _ n) => n.toNat | _ => 0
theorem atOf_eq {w : World} {g i b : Nat} {s : ByteArray} (h : Prs w g s i b) : atOf w g = i := by unfold atOf; rw [h.cells.2.1]; exact Int.toNat_natCast i

set_option maxRecDepth 100000 in
set_option maxHeartbeats 1000000 in
theorem skip_any {w : World} {g i b : Nat} {s : ByteArray} (h : Prs w g s i b) :
    Calls Tryz.prog 27 #[.pointer (some ⟨g, 0, none⟩)] w fun e w' => e = .returned (.tuple #[]) ∧ Prs w' g s (M.skip s i) b ∧ w.grownBy w' (some g) := by
  have HP0 := Lib.hid h
  clear h
  go_enter Tryz.func27, Tryz.ntmps27
  go_wp2_with fail
  go_loopw [] (fun wr => ∃ j : Nat, Hid (Prs wr g s j b) ∧ Hid (w.grownBy wr (some g)) ∧ Hid (M.skip s j = M.skip s i)) (fun wr => s.size - atOf wr g)
  case atStart => exact ⟨i, HP0, Lib.hid (grown_refl _ _), Lib.hid rfl⟩
  case round =>
    clear HP0
    obtain ⟨j, HP, HG, HS⟩ := hrel
    obtain ⟨c0, c1, c2, f1, f2⟩ := HP.out.cells
    have hl := HP.out.le
    have hf := HP.out.fit
    have HAT := Lib.hid (atOf_eq HP.out)
    by_cases hlt : j < s.size
    · have hch := M.ch_at hlt
      have i0 : (0 : Int) ≤ (j : Int) := by omega
      have i1 : (j : Int) < (s.size : Int) := by omega
      cases hb : M.blank (M.ch s j) with
      | true =>
        have HB := Lib.hid hb
        have HS2 := Lib.hid (M.skip_yes hlt hb)
        clear hb
        go_wp2_with fail
        go_quiet (first | (go_at_call 52; refine Calls.quiet_of_same ((isBlank_any _ _).mono fun _ _ h => ⟨by rw [h.1, HB.out], h.2⟩)))
        go_wp2_with fail
        have hP1 : Prs ((wr.drewN nq).setCell ⟨g, 1, none⟩ (.int .i64 ((j : Int) + 1))) g s (j + 1) b := (HP.out.drewN nq).step (j := j + 1) hlt
        exact ⟨⟨j + 1, Lib.hid hP1, Lib.hid ((HG.out.trans (grown_drewN wr nq (some g))).trans (grown_set _ _ _ _)), Lib.hid (by rw [← HS2.out]; exact HS.out)⟩, by rw [atOf_eq hP1, HAT.out]; omega⟩
      | false =>
        have HB := Lib.hid hb
        have HS2 := Lib.hid (M.skip_no hb)
        clear hb
        go_wp2_with fail
        go_quiet (first | (go_at_call 52; refine Calls.quiet_of_same ((isBlank_any _ _).mono fun _ _ h => ⟨by rw [h.1, HB.out], h.2⟩)))
        go_wp2_with fail
        go_end0
        exact ⟨rfl, by rw [← HS.out, HS2.out]; exact HP.out.drewN nq, HG.out.trans (grown_drewN _ _ _)⟩
    · have he : decide ((j : Int) < (s.size : Int)) = false := by simp; omega
      have HS2 := Lib.hid (M.skip_end (s := s) (i := j) (by omega))
      go_wp2_with fail
      go_quiet (fail)
      go_wp2_with fail
      go_end0
      exact ⟨rfl, by rw [← HS.out, HS2.out]; exact HP.out.drewN nq, HG.out.trans (grown_drewN _ _ _)⟩

theorem Ends.step {α : Type} {g : Nat} {s : ByteArray} {R : α → Value → World → Prop} {r : Res α} {w w1 w' : World} {e : Ending} (h : Ends g s R r w1 e w') (hg : w.grownBy w1 (some g)) : Ends g s R r w e w' := ⟨hg.trans h.1, h.2⟩

set_option maxHeartbeats 400000 in
theorem vis_any {w : World} {g i b : Nat} {s : ByteArray} (h : Prs w g s i b) :
    Calls Tryz.prog 71 #[.pointer (some ⟨g, 0, none⟩)] w (Ends g s isByte (M.vis s i b) w) := by
  obtain ⟨r, hr⟩ : ∃ r, r = M.vis s i b := ⟨_, rfl⟩
  rw [← hr]
  have HR : Hid (M.take s (M.skip s i) b = r) := Lib.hid hr.symm
  clear hr
  go_enter Tryz.func71, Tryz.ntmps71
  go_wp2_with fail
  refine (skip_any h).mono ?_
  rintro e w1 ⟨rfl, h1, hg1⟩
  go_wp2_with fail
  refine (take_any h1).mono ?_
  rintro e w2 ⟨hg2, hm⟩
  have hgg := hg1.trans hg2
  rw [HR.out] at hm
  cases r with
  | no k er =>
    subst hm
    exact ⟨rfl, hgg, rfl⟩
  | ok c j b' =>
    obtain ⟨v, rfl, hP, rfl⟩ := hm
    go_wp2_with fail
    go_ret
    exact ⟨hgg, _, rfl, hP, rfl⟩end Go.Proofs.YtdkggnciamfcmaaGreatDoor
