/-
  Several texts in one: DOk DLawA DRefA DRefB DRefC DRefD DRefE DLawB.
-/
import Derived.Test.YtkodmhopollnpaaGreatDAllA
import Derived.Test.YtkodmhopollnpaaGreatDAllA
import Derived.Test.YtkodmhopollnpaaGreatRefC
import Derived.Deep.RegionHeld3
import Derived.StillTailTactics
import Derived.Deep.CutRange
import Derived.BigQuiet
import Derived.Test.YtkodmhopollnpaaGreatVWorks
namespace Go.Proofs.YtkodmhopollnpaaGreat.M

theorem okI {s : St} (h : s.ok) (x y : Int) : (s.int x y).2.ok := by
  unfold St.int
  split
  · exact h
  · split
    · exact fun _ => rfl
    · split
      · exact fun _ => rfl
      · exact fun e => absurd rfl e
theorem okT {s : St} (h : s.ok) (y : Int) : (s.text y).2.ok := by
  unfold St.text
  split
  · exact okI h 0 y
  · split
    · exact fun _ => rfl
    · exact fun e => absurd rfl e
theorem okF {s : St} (h : s.ok) (x : Int) : (s.fail x).ok := by
  unfold St.fail
  split
  · exact fun _ => rfl
  · exact h
theorem okN {s : St} (h : s.ok) : s.num.2.ok := okI h _ _
theorem okB {s : St} (h : s.ok) : s.bad.ok := okF h 3
theorem okS {s : St} (h : s.ok) : s.str.2.ok := okT h _
theorem okX {s : St} (h : s.ok) : (tx s).2.ok := by
  unfold tx
  show (if 4096 < s.str.1.size then s.str.2.bad else s.str.2).ok
  split
  · exact okB (okS h)
  · exact okS h
theorem okK {s : St} (h : s.ok) (ks : List ByteArray) : (kx s ks).2.ok := by
  unfold kx
  show (if after ks (tx s).1 = true then (tx s).2 else (tx s).2.bad).ok
  split
  · exact okX h
  · exact okB (okX h)
theorem okBx {s : St} (h : s.ok) : (bx s).2.ok := by
  unfold bx
  show (if s.num.1 = 0 ∨ s.num.1 = 1 then s.num.2 else s.num.2.bad).ok
  split
  · exact okN h
  · exact okB (okN h)
theorem okCx {s : St} (h : s.ok) : (cx s).2.ok := by
  unfold cx
  split
  · exact okB (okN h)
  · exact okN h
def Oks (rec : St → Nat → St × Nat × V) : Prop := ∀ s b, s.ok → (rec s b).1.ok
theorem dL_ok {rec : St → Nat → St × Nat × V} (h : Oks rec) : ∀ (n : Nat) (s : St) (b : Nat) (its : List V), s.ok → (dL rec n s b its).1.ok
  | 0, s, b, its, hs => by rw [dL_zero]; exact hs
  | n + 1, s, b, its, hs => by
    by_cases he : (rec s b).1.e = 0
    · rw [dL_live he]; exact dL_ok h n _ _ _ (h s b hs)
    · rw [dL_dead he]; exact h s b hs
theorem dP_ok {rec : St → Nat → St × Nat × V} (h : Oks rec) : ∀ (n : Nat) (s : St) (b : Nat) (ks : List ByteArray) (its : List V), s.ok → (dP rec n s b ks its).1.ok
  | 0, s, b, ks, its, hs => by rw [dP_zero]; exact hs
  | n + 1, s, b, ks, its, hs => by
    by_cases he : (rec (kx s ks).2 b).1.e = 0
    · rw [dP_live he]; exact dP_ok h n _ _ _ _ (h _ b (okK hs ks))
    · rw [dP_dead he]; exact h _ b (okK hs ks)
theorem dv_ok : ∀ f, Oks (dv f)
  | 0 => fun s b hs => by rw [dv_zero]; exact okB hs
  | f + 1 => fun s b hs => by
    by_cases hb : 1000 ≤ b
    · rw [dv_full hb]; exact okB hs
    · have hb' : b < 1000 := by omega
      have hn := okN hs
      rcases (show s.num.1 = 0 ∨ s.num.1 = 1 ∨ s.num.1 = 2 ∨ s.num.1 = 3 ∨ s.num.1 = 4 ∨ s.num.1 = 5 ∨ (s.num.1 < 0 ∨ 5 < s.num.1) by omega) with h | h | h | h | h | h | h
      · rw [dv_null hb' h]; exact hn
      · rw [dv_bool hb' h]; exact okBx hn
      · rw [dv_int hb' h]; exact okN hn
      · rw [dv_text hb' h]; exact okX hn
      · rw [dv_list hb' h]; exact dL_ok (dv_ok f) _ _ _ _ (okCx hn)
      · rw [dv_map hb' h]; exact dP_ok (dv_ok f) _ _ _ _ _ (okCx hn)
      · rw [dv_kind hb' h]; exact okB hn
end Go.Proofs.YtkodmhopollnpaaGreat.M

namespace Go.Proofs.YtkodmhopollnpaaGreat
set_option linter.unusedVariables false
open Go.RowKit
open M (V)

set_option maxHeartbeats 400000 in
theorem errNil (w : World) : Calls Tryz.prog 11 #[.pointer none] w fun e w' => e = .returned (.int .i64 1) ∧ w = w' := by
  go_enter Tryz.func11, Tryz.ntmps11
  go_wp2_with fail
  go_ret
  exact ⟨rfl, rfl⟩
set_option maxHeartbeats 400000 in
theorem intNil (w : World) (a b : Int) : Calls Tryz.prog 77 #[.pointer none, .int .i64 a, .int .i64 b] w fun e w' => e = .returned (.int .i64 0) ∧ w = w' := by
  go_enter Tryz.func77, Tryz.ntmps77
  go_wp2_with fail
  refine (errNil w).mono ?_
  rintro e w' ⟨rfl, rfl⟩
  go_wp2_with fail
  go_ret
  exact ⟨rfl, rfl⟩
set_option maxHeartbeats 400000 in
theorem integerNil {w : World} {D : Nat} (h : w.cell? ⟨D, 0, none⟩ = some (.pointer none)) : Calls Tryz.prog 49 #[.pointer (some ⟨D, 0, none⟩)] w fun e w' => e = .returned (.int .i64 0) ∧ w = w' := by
  go_enter Tryz.func49, Tryz.ntmps49
  go_wp2_with fail
  refine (intNil w _ _).mono ?_
  rintro e w' ⟨rfl, rfl⟩
  go_wp2_with fail
  go_ret
  exact ⟨rfl, rfl⟩
set_option maxHeartbeats 400000 in
theorem failedNil {w : World} {D : Nat} (h : w.cell? ⟨D, 0, none⟩ = some (.pointer none)) : Calls Tryz.prog 27 #[.pointer (some ⟨D, 0, none⟩)] w fun e w' => e = .returned (.bool true) ∧ w = w' := by
  go_enter Tryz.func27, Tryz.ntmps27
  go_wp2_with fail
  refine (errNil w).mono ?_
  rintro e w' ⟨rfl, rfl⟩
  go_wp2_with fail
  go_ret
  exact ⟨rfl, rfl⟩
-- The value that a nil reader gives: only the decoder's block changes.
set_option maxRecDepth 100000 in
set_option maxHeartbeats 4000000 in
theorem valueNil {w : World} {D : Nat} (h : w.heap[D]? = some (.cells #[.pointer none, .int .i64 0] 57 (0, 0))) :
    Calls Tryz.prog 26 #[.pointer (some ⟨D, 0, none⟩), .int .i64 1] w fun e w' => e = .returned (.agg #[.int .i64 0, .int .i64 0, .string ByteArray.empty, .slice none 0 0, .slice none 0 0]) ∧ w'.heap[D]? = some (.cells #[.pointer none, .int .i64 1] 57 (0, 0)) ∧ Below D w w' := by
  have c0 := cell_of_row w D 0 _ _ _ h
  have c1 := cell_of_row w D 1 _ _ _ h
  have c2 := frozen_of_row w D 1 _ _ h
  have hD := row_lt h
  have h1 : (w.setCell ⟨D, 1, none⟩ (.int .i64 1)).heap[D]? = some (.cells #[.pointer none, .int .i64 1] 57 (0, 0)) := heap_setCell_same _ _ 1 _ _ _ h
  have hb1 : Below D w (w.setCell ⟨D, 1, none⟩ (.int .i64 1)) := (Below.refl _ _).setCell (p := ⟨D, 1, none⟩) (Nat.le_refl _) _
  have hz1 := set_size w ⟨D, 1, none⟩ (.int .i64 1)
  obtain ⟨W1, hW1⟩ : ∃ W1, W1 = (w.setCell ⟨D, 1, none⟩ (.int .i64 1)).alloc (.cells #[.int .i64 0, .int .i64 0, .string ByteArray.empty, .slice none 0 0, .slice none 0 0] 31) := ⟨_, rfl⟩
  have hbox : W1.heap[w.heap.size]? = some (.cells #[.int .i64 0, .int .i64 0, .string ByteArray.empty, .slice none 0 0, .slice none 0 0] 31 (0, 0)) := by
    have := heap_alloc_new (w.setCell ⟨D, 1, none⟩ (.int .i64 1)) (.cells #[.int .i64 0, .int .i64 0, .string ByteArray.empty, .slice none 0 0, .slice none 0 0] 31)
    rw [hz1] at this; rw [hW1]; exact this
  have hd1 : W1.heap[D]? = some (.cells #[.pointer none, .int .i64 1] 57 (0, 0)) := by
    rw [hW1, Below.heap_alloc _ _ _ (by rw [hz1]; exact hD)]; exact h1
  have hb2 : Below D w W1 := by rw [hW1]; exact hb1.alloc (by rw [hz1]; omega) _
  have cc := cell_of_row W1 D 0 _ _ _ hd1
  have HW1 := Lib.hid hW1
  clear h hW1
  go_enter Tryz.func26, Tryz.ntmps26
  go_wp2_with fail
  change Calls _ _ _ ((w.setCell ⟨D, 1, none⟩ (.int .i64 1)).alloc (.cells #[.int .i64 0, .int .i64 0, .string ByteArray.empty, .slice none 0 0, .slice none 0 0] 31)) _
  rw [← HW1.out]
  refine (integerNil cc).mono ?_
  rintro e w' ⟨rfl, rfl⟩
  clear c0 c1 c2
  go_wp2_with fail
  refine (null_any _).mono ?_
  rintro e w3 ⟨rfl, hb3⟩
  have hbx := (hb3.block _ (row_lt hbox)).trans hbox
  have hdx := (hb3.block _ (row_lt hd1)).trans hd1
  have hb4 := hb2.trans (hb3.mono (Nat.le_of_lt (row_lt hd1)))
  obtain ⟨m0, m1, m2, m3, m4, f0, f1, f2, f3, f4⟩ := lit5 hbx
  have hlt9 := row_lt hbx
  have HBX := Lib.hid hbx; have HDX := Lib.hid hdx; have HB4 := Lib.hid hb4
  clear hbx hdx hb4 hbox hd1 hb2 cc
  go_wp2_with fail
  have hfin := lit_stored HBX.out (.int .i64 0) (.int .i64 0) (.string ByteArray.empty) (.slice none 0 0) (.slice none 0 0)
  refine bodyPost_ret (v := .agg #[.int .i64 0, .int .i64 0, .string ByteArray.empty, .slice none 0 0, .slice none 0 0]) (results_cell_row Tryz.results26 _ _ w.heap.size 31 _ (0, 0) _ rfl hfin Tryz.underlying31 rfl (by kernel_rfl)) rfl ?_
  exact ⟨rfl, (stored_other _ _ _ _ _ _ _ _ (by omega)).trans HDX.out, stored_below HB4.out (by omega) _ _ _ _ _⟩

set_option maxRecDepth 100000 in
set_option maxHeartbeats 4000000 in
theorem decodeNil (w : World) :
    Calls Tryz.prog 8 #[.pointer none] w fun e w' => e = .returned (.agg #[.int .i64 0, .int .i64 0, .string ByteArray.empty, .slice none 0 0, .slice none 0 0]) ∧ Below w.heap.size w w' := by
  have hb0 : Below (w.heap.size + 2) ((w.alloc (.cells #[.int .i64 0, .int .i64 0, .string ByteArray.empty, .slice none 0 0, .slice none 0 0] 31)).alloc (.cells #[.pointer none, .int .i64 0] 57)) _ := Below.refl _ _
  obtain ⟨q0, q1⟩ := two_heap hb0 (Nat.le_refl _)
  have hcall := valueNil q1
  have hbw := two_below hb0
  have HC := Lib.hid hcall; have HQ := Lib.hid q0; have HBW := Lib.hid hbw
  clear q0 q1 hcall hbw hb0
  go_enter Tryz.func8, Tryz.ntmps8
  go_wp2_with fail
  refine HC.out.mono ?_
  rintro e w2 ⟨rfl, hd, hb⟩
  have hz := (hb.block w.heap.size (by omega)).trans HQ.out
  have hbb : Below w.heap.size w w2 := HBW.out.trans (hb.mono (by omega))
  have hl := row_lt hd
  have hbox := box_refl w2 (.cells #[.int .i64 0, .int .i64 0, .string ByteArray.empty, .slice none 0 0, .slice none 0 0] 31)
  have hd3 := ((box_below hbox).block _ hl).trans hd
  have hz3 := ((box_below hbox).block w.heap.size (by omega)).trans hz
  have hb3 := hbb.trans ((box_below hbox).mono (by omega))
  have hsz := box_size hbox
  have cc := cell_of_row _ _ 0 _ _ _ hd3
  have HZ := Lib.hid hz3; have HB := Lib.hid hb3
  clear hbox hz hbb hd hd3 hz3 hb3 hb HC HQ HBW
  go_wp2_with fail
  refine (failedNil cc).mono ?_
  rintro e w' ⟨rfl, rfl⟩
  go_wp2_with fail
  refine (null_any _).mono ?_
  rintro e w3 ⟨rfl, hb3⟩
  have hz4 := (hb3.block w.heap.size (by omega)).trans HZ.out
  have hb4 := HB.out.trans (hb3.mono (by omega))
  obtain ⟨m0, m1, m2, m3, m4, f0, f1, f2, f3, f4⟩ := lit5 hz4
  have hlt9 := row_lt hz4
  have HZ4 := Lib.hid hz4; have HB4 := Lib.hid hb4
  clear hz4 hb4 cc hb3
  go_wp2_with fail
  have hfin := lit_stored HZ4.out (.int .i64 0) (.int .i64 0) (.string ByteArray.empty) (.slice none 0 0) (.slice none 0 0)
  refine bodyPost_ret (v := .agg #[.int .i64 0, .int .i64 0, .string ByteArray.empty, .slice none 0 0, .slice none 0 0]) (results_cell_row Tryz.results8 _ _ w.heap.size 31 _ (0, 0) _ rfl hfin Tryz.underlying31 rfl (by kernel_rfl)) rfl ?_
  exact ⟨rfl, stored_below HB4.out (Nat.le_refl _) _ _ _ _ _⟩
end Go.Proofs.YtkodmhopollnpaaGreat

namespace Go.Proofs.YtkodmhopollnpaaGreat
set_option linter.unusedVariables false
open Go.RowKit
open M (V)

/-- The reference's decoder in block D, over the reader in block g. -/
structure Rdc (w : World) (lo g D : Nat) (s : M.St) (b : Nat) : Prop where
  rd : RfX w lo g s
  blk : w.heap[D]? = some (.cells #[.pointer (some ⟨g, 0, none⟩), .int .i64 (b : Int)] 61 (0, 0))
  lt : g < D
  low : lo ≤ g
section
variable {w w' : World} {lo g D : Nat} {s s' : M.St} {b : Nat}
theorem Rdc.kept (h : Rdc w lo g D s b) (k : Kept lo (D + 1) w w') : Rdc w' lo g D s b :=
  ⟨h.rd.kept (fun x h1 h2 => k x h1 (by have := h.lt; omega)), (k D (by have := h.lt; have := h.low; omega) (by omega)).trans h.blk, h.lt, h.low⟩
theorem Rdc.next (h : Rdc w lo g D s b) (hr : RfX w' lo g s') (hg : w.grownBy w' (some g)) : Rdc w' lo g D s' b :=
  ⟨hr, (hg.block D (row_lt h.blk) (fun e => by injection e with e; have := h.lt; omega)).trans h.blk, h.lt, h.low⟩
theorem Rdc.size (h : Rdc w lo g D s b) : D < w.heap.size := row_lt h.blk
theorem Rdc.cells (h : Rdc w lo g D s b) : w.cell? ⟨D, 0, none⟩ = some (.pointer (some ⟨g, 0, none⟩)) ∧ w.cell? ⟨D, 1, none⟩ = some (.int .i64 (b : Int)) ∧ w.frozen? ⟨D, 1, none⟩ = false :=
  ⟨cell_of_row w D 0 _ _ _ h.blk, cell_of_row w D 1 _ _ _ h.blk, frozen_of_row w D 1 _ _ h.blk⟩
theorem Rdc.frm (h : Rdc w lo g D s b) (hg : w.grownBy w' (some g)) : Frm w.heap.size g (D + 1) w w' := Frm.of_only hg
theorem Rdc.below (h : Rdc w lo g D s b) (hb : Below w.heap.size w w') : Rdc w' lo g D s b := h.kept (Kept.of_below hb h.size)
end

def NewR (lo g D : Nat) (s : M.St) (b : Nat) (v : Value) (w : World) (e : Ending) (w' : World) : Prop := e = .returned v ∧ Rdc w' lo g D s b ∧ Frm w.heap.size g (D + 1) w w'

set_option maxHeartbeats 400000 in
theorem number_any {w : World} {lo g D b : Nat} {s : M.St} (h : Rdc w lo g D s b) :
    Calls Tryz.prog 56 #[.pointer (some ⟨D, 0, none⟩)] w (NewR lo g D s.num.2 b (.int .i64 s.num.1) w) := by
  obtain ⟨c0, -, -⟩ := h.cells
  go_enter Tryz.func56, Tryz.ntmps56
  go_wp2_with fail
  refine (rIntX _ _ h.rd).mono ?_
  rintro e w1 ⟨rfl, h1, hg⟩
  have HD := Lib.hid h
  clear h c0
  go_wp2_with fail
  go_ret
  exact ⟨rfl, HD.out.next h1 hg, HD.out.frm hg⟩

/-- check. -/
def ck (s : M.St) (ok : Bool) : M.St := if ok = true then s else s.bad
theorem ck_dead {s : M.St} (h : s.e ≠ 0) (ok : Bool) : ck s ok = s := by unfold ck; split; rfl; exact M.bad_dead h
set_option maxHeartbeats 400000 in
theorem check_any {w : World} {lo g D b : Nat} {s : M.St} (ok : Bool) (h : Rdc w lo g D s b) :
    Calls Tryz.prog 55 #[.pointer (some ⟨D, 0, none⟩), .bool ok] w (NewR lo g D (ck s ok) b (.tuple #[]) w) := by
  obtain ⟨c0, -, -⟩ := h.cells
  cases ok with
  | true =>
    go_enter Tryz.func55, Tryz.ntmps55
    go_wp2_with fail
    go_end0
    exact ⟨rfl, h, Frm.refl _ _ _ _⟩
  | false =>
    go_enter Tryz.func55, Tryz.ntmps55
    go_wp2_with fail
    refine (rFailX _ h.rd).mono ?_
    rintro e w1 ⟨rfl, h1, hg⟩
    have HD := Lib.hid h
    clear h c0
    go_wp2_with fail
    go_end0
    exact ⟨rfl, HD.out.next h1 hg, HD.out.frm hg⟩

set_option maxHeartbeats 400000 in
theorem good_any {w : World} {lo g D b : Nat} {s : M.St} (h : Rdc w lo g D s b) :
    Calls Tryz.prog 30 #[.pointer (some ⟨D, 0, none⟩)] w fun e w' => e = .returned (.bool (s.e == 0)) ∧ w = w' := by
  obtain ⟨c0, -, -⟩ := h.cells
  go_enter Tryz.func30, Tryz.ntmps30
  go_wp2_with fail
  refine (rErrX h.rd).mono ?_
  rintro e w1 ⟨rfl, rfl⟩
  go_wp2_with fail
  go_ret
  exact ⟨rfl, rfl⟩

set_option maxHeartbeats 1000000 in
theorem rtext_any {w : World} {lo g D b : Nat} {s : M.St} (h : Rdc w lo g D s b) (hs : s.l.length ≤ 100000000) :
    Calls Tryz.prog 57 #[.pointer (some ⟨D, 0, none⟩)] w (NewR lo g D (M.tx s).2 b (.string (M.tx s).1) w) := by
  obtain ⟨c0, -, -⟩ := h.cells
  have hl := (M.str_len s).2
  have HT : Hid ((M.tx s).2 = ck s.str.2 (decide ((s.str.1.size : Int) ≤ 4096))) := Lib.hid (by
    unfold M.tx ck
    by_cases hb : 4096 < s.str.1.size
    · rw [if_pos hb, if_neg (by simp; omega)]
    · rw [if_neg hb, if_pos (by simp; omega)])
  go_enter Tryz.func57, Tryz.ntmps57
  go_wp2_with fail
  refine (rTextX _ h.rd).mono ?_
  rintro e w1 ⟨rfl, h1, hg⟩
  rw [str_eq]
  have HD := Lib.hid (h.next h1 hg)
  have HF := Lib.hid (h.frm hg)
  clear h c0 h1 hg
  go_wp2_with fail
  refine (check_any _ HD.out).mono ?_
  rintro e w2 ⟨rfl, h2, h3⟩
  have H2 := Lib.hid h2
  have H3 := Lib.hid h3
  clear h2 h3
  go_wp2_with fail
  go_ret
  exact ⟨rfl, by rw [HT.out]; exact H2.out, HF.out.step H3.out⟩
end Go.Proofs.YtkodmhopollnpaaGreat

namespace Go.Proofs.YtkodmhopollnpaaGreat
set_option linter.unusedVariables false
open Go.RowKit
open M (V)

/-- What the reference's decoder returns: the value, if there is no error. -/
def NewRv (d lo g D : Nat) (r : M.St × Nat × V) (w : World) (e : Ending) (w' : World) : Prop := ∃ (k n : Int) (t : ByteArray) (A : Option Addr) (m c : Nat) (B : Option Addr) (p q b' : Nat), e = .returned (.agg #[.int .i64 k, .int .i64 n, .string t, .slice A m c, .slice B p q]) ∧ Rdc w' lo g D r.1 b' ∧
  (r.1.e = 0 → b' = r.2.1 ∧ VB w' w.heap.size w'.heap.size d (.agg #[.int .i64 k, .int .i64 n, .string t, .slice A m c, .slice B p q]) r.2.2) ∧ Frm w.heap.size g (D + 1) w w'
def rvalAt (f : Nat) : Prop := ∀ (lo g D b : Nat) (s : M.St) (depth : Int) (w : World), depth = 17 - (f : Int) → Rdc w lo g D s b → b ≤ 1000 → s.l.length ≤ 100000000 →
  Calls Tryz.prog 29 #[.pointer (some ⟨D, 0, none⟩), .int .i64 depth] w (NewRv (f + 1) lo g D (M.dv f s b) w)

theorem ritems_end {w wr : World} {lo g D d b : Nat} {s : M.St} {k n : Int} {t : ByteArray} {A B : Option Addr} {m c p e : Nat} {R : M.St × Nat × V} (hsz : D < w.heap.size) (hD : Rdc wr lo g D s b) (hF : Frm w.heap.size g (D + 1) w wr) (hh : w.heap.size + 2 ≤ wr.heap.size)
    (hR : Hid (R.1 = s ∧ (s.e = 0 → b = R.2.1 ∧ VB wr (w.heap.size + 2) wr.heap.size d (.agg #[.int .i64 k, .int .i64 n, .string t, .slice A m c, .slice B p e]) R.2.2))) :
    NewRv d lo g D R w (.returned (.agg #[.int .i64 k, .int .i64 n, .string t, .slice A m c, .slice B p e])) (stored wr (w.heap.size + 1) (.int .i64 k) (.int .i64 n) (.string t) (.slice A m c) (.slice B p e)) := by
  obtain ⟨h1, h2⟩ := hR.out
  have hs := stored_size wr (w.heap.size + 1) (.int .i64 k) (.int .i64 n) (.string t) (.slice A m c) (.slice B p e)
  refine ⟨_, _, _, _, _, _, _, _, _, b, rfl, ?_, fun he => ⟨?_, ?_⟩, ((((hF.set (.inr (Nat.le_succ _)) _).set (.inr (Nat.le_succ _)) _).set (.inr (Nat.le_succ _)) _).set (.inr (Nat.le_succ _)) _).set (.inr (Nat.le_succ _)) _⟩
  · rw [h1]
    exact hD.kept fun x h1 h2 => stored_other _ _ _ _ _ _ _ _ (by omega)
  · exact (h2 (by rw [← h1]; exact he)).1
  · exact ((h2 (by rw [← h1]; exact he)).2.kept fun x h1 h2 => stored_other _ _ _ _ _ _ _ _ (by omega)).weak (by omega) (by rw [hs]; omega)

set_option maxRecDepth 100000 in
set_option maxHeartbeats 8000000 in
theorem ritems_list {f : Nat} (ih : rvalAt f) {lo g D b : Nat} {s : M.St} {depth : Int} {w : World} (hd : depth = 16 - (f : Int)) (hf : f ≤ 16) (h : Rdc w lo g D s b) (hb : b ≤ 1000) (hs : s.l.length ≤ 100000000) :
    Calls Tryz.prog 58 #[.pointer (some ⟨D, 0, none⟩), .agg #[.int .i64 4, .int .i64 0, .string ByteArray.empty, .slice none 0 0, .slice none 0 0], .int .i64 depth] w (NewRv (f + 2) lo g D (lres (M.dL (M.dv f) (M.cx s).1 (M.cx s).2 b [])) w) := by
  have IH := Lib.hid ih
  have hq : IntKind.i64.wrap (depth + 1) = depth + 1 := IntWalk.i64_in _ (by omega)
  have HDE := Lib.hid hd
  have hsz := h.size
  have hgD := h.lt
  have hb0 : Below (w.heap.size + 2) ((w.alloc (.cells #[.int .i64 4, .int .i64 0, .string ByteArray.empty, .slice none 0 0, .slice none 0 0] 31)).alloc (.cells #[.int .i64 0, .int .i64 0, .string ByteArray.empty, .slice none 0 0, .slice none 0 0] 31)) _ := Below.refl _ _
  have HH := Lib.hid h
  have hfr0 : Frm w.heap.size g (D + 1) w ((w.alloc (.cells #[.int .i64 4, .int .i64 0, .string ByteArray.empty, .slice none 0 0, .slice none 0 0] 31)).alloc (.cells #[.int .i64 0, .int .i64 0, .string ByteArray.empty, .slice none 0 0, .slice none 0 0] 31)) := Frm.of_below (two_below hb0)
  have hz0 := two_size hb0
  have hni := M.int_in s
  have hnl := M.num_len s
  obtain ⟨q0, q1⟩ := two_heap hb0 (Nat.le_refl _)
  have HQ0 := Lib.hid q0; have HQ1 := Lib.hid q1
  obtain ⟨n, hn⟩ : ∃ n, n = s.num.1 := ⟨_, rfl⟩
  have hnum := number_any (HH.out.below (two_below hb0))
  rw [← hn] at hnum hni
  have HNUM := Lib.hid hnum
  have HN := Lib.hid hn
  clear ih hd h q0 q1 hnum hn
  by_cases hr : n < 0 ∨ 1000 < n
  · have HR : Hid (M.dL (M.dv f) (M.cx s).1 (M.cx s).2 b [] = (s.num.2.bad, b, [])) := Lib.hid (by
      unfold M.cx; rw [← HN.out, if_pos hr, M.dL_zero])
    have HBE := Lib.hid (M.bad_e s.num.2)
    have haI : ∃ (aI : Option Addr) (nI kI : Nat), aI = none ∧ nI = 0 ∧ kI = 0 := ⟨_, _, _, rfl, rfl, rfl⟩
    rcases (show n < 0 ∨ (0 ≤ n ∧ 1000 < n) by omega) with hn | ⟨hn0, hn⟩
    all_goals
      clear hr
      go_enter Tryz.func58, Tryz.ntmps58
      go_wp2_with fail
      refine HNUM.out.mono ?_
      rintro e w1 ⟨rfl, h1, hf1⟩
      have H1 := Lib.hid h1; have HF1 := Lib.hid hf1
      clear h1 hf1
      go_wp2_with fail
      refine (check_any _ H1.out).mono ?_
      rintro e w2 ⟨rfl, h2, hf2⟩
      rw [show ck s.num.2 _ = s.num.2.bad from if_neg (by simp; try omega)] at h2
      have hz1 := HF1.out.size
      have hz2 := hf2.size
      have HD : Hid (Rdc w2 lo g D s.num.2.bad b) := Lib.hid h2
      have HF : Hid (Frm w.heap.size g (D + 1) w w2) := Lib.hid ((hfr0.trans HF1.out (by omega)).trans hf2 (by omega))
      have HX : Hid (w2.heap[w.heap.size]? = some (.cells #[.int .i64 4, .int .i64 0, .string ByteArray.empty, .slice none 0 0, .slice none 0 0] 31 (0, 0))) := Lib.hid ((hf2.blk w.heap.size (by omega) ⟨by omega, by omega⟩).trans ((HF1.out.blk w.heap.size (by omega) ⟨by omega, by omega⟩).trans HQ0.out))
      have HZ : Hid (w2.heap[w.heap.size + 1]? = some (.cells #[.int .i64 0, .int .i64 0, .string ByteArray.empty, .slice none 0 0, .slice none 0 0] 31 (0, 0))) := Lib.hid ((hf2.blk (w.heap.size + 1) (by omega) ⟨by omega, by omega⟩).trans ((HF1.out.blk (w.heap.size + 1) (by omega) ⟨by omega, by omega⟩).trans HQ1.out))
      have hhi : w.heap.size + 2 ≤ w2.heap.size := by omega
      have hhlt : w2.heap.size > w.heap.size + 1 := by omega
      have hgood : (s.num.2.bad.e == 0) = false := by rw [beq_eq_false_iff_ne]; exact HBE.out
      have HGD := Lib.hid hgood
      obtain ⟨aI, nI, kI, hA1, hA2, hA3⟩ := haI
      clear h2 hf2 hfr0 hb0 hgood
      subst hA1 hA2 hA3
      obtain ⟨m0, m1, m2, m3, m4, -⟩ := lit5 HX.out
      obtain ⟨g0, g1, g2', g3, g4, e0, e1, e2, e3, e4⟩ := lit5 HZ.out
      go_wp2_with fail
      refine wp_loop_rounds 1 ?_
      rw [rounds_succ]
      go_wp2_with (go_at_call 30; refine (good_any HD.out).mono ?_; rintro e wg ⟨rfl, rfl⟩; rw [HGD.out])
      have hfin := lit_stored HZ.out (.int .i64 4) (.int .i64 0) (.string ByteArray.empty) (.slice none 0 0) (.slice none 0 0)
      refine bodyPost_ret (v := .agg #[.int .i64 4, .int .i64 0, .string ByteArray.empty, .slice none 0 0, .slice none 0 0]) (results_cell_row Tryz.results58 _ _ (w.heap.size + 1) 31 _ (0, 0) _ rfl hfin Tryz.underlying31 rfl (by kernel_rfl)) rfl ?_
      exact ritems_end hsz HD.out HF.out hhi (Lib.hid ⟨by rw [HR.out]; rfl, fun h => absurd h HBE.out⟩)
  · obtain ⟨N, rfl⟩ := Int.eq_ofNat_of_zero_le (show 0 ≤ n by omega)
    have hN2 : N ≤ 1000 := by omega
    obtain ⟨S0, hS0⟩ : ∃ S0, S0 = s.num.2 := ⟨_, rfl⟩
    have HCX : Hid (M.cx s = (N, S0)) := Lib.hid (by unfold M.cx; rw [← HN.out, if_neg hr, hS0, Int.toNat_natCast])
    obtain ⟨R, hR0⟩ : ∃ R, R = M.dL (M.dv f) N S0 b [] := ⟨_, rfl⟩
    have HRF : Hid (M.dL (M.dv f) (M.cx s).1 (M.cx s).2 b [] = R) := Lib.hid (by rw [HCX.out]; exact hR0.symm)
    have hSl : S0.l.length ≤ 100000000 := by rw [hS0]; omega
    rw [← hS0] at HNUM
    have HR := Lib.hid hR0.symm
    clear hS0 hR0 HCX HN hni hnl hr
    go_enter Tryz.func58, Tryz.ntmps58
    go_wp2_with fail
    refine HNUM.out.mono ?_
    rintro e w1 ⟨rfl, h1, hf1⟩
    have H1 := Lib.hid h1; have HF1 := Lib.hid hf1
    clear h1 hf1
    go_wp2_with fail
    refine (check_any _ H1.out).mono ?_
    rintro e w2 ⟨rfl, h2, hf2⟩
    rw [show ck S0 _ = S0 from if_pos (by simp; try omega)] at h2
    have hz1 := HF1.out.size
    have hz2 := hf2.size
    have HD0 : Hid (Rdc w2 lo g D S0 b) := Lib.hid h2
    have HF0 : Hid (Frm w.heap.size g (D + 1) w w2) := Lib.hid ((hfr0.trans HF1.out (by omega)).trans hf2 (by omega))
    have hx0 : w2.heap[w.heap.size]? = some (.cells #[.int .i64 4, .int .i64 0, .string ByteArray.empty, .slice none 0 0, .slice none 0 0] 31 (0, 0)) := (hf2.blk w.heap.size (by omega) ⟨by omega, by omega⟩).trans ((HF1.out.blk w.heap.size (by omega) ⟨by omega, by omega⟩).trans HQ0.out)
    have HZ0 : Hid (w2.heap[w.heap.size + 1]? = some (.cells #[.int .i64 0, .int .i64 0, .string ByteArray.empty, .slice none 0 0, .slice none 0 0] 31 (0, 0))) := Lib.hid ((hf2.blk (w.heap.size + 1) (by omega) ⟨by omega, by omega⟩).trans ((HF1.out.blk (w.heap.size + 1) (by omega) ⟨by omega, by omega⟩).trans HQ1.out))
    have HG0 : Hid (S0.e = 0 → Grw w2 (w.heap.size + 2) w.heap.size (f + 1) (.int .i64 4) (.int .i64 0) (.string ByteArray.empty) (.slice none 0 0) (.slice none 0 0) [] [] [] 31 ∧ ([] : List V).length = 0 ∧ b ≤ 1000 ∧ M.dL (M.dv f) (N - 0) S0 b [] = R) := Lib.hid (fun _ => ⟨Grw.start hx0 (by omega) (by omega), rfl, hb, HR.out⟩)
    have HX0 := Lib.hid hx0
    have HDD : Hid (S0.e ≠ 0 → R.1 = S0) := Lib.hid (fun h => by
      rw [← HR.out]
      cases N with
      | zero => rw [M.dL_zero]
      | succ N =>
        have h1 := M.dv_dead (f := f) (b := b) h
        rw [M.dL_dead (by rw [h1]; exact h)]
        exact h1)
    have hhi0 : w.heap.size + 2 ≤ w2.heap.size := by omega
    clear h2 hf2 hfr0 hx0 hb0 HF1 H1 HNUM HQ0 HQ1 hb HR
    go_wp2_with fail
    go_loopw [8] (fun y wr => ∃ (j : Nat) (aI : Option Addr) (nI kI : Nat) (cI : List Value) (its : List V) (sj : M.St) (bj : Nat), y = .int .i64 j ∧ j ≤ N ∧ Hid (wr.heap[w.heap.size]? = some (.cells #[.int .i64 4, .int .i64 0, .string ByteArray.empty, .slice aI nI kI, .slice none 0 0] 31 (0, 0))) ∧
        Hid (sj.e = 0 → Grw wr (w.heap.size + 2) w.heap.size (f + 1) (.int .i64 4) (.int .i64 0) (.string ByteArray.empty) (.slice aI nI kI) (.slice none 0 0) cI [] its 31 ∧ its.length = j ∧ bj ≤ 1000 ∧ M.dL (M.dv f) (N - j) sj bj its = R) ∧ Hid (sj.e ≠ 0 → R.1 = sj) ∧
        Hid (wr.heap[w.heap.size + 1]? = some (.cells #[.int .i64 0, .int .i64 0, .string ByteArray.empty, .slice none 0 0, .slice none 0 0] 31 (0, 0))) ∧ Hid (Rdc wr lo g D sj bj) ∧ sj.l.length ≤ 100000000 ∧ Hid (Frm w.heap.size g (D + 1) w wr) ∧ w.heap.size + 2 ≤ wr.heap.size) (fun y _ => N - (intOf y).toNat)
    case atStart => exact ⟨0, _, _, _, [], [], S0, b, rfl, by omega, HX0, HG0, HDD, HZ0, HD0, hSl, HF0, hhi0⟩
    case round =>
      clear HX0 HG0 HDD HZ0 HD0 hSl HF0 hhi0 hz1 hz2
      obtain ⟨j, aI, nI, kI, cI, its, sj, bj, rfl, hj, HX, HG, HDD, HZ, HD, hsj, HF, hhi⟩ := hrel
      obtain ⟨m0, m1, m2, m3, m4, -⟩ := lit5 HX.out
      obtain ⟨g0, g1, g2', g3, g4, e0, e1, e2, e3, e4⟩ := lit5 HZ.out
      have hhlt : wr.heap.size > w.heap.size + 1 := by omega
      by_cases he : sj.e = 0
      · have hgd : (sj.e == 0) = true := by simpa using he
        have HGD := Lib.hid hgd
        have hgr := HG.out he
        have HGR := Lib.hid hgr.1; have HL := Lib.hid hgr.2.1; have hbj := hgr.2.2.1; have HE := Lib.hid hgr.2.2.2
        have HSE := Lib.hid he
        clear hgd hgr HG HDD he
        by_cases hlt : j < N
        · obtain ⟨⟨s', b', t⟩, hr⟩ : ∃ r, r = M.dv f sj bj := ⟨_, rfl⟩
          have hsm := M.dv_small f sj bj
          rw [← hr] at hsm
          have HSM : Hid (s'.l.length ≤ 100000000 ∧ b' ≤ 1000) := Lib.hid ⟨Nat.le_trans hsm.1 hsj, hsm.2 hbj⟩
          have hcall : Calls Tryz.prog 29 #[.pointer (some ⟨D, 0, none⟩), .int .i64 (depth + 1)] wr.drew (NewRv (f + 1) lo g D (s', b', t) wr.drew) := by
            rw [hr]
            exact IH.out lo g D bj sj (depth + 1) wr.drew (by have := HDE.out; omega) (HD.out.kept fun _ _ _ => rfl) hbj hsj
          have HC := Lib.hid hcall
          have HRR := Lib.hid hr
          clear hcall hr hsm
          go_wp2_with (go_at_call 30; refine (good_any HD.out).mono ?_; rintro e wg ⟨rfl, rfl⟩; rw [HGD.out])
          go_region_law (first
            | (refine step_push_val rfl (.tmp 59) (.tmp 64) rfl (w.heap.size + 2) its.length w5.heap.size (.slice aI nI kI) cI k3 n3 t3 _ _ _ _ _ _ _ _ ?_ ?_ ?_ (Array.getElem?_push_size ..) ?_ ?_ ?_
               · simp [Act.eval]
               · exact (HG2.out.ov).alloc _
               · simp [Act.eval]
               · have := HL.out; omega
               · simp; omega
               intro g6 cap6 wn hn1 hn2 hn3 hn4
               obtain ⟨hn5, hn6⟩ := field_after (f := 3) HG2.out.box rfl (grown_alloc w5 _) hn2 HG2.out.ne1)
            | (go_simp; go_at_call 29
               refine HC.out.mono ?_
               rintro e w5 ⟨k3, n3, t3, A3, m3', c3, B3, p3, q3, b3, rfl, hD2, hV2, hF2⟩
               have hFw : Frm wr.heap.size g (D + 1) wr w5 := ⟨hF2.os, hF2.tape, hF2.output, hF2.size, hF2.blk⟩
               have HG2 := Lib.hid (HGR.out.frm hFw (by omega) (by omega))
               have HF2 := Lib.hid hFw
               have hz2 := hFw.size
               have HV2 := Lib.hid hV2
               have HD2 := Lib.hid hD2
               have hms3 : w5.heap.size > w.heap.size + 1 := by omega
               have hms4 : w5.heap.size > w.heap.size := by omega
               obtain ⟨n0, n1, n2, n3', n4, -⟩ := lit5 HG2.out.box
               clear hV2 hD2 hF2 hFw))
          all_goals (
            have hn3' : (Value.slice aI nI kI).ownBlock = some g6 ∨ w5.heap.size + 1 ≤ g6 := hn3.imp id (fun h => by simpa using h)
            obtain ⟨p1, p2, p3'⟩ := push_frame (l := g) (B := D + 1) (M := w.heap.size) (base := w.heap.size + 2) (f := 3) (u := .slice (some ⟨g6, 0, none⟩) (its.length + 1) cap6) (by omega) (by omega) hn2 (fun k hk => (HG2.out.ov.lt _ hk).1)
            have hbx := (hn2.block w.heap.size (by simp only [World.size_alloc]; omega) HG2.out.ne1).trans (((grown_alloc w5 _).block w.heap.size hms4 (by simp)).trans HG2.out.box)
            have HX4 := Lib.hid (heap_setCell_same _ _ 3 _ _ (Value.slice (some ⟨g6, 0, none⟩) (its.length + 1) cap6) hbx)
            have HG4 : Hid (s'.e = 0 → Grw (wn.setCell ⟨w.heap.size, 3, none⟩ (.slice (some ⟨g6, 0, none⟩) (its.length + 1) cap6)) (w.heap.size + 2) w.heap.size (f + 1) (.int .i64 4) (.int .i64 0) (.string ByteArray.empty) (.slice (some ⟨g6, 0, none⟩) (its.length + 1) cap6) (.slice none 0 0) (cI ++ [.int .i64 k3, .int .i64 n3, .string t3, .slice A3 m3' c3, .slice B3 p3 q3]) [] (its ++ [t]) 31 ∧ (its ++ [t]).length = j + 1 ∧ b3 ≤ 1000 ∧ M.dL (M.dv f) (N - (j + 1)) s' b3 (its ++ [t]) = R) := Lib.hid (fun he => by
              obtain ⟨e1, e2⟩ := HV2.out he
              refine ⟨HGR.out.item HF2.out (by omega) (by omega) e2 hn1 hn2 hn3', by rw [List.length_append, HL.out]; rfl, by rw [e1]; exact HSM.out.2, ?_⟩
              have h1 := HE.out
              rw [show N - j = (N - (j + 1)) + 1 by omega, M.dL_live (by rw [← HRR.out]; exact he), ← HRR.out] at h1
              rw [e1]
              exact h1)
            have HDD4 : Hid (s'.e ≠ 0 → R.1 = s') := Lib.hid (fun he => by
              have h1 := HE.out
              rw [show N - j = (N - (j + 1)) + 1 by omega, M.dL_dead (by rw [← HRR.out]; exact he), ← HRR.out] at h1
              rw [← h1])
            have HD4 := Lib.hid (HD2.out.kept fun b h1 h2 => p1 b (by omega) (by omega))
            have HZ4 : Hid (_ = some (Obj.cells #[.int .i64 0, .int .i64 0, .string ByteArray.empty, .slice none 0 0, .slice none 0 0] 31 (0, 0))) := Lib.hid ((p1 (w.heap.size + 1) (by omega) (by omega)).trans ((HF2.out.blk (w.heap.size + 1) (by omega) ⟨by omega, by omega⟩).trans HZ.out))
            have HF4 := Lib.hid ((HF.out.trans HF2.out (by omega)).trans p2 (by omega))
            have hhi4 : w.heap.size + 2 ≤ (wn.setCell ⟨w.heap.size, 3, none⟩ (.slice (some ⟨g6, 0, none⟩) (its.length + 1) cap6)).heap.size := by omega
            clear hn1 hn2 hn3 hn3' hn4 hn5 hn6 p1 p2 p3' hbx m0 m1 m2 m3 m4 n0 n1 n2 n3' n4 HG2 HD HZ HF HX HD2 HV2 HF2 HC hms3 hms4 hz2 HE HGR g0 g1 g2' g3 g4 e0 e1 e2 e3 e4
            generalize (wn.setCell ⟨w.heap.size, 3, none⟩ _) = wf at *
            obtain ⟨hs', hb'⟩ := HSM.out
            go_wp2_with fail
            exact ⟨⟨j + 1, _, _, _, _, its ++ [t], s', b3, by go_num, by omega, HX4, HG4, HDD4, HZ4, HD4, hs', HF4, hhi4⟩, by simp [intOf]; omega⟩)
        · obtain rfl : j = N := by omega
          obtain ⟨A7, c7, B7, e7, ev1, ev2, his, hks⟩ := HGR.out.done (by have := HL.out; omega) (by simp) (fun j hj => absurd hj (by simp))
          simp only [Value.slice.injEq] at ev1 ev2
          obtain ⟨rfl, rfl, rfl⟩ := ev1
          have HFIN : Hid ((lres R).1 = sj ∧ (sj.e = 0 → bj = (lres R).2.1 ∧ VB wr (w.heap.size + 2) wr.heap.size (f + 2) (.agg #[.int .i64 4, .int .i64 0, .string ByteArray.empty, .slice aI its.length kI, .slice none 0 0]) (lres R).2.2)) := Lib.hid (by
            have h1 := HE.out
            rw [Nat.sub_self, M.dL_zero] at h1
            rw [← h1]
            exact ⟨rfl, fun _ => ⟨rfl, aI, _, kI, none, 0, 0, rfl, by simp [lres, V.k], by simp [lres, V.k], by simp [lres, V.n], by simp [lres, V.n], by simp [lres, V.s], his, KS.nil_ _ _ _⟩⟩)
          clear his hks ev2
          go_wp2_with fail
          have hfin := lit_stored HZ.out (.int .i64 4) (.int .i64 0) (.string ByteArray.empty) (.slice aI its.length kI) (.slice none 0 0)
          refine bodyPost_ret (v := .agg #[.int .i64 4, .int .i64 0, .string ByteArray.empty, .slice aI its.length kI, .slice none 0 0]) (results_cell_row Tryz.results58 _ _ (w.heap.size + 1) 31 _ (0, 0) _ rfl hfin Tryz.underlying31 rfl (by kernel_rfl)) rfl ?_
          exact ritems_end hsz HD.out HF.out hhi (by rw [HRF.out]; exact HFIN)
      · have hgd : (sj.e == 0) = false := by simpa using he
        have HGD := Lib.hid hgd
        have HFIN : Hid ((lres R).1 = sj ∧ (sj.e = 0 → bj = (lres R).2.1 ∧ VB wr (w.heap.size + 2) wr.heap.size (f + 2) (.agg #[.int .i64 4, .int .i64 0, .string ByteArray.empty, .slice aI nI kI, .slice none 0 0]) (lres R).2.2)) := Lib.hid ⟨HDD.out he, fun h => absurd h he⟩
        clear hgd HDD he HG
        by_cases hlt : j < N
        · go_wp2_with (go_at_call 30; refine (good_any HD.out).mono ?_; rintro e wg ⟨rfl, rfl⟩; rw [HGD.out])
          have hfin := lit_stored HZ.out (.int .i64 4) (.int .i64 0) (.string ByteArray.empty) (.slice aI nI kI) (.slice none 0 0)
          refine bodyPost_ret (v := .agg #[.int .i64 4, .int .i64 0, .string ByteArray.empty, .slice aI nI kI, .slice none 0 0]) (results_cell_row Tryz.results58 _ _ (w.heap.size + 1) 31 _ (0, 0) _ rfl hfin Tryz.underlying31 rfl (by kernel_rfl)) rfl ?_
          exact ritems_end hsz HD.out HF.out hhi (by rw [HRF.out]; exact HFIN)
        · go_wp2_with fail
          have hfin := lit_stored HZ.out (.int .i64 4) (.int .i64 0) (.string ByteArray.empty) (.slice aI nI kI) (.slice none 0 0)
          refine bodyPost_ret (v := .agg #[.int .i64 4, .int .i64 0, .string ByteArray.empty, .slice aI nI kI, .slice none 0 0]) (results_cell_row Tryz.results58 _ _ (w.heap.size + 1) 31 _ (0, 0) _ rfl hfin Tryz.underlying31 rfl (by kernel_rfl)) rfl ?_
          exact ritems_end hsz HD.out HF.out hhi (by rw [HRF.out]; exact HFIN)
end Go.Proofs.YtkodmhopollnpaaGreat

namespace Go.Proofs.YtkodmhopollnpaaGreat
set_option linter.unusedVariables false
open Go.RowKit
open M (V)

set_option maxHeartbeats 400000 in
theorem rfail_same {w : World} {lo g : Nat} {s : M.St} (x : Int) (h : RfX w lo g s) (h0 : s.e ≠ 0) :
    Calls Tryz.prog 83 #[.pointer (some ⟨g, 0, none⟩), .int .i64 x] w fun e w' => e = .returned (.tuple #[]) ∧ w' = w := by
  obtain ⟨A, n, c, hR⟩ := h
  have hb : (s.e == 0) = false := by rw [beq_eq_false_iff_ne]; exact h0
  clear h0
  go_enter Tryz.func83, Tryz.ntmps83
  go_wp2_with fail
  refine (stopped_any hR).mono ?_
  rintro e w' ⟨rfl, rfl⟩
  go_wp2_with fail
  go_end0
  exact ⟨rfl, rfl⟩
set_option maxHeartbeats 400000 in
theorem check_same {w : World} {lo g D b : Nat} {s : M.St} (ok : Bool) (h : Rdc w lo g D s b) (hok : ok = true ∨ s.e ≠ 0) :
    Calls Tryz.prog 55 #[.pointer (some ⟨D, 0, none⟩), .bool ok] w fun e w' => e = .returned (.tuple #[]) ∧ w' = w := by
  obtain ⟨c0, -, -⟩ := h.cells
  cases ok with
  | true =>
    go_enter Tryz.func55, Tryz.ntmps55
    go_wp2_with fail
    go_end0
    exact ⟨rfl, rfl⟩
  | false =>
    go_enter Tryz.func55, Tryz.ntmps55
    go_wp2_with fail
    refine (rfail_same _ h.rd (hok.resolve_left (by simp))).mono ?_
    rintro e w1 ⟨rfl, rfl⟩
    go_wp2_with fail
    go_end0
    exact ⟨rfl, rfl⟩

set_option maxRecDepth 100000 in
set_option maxHeartbeats 8000000 in
theorem ritems_map {f : Nat} (ih : rvalAt f) {lo g D b : Nat} {s : M.St} {depth : Int} {w : World} (hd : depth = 16 - (f : Int)) (hf : f ≤ 16) (h : Rdc w lo g D s b) (hb : b ≤ 1000) (hs : s.l.length ≤ 100000000) :
    Calls Tryz.prog 58 #[.pointer (some ⟨D, 0, none⟩), .agg #[.int .i64 5, .int .i64 0, .string ByteArray.empty, .slice none 0 0, .slice none 0 0], .int .i64 depth] w (NewRv (f + 2) lo g D (pres (M.dP (M.dv f) (M.cx s).1 (M.cx s).2 b [] [])) w) := by
  have IH := Lib.hid ih
  have hq : IntKind.i64.wrap (depth + 1) = depth + 1 := IntWalk.i64_in _ (by omega)
  have HDE := Lib.hid hd
  have hsz := h.size
  have hgD := h.lt
  have hb0 : Below (w.heap.size + 2) ((w.alloc (.cells #[.int .i64 5, .int .i64 0, .string ByteArray.empty, .slice none 0 0, .slice none 0 0] 31)).alloc (.cells #[.int .i64 0, .int .i64 0, .string ByteArray.empty, .slice none 0 0, .slice none 0 0] 31)) _ := Below.refl _ _
  have HH := Lib.hid h
  have hfr0 : Frm w.heap.size g (D + 1) w ((w.alloc (.cells #[.int .i64 5, .int .i64 0, .string ByteArray.empty, .slice none 0 0, .slice none 0 0] 31)).alloc (.cells #[.int .i64 0, .int .i64 0, .string ByteArray.empty, .slice none 0 0, .slice none 0 0] 31)) := Frm.of_below (two_below hb0)
  have hz0 := two_size hb0
  have hni := M.int_in s
  have hnl := M.num_len s
  obtain ⟨q0, q1⟩ := two_heap hb0 (Nat.le_refl _)
  have HQ0 := Lib.hid q0; have HQ1 := Lib.hid q1
  obtain ⟨n, hn⟩ : ∃ n, n = s.num.1 := ⟨_, rfl⟩
  have hnum := number_any (HH.out.below (two_below hb0))
  rw [← hn] at hnum hni
  have HNUM := Lib.hid hnum
  have HN := Lib.hid hn
  clear ih hd h q0 q1 hnum hn
  by_cases hr : n < 0 ∨ 1000 < n
  · have HR : Hid (M.dP (M.dv f) (M.cx s).1 (M.cx s).2 b [] [] = (s.num.2.bad, b, [], [])) := Lib.hid (by
      unfold M.cx; rw [← HN.out, if_pos hr, M.dP_zero])
    have HBE := Lib.hid (M.bad_e s.num.2)
    have haI : ∃ (aI : Option Addr) (nI kI : Nat), aI = none ∧ nI = 0 ∧ kI = 0 := ⟨_, _, _, rfl, rfl, rfl⟩
    rcases (show n < 0 ∨ (0 ≤ n ∧ 1000 < n) by omega) with hn | ⟨hn0, hn⟩
    all_goals
      clear hr
      go_enter Tryz.func58, Tryz.ntmps58
      go_wp2_with fail
      refine HNUM.out.mono ?_
      rintro e w1 ⟨rfl, h1, hf1⟩
      have H1 := Lib.hid h1; have HF1 := Lib.hid hf1
      clear h1 hf1
      go_wp2_with fail
      refine (check_any _ H1.out).mono ?_
      rintro e w2 ⟨rfl, h2, hf2⟩
      rw [show ck s.num.2 _ = s.num.2.bad from if_neg (by simp; try omega)] at h2
      have hz1 := HF1.out.size
      have hz2 := hf2.size
      have HD : Hid (Rdc w2 lo g D s.num.2.bad b) := Lib.hid h2
      have HF : Hid (Frm w.heap.size g (D + 1) w w2) := Lib.hid ((hfr0.trans HF1.out (by omega)).trans hf2 (by omega))
      have HX : Hid (w2.heap[w.heap.size]? = some (.cells #[.int .i64 5, .int .i64 0, .string ByteArray.empty, .slice none 0 0, .slice none 0 0] 31 (0, 0))) := Lib.hid ((hf2.blk w.heap.size (by omega) ⟨by omega, by omega⟩).trans ((HF1.out.blk w.heap.size (by omega) ⟨by omega, by omega⟩).trans HQ0.out))
      have HZ : Hid (w2.heap[w.heap.size + 1]? = some (.cells #[.int .i64 0, .int .i64 0, .string ByteArray.empty, .slice none 0 0, .slice none 0 0] 31 (0, 0))) := Lib.hid ((hf2.blk (w.heap.size + 1) (by omega) ⟨by omega, by omega⟩).trans ((HF1.out.blk (w.heap.size + 1) (by omega) ⟨by omega, by omega⟩).trans HQ1.out))
      have hhi : w.heap.size + 2 ≤ w2.heap.size := by omega
      have hhlt : w2.heap.size > w.heap.size + 1 := by omega
      have hgood : (s.num.2.bad.e == 0) = false := by rw [beq_eq_false_iff_ne]; exact HBE.out
      have HGD := Lib.hid hgood
      obtain ⟨aI, nI, kI, hA1, hA2, hA3⟩ := haI
      clear h2 hf2 hfr0 hb0 hgood
      subst hA1 hA2 hA3
      obtain ⟨m0, m1, m2, m3, m4, -⟩ := lit5 HX.out
      obtain ⟨g0, g1, g2', g3, g4, e0, e1, e2, e3, e4⟩ := lit5 HZ.out
      go_wp2_with fail
      refine wp_loop_rounds 1 ?_
      rw [rounds_succ]
      go_wp2_with (go_at_call 30; refine (good_any HD.out).mono ?_; rintro e wg ⟨rfl, rfl⟩; rw [HGD.out])
      have hfin := lit_stored HZ.out (.int .i64 5) (.int .i64 0) (.string ByteArray.empty) (.slice none 0 0) (.slice none 0 0)
      refine bodyPost_ret (v := .agg #[.int .i64 5, .int .i64 0, .string ByteArray.empty, .slice none 0 0, .slice none 0 0]) (results_cell_row Tryz.results58 _ _ (w.heap.size + 1) 31 _ (0, 0) _ rfl hfin Tryz.underlying31 rfl (by kernel_rfl)) rfl ?_
      exact ritems_end hsz HD.out HF.out hhi (Lib.hid ⟨by rw [HR.out]; rfl, fun h => absurd h HBE.out⟩)
  · obtain ⟨N, rfl⟩ := Int.eq_ofNat_of_zero_le (show 0 ≤ n by omega)
    have hN2 : N ≤ 1000 := by omega
    obtain ⟨S0, hS0⟩ : ∃ S0, S0 = s.num.2 := ⟨_, rfl⟩
    have HCX : Hid (M.cx s = (N, S0)) := Lib.hid (by unfold M.cx; rw [← HN.out, if_neg hr, hS0, Int.toNat_natCast])
    obtain ⟨R, hR0⟩ : ∃ R, R = M.dP (M.dv f) N S0 b [] [] := ⟨_, rfl⟩
    have HRF : Hid (M.dP (M.dv f) (M.cx s).1 (M.cx s).2 b [] [] = R) := Lib.hid (by rw [HCX.out]; exact hR0.symm)
    have hSl : S0.l.length ≤ 100000000 := by rw [hS0]; omega
    rw [← hS0] at HNUM
    have HR := Lib.hid hR0.symm
    clear hS0 hR0 HCX HN hni hnl hr
    go_enter Tryz.func58, Tryz.ntmps58
    go_wp2_with fail
    refine HNUM.out.mono ?_
    rintro e w1 ⟨rfl, h1, hf1⟩
    have H1 := Lib.hid h1; have HF1 := Lib.hid hf1
    clear h1 hf1
    go_wp2_with fail
    refine (check_any _ H1.out).mono ?_
    rintro e w2 ⟨rfl, h2, hf2⟩
    rw [show ck S0 _ = S0 from if_pos (by simp; try omega)] at h2
    have hz1 := HF1.out.size
    have hz2 := hf2.size
    have HD0 : Hid (Rdc w2 lo g D S0 b) := Lib.hid h2
    have HF0 : Hid (Frm w.heap.size g (D + 1) w w2) := Lib.hid ((hfr0.trans HF1.out (by omega)).trans hf2 (by omega))
    have hx0 : w2.heap[w.heap.size]? = some (.cells #[.int .i64 5, .int .i64 0, .string ByteArray.empty, .slice none 0 0, .slice none 0 0] 31 (0, 0)) := (hf2.blk w.heap.size (by omega) ⟨by omega, by omega⟩).trans ((HF1.out.blk w.heap.size (by omega) ⟨by omega, by omega⟩).trans HQ0.out)
    have HZ0 : Hid (w2.heap[w.heap.size + 1]? = some (.cells #[.int .i64 0, .int .i64 0, .string ByteArray.empty, .slice none 0 0, .slice none 0 0] 31 (0, 0))) := Lib.hid ((hf2.blk (w.heap.size + 1) (by omega) ⟨by omega, by omega⟩).trans ((HF1.out.blk (w.heap.size + 1) (by omega) ⟨by omega, by omega⟩).trans HQ1.out))
    have HG0 : Hid (S0.e = 0 → Grw w2 (w.heap.size + 2) w.heap.size (f + 1) (.int .i64 5) (.int .i64 0) (.string ByteArray.empty) (.slice none 0 0) (.slice none 0 0) [] [] [] 31 ∧ ([] : List V).length = 0 ∧ ([] : List ByteArray).length = 0 ∧ (∀ q, q < ([] : List ByteArray).length → (([] : List ByteArray).getD q ByteArray.empty).size ≤ 140737488351232) ∧ b ≤ 1000 ∧ M.dP (M.dv f) (N - 0) S0 b [] [] = R) := Lib.hid (fun _ => ⟨Grw.start hx0 (by omega) (by omega), rfl, rfl, (fun q hq => absurd hq (Nat.not_lt_zero _)), hb, HR.out⟩)
    have HX0 := Lib.hid hx0
    have HDD : Hid (S0.e ≠ 0 → R.1 = S0) := Lib.hid (fun h => by
      rw [← HR.out]
      cases N with
      | zero => rw [M.dP_zero]
      | succ N =>
        have h1 := M.dv_dead (f := f) (b := b) h
        have h2 : (M.kx S0 []).2 = S0 := by rw [M.kx_dead h]
        rw [M.dP_dead (by rw [h2, h1]; exact h)]
        show (M.dv f (M.kx S0 []).2 b).1 = S0
        rw [h2]
        exact h1)
    have hhi0 : w.heap.size + 2 ≤ w2.heap.size := by omega
    clear h2 hf2 hfr0 hx0 hb0 HF1 H1 HNUM HQ0 HQ1 hb HR
    go_wp2_with fail
    go_loopw [8] (fun y wr => ∃ (j : Nat) (aI : Option Addr) (nI kI : Nat) (aK : Option Addr) (nK kK : Nat) (cI : List Value) (ks : List ByteArray) (its : List V) (sj : M.St) (bj : Nat), y = .int .i64 j ∧ j ≤ N ∧ Hid (wr.heap[w.heap.size]? = some (.cells #[.int .i64 5, .int .i64 0, .string ByteArray.empty, .slice aI nI kI, .slice aK nK kK] 31 (0, 0))) ∧
        Hid (sj.e = 0 → Grw wr (w.heap.size + 2) w.heap.size (f + 1) (.int .i64 5) (.int .i64 0) (.string ByteArray.empty) (.slice aI nI kI) (.slice aK nK kK) cI ks its 31 ∧ its.length = j ∧ ks.length = j ∧ (∀ q, q < ks.length → (ks.getD q ByteArray.empty).size ≤ 140737488351232) ∧ bj ≤ 1000 ∧ M.dP (M.dv f) (N - j) sj bj ks its = R) ∧ Hid (sj.e ≠ 0 → R.1 = sj) ∧
        Hid (wr.heap[w.heap.size + 1]? = some (.cells #[.int .i64 0, .int .i64 0, .string ByteArray.empty, .slice none 0 0, .slice none 0 0] 31 (0, 0))) ∧ Hid (Rdc wr lo g D sj bj) ∧ sj.l.length ≤ 100000000 ∧ Hid (Frm w.heap.size g (D + 1) w wr) ∧ w.heap.size + 2 ≤ wr.heap.size) (fun y _ => N - (intOf y).toNat)
    case atStart => exact ⟨0, _, _, _, _, _, _, [], [], [], S0, b, rfl, by omega, HX0, HG0, HDD, HZ0, HD0, hSl, HF0, hhi0⟩
    case round =>
      clear HX0 HG0 HDD HZ0 HD0 hSl HF0 hhi0 hz1 hz2
      obtain ⟨j, aI, nI, kI, aK, nK, kK, cI, ks, its, sj, bj, rfl, hj, HX, HG, HDD, HZ, HD, hsj, HF, hhi⟩ := hrel
      obtain ⟨m0, m1, m2, m3, m4, -⟩ := lit5 HX.out
      obtain ⟨g0, g1, g2', g3, g4, e0, e1, e2, e3, e4⟩ := lit5 HZ.out
      have hhlt : wr.heap.size > w.heap.size + 1 := by omega
      by_cases he : sj.e = 0
      · have hgd : (sj.e == 0) = true := by simpa using he
        have HGD := Lib.hid hgd
        have hgr := HG.out he
        have HGR := Lib.hid hgr.1; have HL := Lib.hid hgr.2.1; have HLK := Lib.hid hgr.2.2.1; have HSK := Lib.hid hgr.2.2.2.1; have hbj := hgr.2.2.2.2.1; have HE := Lib.hid hgr.2.2.2.2.2
        have HSE := Lib.hid he
        clear hgd hgr HG HDD he
        by_cases hlt : j < N
        · obtain ⟨⟨key, s2⟩, hkx⟩ : ∃ r, r = M.kx sj ks := ⟨_, rfl⟩
          have hkl := M.kx_len sj ks
          rw [← hkx] at hkl
          have hk1 : key = (M.tx sj).1 := by have h := congrArg Prod.fst hkx; exact h
          have hk2 : s2 = ck (M.tx sj).2 (M.after ks key) := by
            have h := congrArg Prod.snd hkx
            rw [hk1]; exact h
          have HKL : Hid (s2.l.length ≤ 100000000 ∧ key.size ≤ 140737488351232) := Lib.hid ⟨Nat.le_trans hkl.1 hsj, by have h : key.size ≤ sj.l.length := hkl.2; omega⟩
          obtain ⟨s1, hs1⟩ : ∃ s1, s1 = (M.tx sj).2 := ⟨_, rfl⟩
          obtain ⟨⟨s', b', t⟩, hr⟩ : ∃ r, r = M.dv f s2 bj := ⟨_, rfl⟩
          have hsm := M.dv_small f s2 bj
          rw [← hr] at hsm
          have HSM : Hid (s'.l.length ≤ 100000000 ∧ b' ≤ 1000) := Lib.hid ⟨Nat.le_trans hsm.1 HKL.out.1, hsm.2 hbj⟩
          have hcall : ∀ W, Rdc W lo g D s2 bj → Calls Tryz.prog 29 #[.pointer (some ⟨D, 0, none⟩), .int .i64 (depth + 1)] W (NewRv (f + 1) lo g D (s', b', t) W) := fun W hW => by
            rw [hr]
            exact IH.out lo g D bj s2 (depth + 1) W (by have := HDE.out; omega) hW hbj HKL.out.1
          have htext : Calls Tryz.prog 57 #[.pointer (some ⟨D, 0, none⟩)] wr.drew (NewR lo g D s1 bj (.string key) wr.drew) := by
            rw [hk1, hs1]
            exact rtext_any (HD.out.kept fun _ _ _ => rfl) hsj
          have HTX := Lib.hid htext
          have HC := Lib.hid hcall
          have HRR : Hid ((s', b', t) = M.dv f s2 bj ∧ (key, s2) = M.kx sj ks ∧ s2 = ck s1 (M.after ks key)) := Lib.hid ⟨hr, hkx, by rw [hs1]; exact hk2⟩
          clear hcall htext hr hsm hkx hkl hk1 hk2 hs1
          go_upto_region 7 with (go_at_call 30; refine (good_any HD.out).mono ?_; rintro e wg ⟨rfl, rfl⟩; rw [HGD.out])
          go_cut [] from 19 to 66 (fun wx => ∃ (g6 cap6 : Nat), Hid (Grw wx (w.heap.size + 2) w.heap.size (f + 1) (.int .i64 5) (.int .i64 0) (.string ByteArray.empty) (.slice aI nI kI) (.slice (some ⟨g6, 0, none⟩) (ks.length + 1) cap6) cI (ks ++ [key]) its 31) ∧ Hid (Rdc wx lo g D s1 bj) ∧
              Hid (wx.heap[w.heap.size + 1]? = some (.cells #[.int .i64 0, .int .i64 0, .string ByteArray.empty, .slice none 0 0, .slice none 0 0] 31 (0, 0))) ∧ Hid (Frm w.heap.size g (D + 1) w wx))
          case first =>
            go_region_law (first
              | (refine step_push_key rfl (.tmp 32) (.tmp 35) rfl (w.heap.size + 2) ks.length w5.heap.size (.slice aK nK kK) (ks.map Value.string) key _ _ ?_ ?_ ?_ (Array.getElem?_push_size ..) ?_ ?_ ?_
                 · simp [Act.eval]
                 · exact World.ownsRow.alloc (show w5.ownsRow _ _ _ _ _ _ from HG2.out.os) _
                 · simp [Act.eval]
                 · have := HLK.out; omega
                 · simp; omega
                 intro g6 cap6 wn hn1 hn2 hn3 hn4
                 obtain ⟨hn5, hn6⟩ := field_after (f := 4) HG2.out.box rfl (grown_alloc w5 _) hn2 HG2.out.ne2)
              | (go_simp; go_at_call 57
                 refine HTX.out.mono ?_
                 rintro e w5 ⟨rfl, hD2, hF2⟩
                 have hFw : Frm wr.heap.size g (D + 1) wr w5 := ⟨hF2.os, hF2.tape, hF2.output, hF2.size, hF2.blk⟩
                 have HG2 := Lib.hid (HGR.out.frm hFw (by omega) (by omega))
                 have HF2 := Lib.hid hFw
                 have hz2 := hFw.size
                 have HD2 := Lib.hid hD2
                 have hms3 : w5.heap.size > w.heap.size + 1 := by omega
                 have hms4 : w5.heap.size > w.heap.size := by omega
                 obtain ⟨n0, n1, n2, n3', n4, -⟩ := lit5 HG2.out.box
                 clear hD2 hF2 hFw))
            all_goals (
              have hn3' : (Value.slice aK nK kK).ownBlock = some g6 ∨ w5.heap.size + 1 ≤ g6 := hn3.imp id (fun h => by simpa using h)
              obtain ⟨p1, p2, p3'⟩ := push_frame (l := g) (B := D + 1) (M := w.heap.size) (base := w.heap.size + 2) (f := 4) (u := .slice (some ⟨g6, 0, none⟩) (ks.length + 1) cap6) (by omega) (by omega) hn2 (fun k hk => (World.ownsRow.lt HG2.out.os _ hk).1)
              have HG4 := Lib.hid (HGR.out.key HF2.out (by omega) (by omega) hn1 hn2 hn3')
              have HD4 := Lib.hid (HD2.out.kept fun b h1 h2 => p1 b (by omega) (by omega))
              have HZ4 : Hid (_ = some (Obj.cells #[.int .i64 0, .int .i64 0, .string ByteArray.empty, .slice none 0 0, .slice none 0 0] 31 (0, 0))) := Lib.hid ((p1 (w.heap.size + 1) (by omega) (by omega)).trans ((HF2.out.blk (w.heap.size + 1) (by omega) ⟨by omega, by omega⟩).trans HZ.out))
              have HF4 := Lib.hid ((HF.out.trans HF2.out (by omega)).trans p2 (by omega))
              go_wp2_with fail
              go_meet
              exact ⟨g6, cap6, HG4, HD4, HZ4, HF4⟩)
          case rest =>
            obtain ⟨g6, cap6, HG4, HD4, HZ4, HF4⟩ := hcut
            clear m0 m1 m2 m3 m4 HD HZ HF HX HTX g0 g1 g2' g3 g4 e0 e1 e2 e3 e4 hhi hhlt
            obtain ⟨m0, m1, m2, m3, m4, -⟩ := lit5 HG4.out.box
            have hhi4 := HG4.out.high
            have hhlt4 : wc.heap.size > w.heap.size + 1 := by omega
            have hos := HG4.out.os
            unfold OS at hos
            rw [List.length_append] at hos
            have hcA := World.ownsRow.cellAt (n := ks.length + 1) hos
            have hgl : w.heap.size + 2 ≤ g6 ∧ g6 < wc.heap.size := World.ownsRow.lt hos _ rfl
            have hjk := HLK.out
            rw [hjk] at m4 hcA hos
            obtain ⟨K, hK⟩ : ∃ K, K = ks.getD (j - 1) ByteArray.empty := ⟨_, rfl⟩
            have hcj : wc.cell? ⟨g6, j, none⟩ = some (.string key) := by
              rw [hcA j (by omega), List.map_append, List.getElem?_append_right (by simp; omega)]
              simp [hjk]
            have HJK := Lib.hid hjk
            have HCP : Hid (0 < j → wc.cell? ⟨g6, j - 1, none⟩ = some (.string K)) := Lib.hid (fun hj0 => by
              rw [hcA (j - 1) (by omega), List.map_append, List.getElem?_append_left (by simp; omega), hK]
              simp [List.getD_eq_getElem?_getD, List.getElem?_eq_getElem (show j - 1 < ks.length by omega)])
            clear hcA hos hjk
            obtain ⟨wk, hwk⟩ : ∃ wk, wk = wc := ⟨_, rfl⟩
            subst hwk
            go_upto_region 8 with fail
            go_cut [] from 19 to 66 (fun wx => Hid (Rdc wx lo g D s2 bj) ∧ Hid (Frm wk.heap.size g (D + 1) wk wx))
            case first =>
              clear HC HSM HKL IH HDE HRF HSE
              rcases Nat.eq_zero_or_pos j with hj0 | hj0
              · have HAF : Hid (s2 = s1) := Lib.hid (by rw [HRR.out.2.2]; unfold M.after ck; rw [HJK.out, hj0]; simp)
                have hji : (j : Int) = 0 := by omega
                have hje : ((j : Int) == 0) = true := by simpa using hji
                have hjd : decide ((j : Int) = 0) = true := by simpa using hji
                clear hK hcj HRR HJK hj0 hji hjd
                go_quiet (first | (go_at_call 55; refine Calls.quiet_of_same (check_same _ (HD4.out.kept fun _ _ _ => rfl) (.inl rfl))))
                go_wp2_with fail
                go_meet
                exact ⟨Lib.hid (by rw [HAF.out]; exact HD4.out.kept fun _ _ _ => rfl), Lib.hid ⟨rfl, rfl, rfl, Nat.le_refl _, fun _ _ _ => rfl⟩⟩
              · have hcp : wk.cell? ⟨g6, j - 1, none⟩ = some (.string K) := HCP.out hj0
                have hji : ¬ (j : Int) = 0 := by omega
                have hje : ((j : Int) == 0) = false := by simpa using hji
                have hw1 : IntKind.i64.wrap ((j : Int) - 1) = ((j - 1 : Nat) : Int) := by rw [IntWalk.i64_in _ (by omega)]; omega
                have i0 : (0 : Int) ≤ ((j - 1 : Nat) : Int) := by omega
                have i1 : ((j - 1 : Nat) : Int) < ((j + 1 : Nat) : Int) := by omega
                have HAF : Hid (s2 = ck s1 (Go.Op.bytesLess K.toList key.toList)) := Lib.hid (by rw [HRR.out.2.2]; unfold M.after; rw [HJK.out, ← hK]; simp [show j ≠ 0 by omega])
                by_cases hok : Go.Op.bytesLess K.toList key.toList = true ∨ s1.e ≠ 0
                · have HSS : Hid (s2 = s1) := Lib.hid (by
                    rw [HAF.out]
                    rcases hok with h | h
                    · rw [h]; rfl
                    · exact ck_dead h _)
                  have HOK := Lib.hid hok
                  clear hok hK HRR HJK HAF HCP
                  go_quiet (first | (go_at_call 55; refine Calls.quiet_of_same (check_same _ (HD4.out.kept fun _ _ _ => rfl) HOK.out)))
                  go_wp2_with fail
                  go_meet
                  exact ⟨Lib.hid (by rw [HSS.out]; exact HD4.out.kept fun _ _ _ => rfl), Lib.hid ⟨rfl, rfl, rfl, Nat.le_refl _, fun _ _ _ => rfl⟩⟩
                · have hob : Go.Op.bytesLess K.toList key.toList = false := by
                    rcases Bool.eq_false_or_eq_true (Go.Op.bytesLess K.toList key.toList) with h | h
                    · exact absurd (.inl h) hok
                    · exact h
                  have HSS : Hid (s2 = ck s1 false) := Lib.hid (by rw [HAF.out, hob])
                  obtain ⟨P, hP⟩ : ∃ P, P = j - 1 := ⟨_, rfl⟩
                  obtain ⟨L, hL⟩ : ∃ L, L = j + 1 := ⟨_, rfl⟩
                  rw [← hP] at hcp hw1
                  rw [← hL] at m4
                  have p0 : (0 : Int) ≤ (P : Int) := by omega
                  have p1 : (P : Int) < (L : Int) := by omega
                  have p2 : (0 : Int) ≤ (j : Int) := by omega
                  have p3 : (j : Int) < (L : Int) := by omega
                  have HS4 : Hid (∀ W, Frm wk.heap.size g (D + 1) wk W → W.cell? ⟨w.heap.size, 4, none⟩ = some (.slice (some ⟨g6, 0, none⟩) L cap6) ∧ W.cell? ⟨g6, P, none⟩ = some (.string K) ∧ W.cell? ⟨g6, j, none⟩ = some (.string key)) := Lib.hid (fun W hF =>
                    ⟨(World.cell?_of_block (hF.blk w.heap.size (by omega) ⟨by omega, by omega⟩)).trans m4, (World.cell?_of_block (hF.blk g6 hgl.2 ⟨by omega, by omega⟩)).trans hcp, (World.cell?_of_block (hF.blk g6 hgl.2 ⟨by omega, by omega⟩)).trans hcj⟩)
                  clear hok hK HRR HJK HAF HCP i0 i1 hP hL hji
                  go_region_held3 (fun W => W.cell? ⟨w.heap.size, 4, none⟩ = some (.slice (some ⟨g6, 0, none⟩) L cap6) ∧ W.cell? ⟨g6, P, none⟩ = some (.string K) ∧ W.cell? ⟨g6, j, none⟩ = some (.string key))
                    (first | exact ⟨m4, hcp, hcj⟩ | exact HS4.out _ HF7.out)
                    ((go_at_call 55
                      refine (check_any _ (show Rdc wk.drew lo g D s1 bj from HD4.out.kept fun _ _ _ => rfl)).mono ?_
                      rintro e w7 ⟨rfl, h7, hf7⟩
                      have HF7 : Hid (Frm wk.heap.size g (D + 1) wk w7) := Lib.hid ⟨hf7.os, hf7.tape, hf7.output, hf7.size, hf7.blk⟩
                      have H7 := Lib.hid h7
                      clear h7 hf7))
                  go_wp2_with fail
                  go_meet
                  exact ⟨Lib.hid (by rw [HSS.out]; exact H7.out), HF7⟩
            case rest =>
              obtain ⟨HD7, HF7⟩ := hcut
              have HG7 := Lib.hid (HG4.out.frm HF7.out (by omega) (by omega))
              have HZ7 := Lib.hid ((HF7.out.blk (w.heap.size + 1) (by omega) ⟨by omega, by omega⟩).trans HZ4.out)
              have HF8 := Lib.hid (HF4.out.trans HF7.out (by omega))
              have hz7 := HF7.out.size
              clear m0 m1 m2 m3 m4 hK hcj HCP HG4 HD4 HZ4 HF4 HF7 hgl
              obtain ⟨m0, m1, m2, m3, m4, -⟩ := lit5 HG7.out.box
              have hhlt7 : wc.heap.size > w.heap.size + 1 := by omega
              obtain ⟨g0, g1, g2', g3, g4, e0, e1, e2, e3, e4⟩ := lit5 HZ7.out
              have hlk : (ks ++ [key]).length = j + 1 := by rw [List.length_append, HLK.out]; rfl
              have hsk : ∀ q, q < (ks ++ [key]).length → ((ks ++ [key]).getD q ByteArray.empty).size ≤ 140737488351232 := fun q hq => by
                rcases Nat.lt_or_ge q ks.length with h | h
                · rw [show (ks ++ [key]).getD q ByteArray.empty = ks.getD q ByteArray.empty by simp [List.getD, List.getElem?_append_left h]]; exact HSK.out q h
                · obtain rfl : q = ks.length := by rw [List.length_append] at hq; simp at hq; omega
                  rw [show (ks ++ [key]).getD ks.length ByteArray.empty = key by simp [List.getD]]; exact HKL.out.2
              have HLK7 := Lib.hid hlk; have HSK7 := Lib.hid hsk
              clear hlk hsk HLK HSK HJK
              have hkx2 : (M.kx sj ks).2 = s2 := by rw [← HRR.out.2.1]
              have hkx1 : (M.kx sj ks).1 = key := by rw [← HRR.out.2.1]
              have HKX := Lib.hid (And.intro hkx1 hkx2)
              clear hkx1 hkx2
              by_cases he2 : s2.e = 0
              · have hgd : (s2.e == 0) = true := by simpa using he2
                have HGD2 := Lib.hid hgd
                clear hgd he2
                go_upto_region 10 with (go_at_call 30; refine (good_any HD7.out).mono ?_; rintro e wg ⟨rfl, rfl⟩; rw [HGD2.out])
                have HC2 : Hid (Calls Tryz.prog 29 #[.pointer (some ⟨D, 0, none⟩), .int .i64 (depth + 1)] wc.drew (NewRv (f + 1) lo g D (s', b', t) wc.drew)) := Lib.hid (HC.out _ (HD7.out.kept fun _ _ _ => rfl))
                have hms7 : wc.heap.size > w.heap.size := by omega
                go_region_law (first
                  | (refine step_push_val rfl (.tmp 59) (.tmp 64) rfl (w.heap.size + 2) its.length w5.heap.size (.slice aI nI kI) cI k3 n3 t3 _ _ _ _ _ _ _ _ ?_ ?_ ?_ (Array.getElem?_push_size ..) ?_ ?_ ?_
                     · simp [Act.eval]
                     · exact (HG2.out.ov).alloc _
                     · simp [Act.eval]
                     · have := HL.out; omega
                     · simp; omega
                     intro gv capv wn hn1 hn2 hn3 hn4
                     obtain ⟨hn5, hn6⟩ := field_after (f := 3) HG2.out.box rfl (grown_alloc w5 _) hn2 HG2.out.ne1)
                  | (go_simp; go_at_call 29
                     refine HC2.out.mono ?_
                     rintro e w5 ⟨k3, n3, t3, A3, m3', c3, B3, p3, q3, b3, rfl, hD2, hV2, hF2⟩
                     have hFw : Frm wc.heap.size g (D + 1) wc w5 := ⟨hF2.os, hF2.tape, hF2.output, hF2.size, hF2.blk⟩
                     have HG2 := Lib.hid (HG7.out.frm hFw (by omega) (by omega))
                     have HF2 := Lib.hid hFw
                     have hz2 := hFw.size
                     have HV2 := Lib.hid hV2
                     have HD2 := Lib.hid hD2
                     have hms3 : w5.heap.size > w.heap.size + 1 := by omega
                     have hms4 : w5.heap.size > w.heap.size := by omega
                     obtain ⟨n0, n1, n2, n3', n4, -⟩ := lit5 HG2.out.box
                     clear hV2 hD2 hF2 hFw))
                all_goals (
                  have hn3' : (Value.slice aI nI kI).ownBlock = some gv ∨ w5.heap.size + 1 ≤ gv := hn3.imp id (fun h => by simpa using h)
                  obtain ⟨p1, p2, p3'⟩ := push_frame (l := g) (B := D + 1) (M := w.heap.size) (base := w.heap.size + 2) (f := 3) (u := .slice (some ⟨gv, 0, none⟩) (its.length + 1) capv) (by omega) (by omega) hn2 (fun k hk => (HG2.out.ov.lt _ hk).1)
                  have hbx := (hn2.block w.heap.size (by simp only [World.size_alloc]; omega) HG2.out.ne1).trans (((grown_alloc w5 _).block w.heap.size hms4 (by simp)).trans HG2.out.box)
                  have HX4 := Lib.hid (heap_setCell_same _ _ 3 _ _ (Value.slice (some ⟨gv, 0, none⟩) (its.length + 1) capv) hbx)
                  have HG4 : Hid (s'.e = 0 → Grw (wn.setCell ⟨w.heap.size, 3, none⟩ (.slice (some ⟨gv, 0, none⟩) (its.length + 1) capv)) (w.heap.size + 2) w.heap.size (f + 1) (.int .i64 5) (.int .i64 0) (.string ByteArray.empty) (.slice (some ⟨gv, 0, none⟩) (its.length + 1) capv) (.slice (some ⟨g6, 0, none⟩) (ks.length + 1) cap6) (cI ++ [.int .i64 k3, .int .i64 n3, .string t3, .slice A3 m3' c3, .slice B3 p3 q3]) (ks ++ [key]) (its ++ [t]) 31 ∧ (its ++ [t]).length = j + 1 ∧ (ks ++ [key]).length = j + 1 ∧ (∀ q, q < (ks ++ [key]).length → ((ks ++ [key]).getD q ByteArray.empty).size ≤ 140737488351232) ∧ b3 ≤ 1000 ∧ M.dP (M.dv f) (N - (j + 1)) s' b3 (ks ++ [key]) (its ++ [t]) = R) := Lib.hid (fun he => by
                    obtain ⟨e1, e2⟩ := HV2.out he
                    refine ⟨HG7.out.item HF2.out (by omega) (by omega) e2 hn1 hn2 hn3', by rw [List.length_append, HL.out]; rfl, HLK7.out, HSK7.out, by rw [e1]; exact HSM.out.2, ?_⟩
                    have h1 := HE.out
                    rw [show N - j = (N - (j + 1)) + 1 by omega, M.dP_live (by rw [HKX.out.2, ← HRR.out.1]; exact he), HKX.out.1, HKX.out.2, ← HRR.out.1] at h1
                    rw [e1]
                    exact h1)
                  have HDD4 : Hid (s'.e ≠ 0 → R.1 = s') := Lib.hid (fun he => by
                    have h1 := HE.out
                    rw [show N - j = (N - (j + 1)) + 1 by omega, M.dP_dead (by rw [HKX.out.2, ← HRR.out.1]; exact he), HKX.out.2, ← HRR.out.1] at h1
                    rw [← h1])
                  have HD4 := Lib.hid (HD2.out.kept fun b h1 h2 => p1 b (by omega) (by omega))
                  have HZ4 : Hid (_ = some (Obj.cells #[.int .i64 0, .int .i64 0, .string ByteArray.empty, .slice none 0 0, .slice none 0 0] 31 (0, 0))) := Lib.hid ((p1 (w.heap.size + 1) (by omega) (by omega)).trans ((HF2.out.blk (w.heap.size + 1) (by omega) ⟨by omega, by omega⟩).trans HZ7.out))
                  have HF4 := Lib.hid ((HF8.out.trans HF2.out (by omega)).trans p2 (by omega))
                  have hhi4 : w.heap.size + 2 ≤ (wn.setCell ⟨w.heap.size, 3, none⟩ (.slice (some ⟨gv, 0, none⟩) (its.length + 1) capv)).heap.size := by omega
                  clear hn1 hn2 hn3 hn3' hn4 hn5 hn6 p1 p2 p3' hbx m0 m1 m2 m3 m4 n0 n1 n2 n3' n4 HG2 HD7 HZ7 HF8 HD2 HV2 HF2 HC HC2 hms3 hms4 hz2 HE HG7 g0 g1 g2' g3 g4 e0 e1 e2 e3 e4
                  generalize (wn.setCell ⟨w.heap.size, 3, none⟩ _) = wf at *
                  obtain ⟨hs', hb'⟩ := HSM.out
                  go_wp2_with fail
                  exact ⟨⟨j + 1, _, _, _, _, _, _, _, ks ++ [key], its ++ [t], s', b3, by go_num, by omega, HX4, HG4, HDD4, HZ4, HD4, hs', HF4, hhi4⟩, by simp [intOf]; omega⟩)
              · have hgd : (s2.e == 0) = false := by simpa using he2
                have HGD2 := Lib.hid hgd
                have HX7 := Lib.hid HG7.out.box
                have hdd : R.1 = s2 := by
                  have h1 := HE.out
                  have h2 : (M.dv f s2 bj).1 = s2 := M.dv_dead he2
                  rw [show N - j = (N - (j + 1)) + 1 by omega, M.dP_dead (by rw [HKX.out.2, h2]; exact he2), HKX.out.2] at h1
                  rw [← h1]; exact h2
                have HDD7 : Hid (s2.e ≠ 0 → R.1 = s2) := Lib.hid (fun _ => hdd)
                have HG8 : Hid (s2.e = 0 → Grw wc (w.heap.size + 2) w.heap.size (f + 1) (.int .i64 5) (.int .i64 0) (.string ByteArray.empty) (.slice aI nI kI) (.slice (some ⟨g6, 0, none⟩) (ks.length + 1) cap6) cI (ks ++ [key]) its 31 ∧ its.length = j + 1 ∧ (ks ++ [key]).length = j + 1 ∧ (∀ q, q < (ks ++ [key]).length → ((ks ++ [key]).getD q ByteArray.empty).size ≤ 140737488351232) ∧ bj ≤ 1000 ∧ M.dP (M.dv f) (N - (j + 1)) s2 bj (ks ++ [key]) its = R) := Lib.hid (fun h => absurd h he2)
                have hs2 := HKL.out.1
                clear hgd he2 hdd HE HSM HC
                go_wp2_with (go_at_call 30; refine (good_any HD7.out).mono ?_; rintro e wg ⟨rfl, rfl⟩; rw [HGD2.out])
                exact ⟨⟨j + 1, aI, nI, kI, _, _, _, cI, ks ++ [key], its, s2, bj, by go_num, by omega, HX7, HG8, HDD7, HZ7, HD7, hs2, HF8, by omega⟩, by simp [intOf]; omega⟩
        · obtain rfl : j = N := by omega
          obtain ⟨A7, c7, B7, e7, ev1, ev2, his, hks⟩ := HGR.out.done (by have := HL.out; omega) (by have := HLK.out; omega) HSK.out
          simp only [Value.slice.injEq] at ev1 ev2
          obtain ⟨rfl, rfl, rfl⟩ := ev1
          obtain ⟨rfl, rfl, rfl⟩ := ev2
          have HFIN : Hid ((pres R).1 = sj ∧ (sj.e = 0 → bj = (pres R).2.1 ∧ VB wr (w.heap.size + 2) wr.heap.size (f + 2) (.agg #[.int .i64 5, .int .i64 0, .string ByteArray.empty, .slice aI its.length kI, .slice aK ks.length kK]) (pres R).2.2)) := Lib.hid (by
            have h1 := HE.out
            rw [Nat.sub_self, M.dP_zero] at h1
            rw [← h1]
            exact ⟨rfl, fun _ => ⟨rfl, aI, _, kI, aK, _, kK, rfl, by simp [pres, V.k], by simp [pres, V.k], by simp [pres, V.n], by simp [pres, V.n], by simp [pres, V.s], his, hks⟩⟩)
          clear his hks
          go_wp2_with fail
          have hfin := lit_stored HZ.out (.int .i64 5) (.int .i64 0) (.string ByteArray.empty) (.slice aI its.length kI) (.slice aK ks.length kK)
          refine bodyPost_ret (v := .agg #[.int .i64 5, .int .i64 0, .string ByteArray.empty, .slice aI its.length kI, .slice aK ks.length kK]) (results_cell_row Tryz.results58 _ _ (w.heap.size + 1) 31 _ (0, 0) _ rfl hfin Tryz.underlying31 rfl (by kernel_rfl)) rfl ?_
          exact ritems_end hsz HD.out HF.out hhi (by rw [HRF.out]; exact HFIN)
      · have hgd : (sj.e == 0) = false := by simpa using he
        have HGD := Lib.hid hgd
        have HFIN : Hid ((pres R).1 = sj ∧ (sj.e = 0 → bj = (pres R).2.1 ∧ VB wr (w.heap.size + 2) wr.heap.size (f + 2) (.agg #[.int .i64 5, .int .i64 0, .string ByteArray.empty, .slice aI nI kI, .slice aK nK kK]) (pres R).2.2)) := Lib.hid ⟨HDD.out he, fun h => absurd h he⟩
        clear hgd HDD he HG
        by_cases hlt : j < N
        · go_wp2_with (go_at_call 30; refine (good_any HD.out).mono ?_; rintro e wg ⟨rfl, rfl⟩; rw [HGD.out])
          have hfin := lit_stored HZ.out (.int .i64 5) (.int .i64 0) (.string ByteArray.empty) (.slice aI nI kI) (.slice aK nK kK)
          refine bodyPost_ret (v := .agg #[.int .i64 5, .int .i64 0, .string ByteArray.empty, .slice aI nI kI, .slice aK nK kK]) (results_cell_row Tryz.results58 _ _ (w.heap.size + 1) 31 _ (0, 0) _ rfl hfin Tryz.underlying31 rfl (by kernel_rfl)) rfl ?_
          exact ritems_end hsz HD.out HF.out hhi (by rw [HRF.out]; exact HFIN)
        · go_wp2_with fail
          have hfin := lit_stored HZ.out (.int .i64 5) (.int .i64 0) (.string ByteArray.empty) (.slice aI nI kI) (.slice aK nK kK)
          refine bodyPost_ret (v := .agg #[.int .i64 5, .int .i64 0, .string ByteArray.empty, .slice aI nI kI, .slice aK nK kK]) (results_cell_row Tryz.results58 _ _ (w.heap.size + 1) 31 _ (0, 0) _ rfl hfin Tryz.underlying31 rfl (by kernel_rfl)) rfl ?_
          exact ritems_end hsz HD.out HF.out hhi (by rw [HRF.out]; exact HFIN)
end Go.Proofs.YtkodmhopollnpaaGreat

namespace Go.Proofs.YtkodmhopollnpaaGreat
set_option linter.unusedVariables false
open Go.RowKit
open M (V)

/-- While the reference reads a value: the decoder, the frame, the box of the result. -/
structure RS (w : World) (lo g D : Nat) (s : M.St) (b : Nat) (wr : World) : Prop where
  dec : Rdc wr lo g D s b
  frm : Frm w.heap.size g (D + 1) w wr
  box : wr.heap[w.heap.size]? = some (.cells #[.int .i64 0, .int .i64 0, .string ByteArray.empty, .slice none 0 0, .slice none 0 0] 31 (0, 0))
  dlt : D < w.heap.size
section
variable {w wr wr' : World} {lo g D b b' : Nat} {s s' : M.St}
theorem RS.start (h : Rdc w lo g D s b) : RS w lo g D s b (w.alloc (.cells #[.int .i64 0, .int .i64 0, .string ByteArray.empty, .slice none 0 0, .slice none 0 0] 31)) :=
  ⟨h.below ((Below.refl _ _).alloc (Nat.le_refl _) _), Frm.of_below ((Below.refl _ _).alloc (Nat.le_refl _) _), heap_alloc_new w _, h.size⟩
theorem RS.lt (h : RS w lo g D s b wr) : w.heap.size < wr.heap.size := row_lt h.box
theorem RS.callN (h : RS w lo g D s b wr) (hd : Rdc wr' lo g D s' b') (hf : Frm wr.heap.size g (D + 1) wr wr') : RS w lo g D s' b' wr' :=
  ⟨hd, h.frm.trans hf (Nat.le_of_lt h.lt), (hf.block _ h.lt (.inr ⟨by have := h.dec.lt; have := h.dlt; omega, h.dlt⟩)).trans h.box, h.dlt⟩
theorem RS.callB (h : RS w lo g D s b wr) (hb : Below wr.heap.size wr wr') : RS w lo g D s b wr' := h.callN (h.dec.below hb) (Frm.of_below hb)
theorem RS.set (h : RS w lo g D s b wr) : RS w lo g D s (b + 1) (wr.setCell ⟨D, 1, none⟩ (.int .i64 ((b : Int) + 1))) := by
  have h1 := h.dlt
  have h2 := h.dec.lt
  have h3 := h.dec.low
  refine ⟨⟨h.dec.rd.kept fun x x1 x2 => heap_setCell_other _ _ _ _ (by show x ≠ D; omega), heap_setCell_same _ _ 1 _ _ _ h.dec.blk, h2, h3⟩, h.frm.set (.inl (.inr rfl)) _, ?_, h1⟩
  rw [heap_setCell_other _ _ _ _ (by show w.heap.size ≠ D; omega)]
  exact h.box
/-- A second box stays while calls are made. -/
theorem RS.keep {M : Nat} {o : Obj} (h : RS w lo g D s b wr) (hM : w.heap.size < M) (hm : wr.heap[M]? = some o) (hf : Frm wr.heap.size g (D + 1) wr wr') : wr'.heap[M]? = some o :=
  (hf.blk M (row_lt hm) ⟨by have := h.dec.lt; have := h.dlt; omega, by have := h.dlt; omega⟩).trans hm
theorem RS.boxed {M : Nat} {u : Value} {k : Nat} (h : RS w lo g D s b wr) (hM : w.heap.size < M) : RS w lo g D s b (wr.setCell ⟨M, k, none⟩ u) := by
  have h1 := h.dlt
  have h2 := h.dec.lt
  have h3 := h.dec.low
  refine ⟨⟨h.dec.rd.kept fun x x1 x2 => heap_setCell_other _ _ _ _ (by show x ≠ M; omega), (heap_setCell_other _ _ _ _ (by show D ≠ M; omega)).trans h.dec.blk, h2, h3⟩, h.frm.set (.inr (Nat.le_of_lt hM)) _, ?_, h1⟩
  rw [heap_setCell_other _ _ _ _ (by show w.heap.size ≠ M; omega)]
  exact h.box
theorem rval_end {d : Nat} {k n : Int} {t : ByteArray} {A B : Option Addr} {m c p e : Nat} {R : M.St × Nat × V} (h : RS w lo g D s b wr)
    (hR : Hid (R.1 = s ∧ (s.e = 0 → b = R.2.1 ∧ VB wr (w.heap.size + 1) wr.heap.size d (.agg #[.int .i64 k, .int .i64 n, .string t, .slice A m c, .slice B p e]) R.2.2))) :
    NewRv d lo g D R w (.returned (.agg #[.int .i64 k, .int .i64 n, .string t, .slice A m c, .slice B p e])) (stored wr w.heap.size (.int .i64 k) (.int .i64 n) (.string t) (.slice A m c) (.slice B p e)) := by
  obtain ⟨h1, h2⟩ := hR.out
  have hsz := h.dlt
  have hs := stored_size wr w.heap.size (.int .i64 k) (.int .i64 n) (.string t) (.slice A m c) (.slice B p e)
  have hF := h.frm
  refine ⟨_, _, _, _, _, _, _, _, _, b, rfl, ?_, fun he => ⟨?_, ?_⟩, ((((hF.set (.inr (Nat.le_refl _)) _).set (.inr (Nat.le_refl _)) _).set (.inr (Nat.le_refl _)) _).set (.inr (Nat.le_refl _)) _).set (.inr (Nat.le_refl _)) _⟩
  · rw [h1]; exact h.dec.kept fun x h1 h2 => stored_other _ _ _ _ _ _ _ _ (by omega)
  · exact (h2 (by rw [← h1]; exact he)).1
  · exact ((h2 (by rw [← h1]; exact he)).2.kept fun x h1 h2 => stored_other _ _ _ _ _ _ _ _ (by omega)).weak (by omega) (by rw [hs]; omega)
theorem num_live {s : M.St} (h : s.num.1 ≠ 0) : s.num.2.e = 0 := by
  unfold M.St.num M.St.int at h ⊢
  split at h
  · exact absurd rfl h
  · rename_i h1
    rw [if_neg h1]
    split at h
    · exact absurd rfl h
    · rename_i h2
      rw [if_neg h2]
      split at h
      · exact absurd rfl h
      · rename_i h3
        rw [if_neg h3]
end

set_option maxRecDepth 100000 in
set_option maxHeartbeats 8000000 in
theorem rval_all (f : Nat) (hf : f ≤ 16) (ih : ∀ k, k < f → rvalAt k) : rvalAt f := by
  intro lo g D b s depth w hd h hb hs
  have HS := Lib.hid (RS.start h)
  obtain ⟨c0, c1, c2⟩ := h.cells
  have hdl := h.size
  have hgl := h.lt
  have hw1 : IntKind.i64.wrap ((b : Int) + 1) = (b : Int) + 1 := IntWalk.i64_in _ (by omega)
  have IH := Lib.hid ih
  obtain ⟨s0, hs0⟩ : ∃ s0, s0 = ck s (decide (b < 1000 ∧ depth ≤ 16)) := ⟨_, rfl⟩
  have HS0 := Lib.hid hs0
  have HDP := Lib.hid hd
  clear ih h hs0 hd
  go_enter Tryz.func29, Tryz.ntmps29
  go_upto_region 1 with fail
  go_cut [] from 6 to 75 (fun wx => Hid (RS w lo g D s0 b wx))
  case first =>
    by_cases hb1 : b = 1000
    · subst hb1
      have HE : Hid (s0 = ck s false) := Lib.hid (by rw [HS0.out]; simp)
      go_wp2_with fail
      refine (check_any _ HS.out.dec).mono ?_
      rintro e w1 ⟨rfl, h1, hf1⟩
      have HS1 := Lib.hid (HS.out.callN h1 hf1)
      clear h1 hf1
      go_wp2_with fail
      go_meet
      rw [HE.out]
      exact HS1
    · have hb2 : b < 1000 := by omega
      by_cases hdep : depth ≤ 16
      · have HE : Hid (s0 = ck s true) := Lib.hid (by rw [HS0.out, decide_eq_true (⟨hb2, hdep⟩ : b < 1000 ∧ depth ≤ 16)])
        go_wp2_with fail
        refine (check_any _ HS.out.dec).mono ?_
        rintro e w1 ⟨rfl, h1, hf1⟩
        have HS1 := Lib.hid (HS.out.callN h1 hf1)
        clear h1 hf1
        go_wp2_with fail
        go_meet
        rw [HE.out]
        exact HS1
      · have HE : Hid (s0 = ck s false) := Lib.hid (by rw [HS0.out, decide_eq_false (fun h => hdep h.2)])
        go_wp2_with fail
        refine (check_any _ HS.out.dec).mono ?_
        rintro e w1 ⟨rfl, h1, hf1⟩
        have HS1 := Lib.hid (HS.out.callN h1 hf1)
        clear h1 hf1
        go_wp2_with fail
        go_meet
        rw [HE.out]
        exact HS1
  case rest =>
    obtain ⟨w1, hw⟩ : ∃ w1, w1 = wc := ⟨_, rfl⟩
    subst hw
    have HS1 := hcut
    clear hcut c0 c1 c2 HS
    obtain ⟨d0, d1, d2⟩ := HS1.out.dec.cells
    have HS2 := Lib.hid HS1.out.set
    have HN := Lib.hid (number_any HS2.out.dec)
    by_cases ha : b < 1000 ∧ depth ≤ 16 ∧ s.e = 0
    · obtain ⟨ha1, ha2, ha3⟩ := ha
      have h0 : s0 = s := by rw [HS0.out, decide_eq_true (⟨ha1, ha2⟩ : b < 1000 ∧ depth ≤ 16)]; rfl
      obtain ⟨f', hf'⟩ : ∃ f', f = f' + 1 := ⟨f - 1, by have := HDP.out; omega⟩
      subst hf'
      have HNL := Lib.hid (num_live (s := s))
      have hn1 := int_of_num s
      have hln := M.num_len s
      subst h0
      obtain ⟨K, hK⟩ : ∃ K, K = s0.num.1 := ⟨_, rfl⟩
      obtain ⟨S1, hS1⟩ : ∃ S1, S1 = s0.num.2 := ⟨_, rfl⟩
      rw [← hK, ← hS1] at HN HNL
      rw [← hK] at hn1
      rw [← hS1] at hln
      have HK := Lib.hid hK; have HS1e := Lib.hid hS1
      have HLN : Hid (S1.l.length ≤ 100000000) := Lib.hid (by omega)
      have HB2 := Lib.hid ha1
      clear hK hS1 hln ha1 ha2 ha3
      rcases (show K = 0 ∨ K = 1 ∨ K = 2 ∨ K = 3 ∨ K = 4 ∨ K = 5 ∨ (K < 0 ∨ 5 < K) by omega) with hk | hk | hk | hk | hk | hk | hk
      · subst hk
        by_cases hse : S1.e = 0
        · have hgd : (S1.e == 0) = true := by simpa using hse
          have HGD := Lib.hid hgd
          clear hgd hse
          go_wp2_with fail
          refine HN.out.mono ?_
          rintro e w2 ⟨rfl, hd', hf'⟩
          have HS3 := Lib.hid (HS2.out.callN hd' hf')
          have hM : w.heap.size < w2.heap.size := HS3.out.lt
          clear hd' hf' d0 d1 d2
          go_wp2_with fail
          refine (check_any _ (HS3.out.callB ((Below.refl _ _).alloc (Nat.le_refl _) _)).dec).mono ?_
          rintro e w5 ⟨rfl, hd5, hf5⟩
          rw [show ck S1 _ = S1 from rfl] at hd5
          have HS5 := Lib.hid ((HS3.out.callB ((Below.refl _ _).alloc (Nat.le_refl _) _)).callN hd5 hf5)
          have HM5 : Hid (w5.heap[w2.heap.size]? = some (.cells #[.int .i64 0, .int .i64 0, .string ByteArray.empty, .slice none 0 0, .slice none 0 0] 31 (0, 0))) := Lib.hid ((HS3.out.callB ((Below.refl _ _).alloc (Nat.le_refl _) _)).keep hM (heap_alloc_new w2 _) hf5)
          clear hd5 hf5
          go_wp2_with fail
          refine (good_any HS5.out.dec).mono ?_
          rintro e wg ⟨rfl, rfl⟩
          rw [HGD.out]
          have HRE : Hid ((M.dv (f' + 1) s0 b).1 = S1 ∧ (S1.e = 0 → b + 1 = (M.dv (f' + 1) s0 b).2.1 ∧ VB w5 (w.heap.size + 1) w5.heap.size (f' + 2) (.agg #[.int .i64 0, .int .i64 0, .string ByteArray.empty, .slice none 0 0, .slice none 0 0]) (M.dv (f' + 1) s0 b).2.2)) := Lib.hid (by
            rw [M.dv_null HB2.out HK.out.symm, ← HS1e.out]
            exact ⟨rfl, fun _ => ⟨rfl, VB.null _ _ _ _⟩⟩)
          obtain ⟨g0, g1, g2, g3, g4, -⟩ := lit5 HM5.out
          obtain ⟨m0, m1, m2, m3, m4, f0, f1, f2, f3, f4⟩ := lit5 HS5.out.box
          have hlt9 := HS5.out.lt
          go_wp2_with fail
          have hfin := lit_stored HS5.out.box (.int .i64 0) (.int .i64 0) (.string ByteArray.empty) (.slice none 0 0) (.slice none 0 0)
          refine bodyPost_ret (v := .agg #[.int .i64 0, .int .i64 0, .string ByteArray.empty, .slice none 0 0, .slice none 0 0]) (results_cell_row Tryz.results29 _ _ w.heap.size 31 _ (0, 0) _ rfl hfin Tryz.underlying31 rfl (by kernel_rfl)) rfl ?_
          exact rval_end HS5.out (Lib.hid HRE.out)
        · have hgd : (S1.e == 0) = false := by simpa using hse
          have HGD := Lib.hid hgd
          have HSE := Lib.hid hse
          clear hgd hse
          go_wp2_with fail
          refine HN.out.mono ?_
          rintro e w2 ⟨rfl, hd', hf'⟩
          have HS3 := Lib.hid (HS2.out.callN hd' hf')
          have hM : w.heap.size < w2.heap.size := HS3.out.lt
          clear hd' hf' d0 d1 d2
          go_wp2_with fail
          refine (check_any _ (HS3.out.callB ((Below.refl _ _).alloc (Nat.le_refl _) _)).dec).mono ?_
          rintro e w5 ⟨rfl, hd5, hf5⟩
          rw [show ck S1 _ = S1 from rfl] at hd5
          have HS5 := Lib.hid ((HS3.out.callB ((Below.refl _ _).alloc (Nat.le_refl _) _)).callN hd5 hf5)
          have HM5 : Hid (w5.heap[w2.heap.size]? = some (.cells #[.int .i64 0, .int .i64 0, .string ByteArray.empty, .slice none 0 0, .slice none 0 0] 31 (0, 0))) := Lib.hid ((HS3.out.callB ((Below.refl _ _).alloc (Nat.le_refl _) _)).keep hM (heap_alloc_new w2 _) hf5)
          clear hd5 hf5
          go_wp2_with fail
          refine (good_any HS5.out.dec).mono ?_
          rintro e wg ⟨rfl, rfl⟩
          rw [HGD.out]
          clear HM5
          obtain ⟨m0, m1, m2, m3, m4, f0, f1, f2, f3, f4⟩ := lit5 HS5.out.box
          have hlt9 := HS5.out.lt
          go_wp2_with fail
          have hfin := lit_stored HS5.out.box (.int .i64 0) (.int .i64 0) (.string ByteArray.empty) (.slice none 0 0) (.slice none 0 0)
          refine bodyPost_ret (v := .agg #[.int .i64 0, .int .i64 0, .string ByteArray.empty, .slice none 0 0, .slice none 0 0]) (results_cell_row Tryz.results29 _ _ w.heap.size 31 _ (0, 0) _ rfl hfin Tryz.underlying31 rfl (by kernel_rfl)) rfl ?_
          exact rval_end HS5.out (Lib.hid ⟨by rw [M.dv_null HB2.out HK.out.symm, ← HS1e.out], fun h => absurd h HSE.out⟩)
      · subst hk
        have hgd : (S1.e == 0) = true := by rw [HNL.out (by decide)]; rfl
        have HGD := Lib.hid hgd
        clear hgd
        go_wp2_with fail
        refine HN.out.mono ?_
        rintro e w2 ⟨rfl, hd', hf'⟩
        have HS3 := Lib.hid (HS2.out.callN hd' hf')
        have hM : w.heap.size < w2.heap.size := HS3.out.lt
        clear hd' hf' d0 d1 d2
        go_wp2_with fail
        refine (check_any _ (HS3.out.callB ((Below.refl _ _).alloc (Nat.le_refl _) _)).dec).mono ?_
        rintro e w5 ⟨rfl, hd5, hf5⟩
        rw [show ck S1 _ = S1 from rfl] at hd5
        have HS5 := Lib.hid ((HS3.out.callB ((Below.refl _ _).alloc (Nat.le_refl _) _)).callN hd5 hf5)
        have HM5 : Hid (w5.heap[w2.heap.size]? = some (.cells #[.int .i64 1, .int .i64 0, .string ByteArray.empty, .slice none 0 0, .slice none 0 0] 31 (0, 0))) := Lib.hid ((HS3.out.callB ((Below.refl _ _).alloc (Nat.le_refl _) _)).keep hM (heap_alloc_new w2 _) hf5)
        clear hd5 hf5
        go_wp2_with fail
        refine (good_any HS5.out.dec).mono ?_
        rintro e wg ⟨rfl, rfl⟩
        rw [HGD.out]
        obtain ⟨g0, g1, g2, g3, g4, e0, e1, e2, e3, e4⟩ := lit5 HM5.out
        go_wp2_with fail
        refine (number_any HS5.out.dec).mono ?_
        rintro e w6 ⟨rfl, hd6, hf6⟩
        have HS6 := Lib.hid (HS5.out.callN hd6 hf6)
        have HM6 := Lib.hid (HS5.out.keep hM HM5.out hf6)
        obtain ⟨N2, hN2⟩ : ∃ N2, N2 = S1.num.1 := ⟨_, rfl⟩
        obtain ⟨S2, hS2⟩ : ∃ S2, S2 = S1.num.2 := ⟨_, rfl⟩
        rw [← hS2] at HS6
        rw [← hN2]
        have HN2 := Lib.hid hN2; have HS2e := Lib.hid hS2
        clear hd6 hf6 g0 g1 g2 g3 g4 e0 e1 e2 e3 e4 hN2 hS2
        have HS7 := Lib.hid (HS6.out.boxed (k := 1) (u := .int .i64 N2) hM)
        have HM7 := Lib.hid (heap_setCell_same _ _ 1 _ _ (.int .i64 N2) HM6.out)
        obtain ⟨g0, g1, g2, g3, g4, e0, e1, e2, e3, e4⟩ := lit5 HM6.out
        obtain ⟨y0, y1, y2, y3, y4, -⟩ := lit5 HM7.out
        have hl6 := row_lt HM6.out
        rcases (show N2 = 0 ∨ N2 = 1 ∨ (N2 ≠ 0 ∧ N2 ≠ 1) by omega) with hc | hc | hc
        · subst hc
          go_wp2_with fail
          refine (check_any _ HS7.out.dec).mono ?_
          rintro e w8 ⟨rfl, hd8, hf8⟩
          rw [show ck S2 _ = S2 from rfl] at hd8
          have HS8 := Lib.hid (HS7.out.callN hd8 hf8)
          have HM8 := Lib.hid (HS7.out.keep hM HM7.out hf8)
          clear hd8 hf8 g0 g1 g2 g3 g4 e0 e1 e2 e3 e4 y0 y1 y2 y3 y4
          obtain ⟨x0, x1, x2, x3, x4, -⟩ := lit5 HM8.out
          obtain ⟨m0, m1, m2, m3, m4, f0, f1, f2, f3, f4⟩ := lit5 HS8.out.box
          have hlt9 := HS8.out.lt
          go_wp2_with fail
          have hfin := lit_stored HS8.out.box (.int .i64 1) (.int .i64 0) (.string ByteArray.empty) (.slice none 0 0) (.slice none 0 0)
          refine bodyPost_ret (v := .agg #[.int .i64 1, .int .i64 0, .string ByteArray.empty, .slice none 0 0, .slice none 0 0]) (results_cell_row Tryz.results29 _ _ w.heap.size 31 _ (0, 0) _ rfl hfin Tryz.underlying31 rfl (by kernel_rfl)) rfl ?_
          exact rval_end HS8.out (Lib.hid ⟨by rw [M.dv_bool HB2.out HK.out.symm, ← HS1e.out]; show (M.bx S1).2 = _; unfold M.bx; rw [← HN2.out, ← HS2e.out, if_pos (by decide)], fun _ => ⟨by rw [M.dv_bool HB2.out HK.out.symm], by rw [M.dv_bool HB2.out HK.out.symm, ← HS1e.out]; show VB _ _ _ _ _ (.mk 1 (if (M.bx S1).1 = 1 then 1 else 0) ByteArray.empty [] []); rw [show (M.bx S1).1 = 0 from HN2.out.symm]; exact VB.bool _ _ _ _ false⟩⟩)
        · subst hc
          go_wp2_with fail
          refine (check_any _ HS7.out.dec).mono ?_
          rintro e w8 ⟨rfl, hd8, hf8⟩
          rw [show ck S2 _ = S2 from rfl] at hd8
          have HS8 := Lib.hid (HS7.out.callN hd8 hf8)
          have HM8 := Lib.hid (HS7.out.keep hM HM7.out hf8)
          clear hd8 hf8 g0 g1 g2 g3 g4 e0 e1 e2 e3 e4 y0 y1 y2 y3 y4
          obtain ⟨x0, x1, x2, x3, x4, -⟩ := lit5 HM8.out
          obtain ⟨m0, m1, m2, m3, m4, f0, f1, f2, f3, f4⟩ := lit5 HS8.out.box
          have hlt9 := HS8.out.lt
          go_wp2_with fail
          have hfin := lit_stored HS8.out.box (.int .i64 1) (.int .i64 1) (.string ByteArray.empty) (.slice none 0 0) (.slice none 0 0)
          refine bodyPost_ret (v := .agg #[.int .i64 1, .int .i64 1, .string ByteArray.empty, .slice none 0 0, .slice none 0 0]) (results_cell_row Tryz.results29 _ _ w.heap.size 31 _ (0, 0) _ rfl hfin Tryz.underlying31 rfl (by kernel_rfl)) rfl ?_
          exact rval_end HS8.out (Lib.hid ⟨by rw [M.dv_bool HB2.out HK.out.symm, ← HS1e.out]; show (M.bx S1).2 = _; unfold M.bx; rw [← HN2.out, ← HS2e.out, if_pos (by decide)], fun _ => ⟨by rw [M.dv_bool HB2.out HK.out.symm], by rw [M.dv_bool HB2.out HK.out.symm, ← HS1e.out]; show VB _ _ _ _ _ (.mk 1 (if (M.bx S1).1 = 1 then 1 else 0) ByteArray.empty [] []); rw [show (M.bx S1).1 = 1 from HN2.out.symm]; exact VB.bool _ _ _ _ true⟩⟩)
        · have z0 : (N2 == 0) = false := by rw [beq_eq_false_iff_ne]; exact hc.1
          have z1 : (N2 == 1) = false := by rw [beq_eq_false_iff_ne]; exact hc.2
          have HC := Lib.hid hc
          clear hc
          go_wp2_with fail
          refine (check_any _ HS7.out.dec).mono ?_
          rintro e w8 ⟨rfl, hd8, hf8⟩
          rw [show ck S2 _ = S2.bad from rfl] at hd8
          have HS8 := Lib.hid (HS7.out.callN hd8 hf8)
          have HM8 := Lib.hid (HS7.out.keep hM HM7.out hf8)
          clear hd8 hf8 g0 g1 g2 g3 g4 e0 e1 e2 e3 e4 y0 y1 y2 y3 y4
          obtain ⟨x0, x1, x2, x3, x4, -⟩ := lit5 HM8.out
          obtain ⟨m0, m1, m2, m3, m4, f0, f1, f2, f3, f4⟩ := lit5 HS8.out.box
          have hlt9 := HS8.out.lt
          go_wp2_with fail
          have hfin := lit_stored HS8.out.box (.int .i64 1) (.int .i64 N2) (.string ByteArray.empty) (.slice none 0 0) (.slice none 0 0)
          refine bodyPost_ret (v := .agg #[.int .i64 1, .int .i64 N2, .string ByteArray.empty, .slice none 0 0, .slice none 0 0]) (results_cell_row Tryz.results29 _ _ w.heap.size 31 _ (0, 0) _ rfl hfin Tryz.underlying31 rfl (by kernel_rfl)) rfl ?_
          exact rval_end HS8.out (Lib.hid ⟨by rw [M.dv_bool HB2.out HK.out.symm, ← HS1e.out]; show (M.bx S1).2 = _; unfold M.bx; rw [← HN2.out, ← HS2e.out, if_neg (by rintro (h | h); exact HC.out.1 h; exact HC.out.2 h)], fun h => absurd h (M.bad_e S2)⟩)
      · subst hk
        have hgd : (S1.e == 0) = true := by rw [HNL.out (by decide)]; rfl
        have HGD := Lib.hid hgd
        clear hgd
        go_wp2_with fail
        refine HN.out.mono ?_
        rintro e w2 ⟨rfl, hd', hf'⟩
        have HS3 := Lib.hid (HS2.out.callN hd' hf')
        have hM : w.heap.size < w2.heap.size := HS3.out.lt
        clear hd' hf' d0 d1 d2
        go_wp2_with fail
        refine (check_any _ (HS3.out.callB ((Below.refl _ _).alloc (Nat.le_refl _) _)).dec).mono ?_
        rintro e w5 ⟨rfl, hd5, hf5⟩
        rw [show ck S1 _ = S1 from rfl] at hd5
        have HS5 := Lib.hid ((HS3.out.callB ((Below.refl _ _).alloc (Nat.le_refl _) _)).callN hd5 hf5)
        have HM5 : Hid (w5.heap[w2.heap.size]? = some (.cells #[.int .i64 2, .int .i64 0, .string ByteArray.empty, .slice none 0 0, .slice none 0 0] 31 (0, 0))) := Lib.hid ((HS3.out.callB ((Below.refl _ _).alloc (Nat.le_refl _) _)).keep hM (heap_alloc_new w2 _) hf5)
        clear hd5 hf5
        go_wp2_with fail
        refine (good_any HS5.out.dec).mono ?_
        rintro e wg ⟨rfl, rfl⟩
        rw [HGD.out]
        obtain ⟨g0, g1, g2, g3, g4, e0, e1, e2, e3, e4⟩ := lit5 HM5.out
        go_wp2_with fail
        refine (number_any HS5.out.dec).mono ?_
        rintro e w6 ⟨rfl, hd6, hf6⟩
        have HS6 := Lib.hid (HS5.out.callN hd6 hf6)
        have HM6 := Lib.hid (HS5.out.keep hM HM5.out hf6)
        clear hd6 hf6 g0 g1 g2 g3 g4 e0 e1 e2 e3 e4
        obtain ⟨N2, hN2⟩ : ∃ N2, N2 = S1.num.1 := ⟨_, rfl⟩
        rw [← hN2]
        have HN2 := Lib.hid hN2
        have hb2' := int_of_num S1
        rw [← hN2] at hb2'
        clear hN2
        have HS7 := Lib.hid (HS6.out.boxed (k := 1) (u := .int .i64 N2) hM)
        have HM7 := Lib.hid (heap_setCell_same _ _ 1 _ _ (.int .i64 N2) HM6.out)
        obtain ⟨g0, g1, g2, g3, g4, e0, e1, e2, e3, e4⟩ := lit5 HM6.out
        have hl6 := row_lt HM6.out
        obtain ⟨x0, x1, x2, x3, x4, -⟩ := lit5 HM7.out
        obtain ⟨m0, m1, m2, m3, m4, f0, f1, f2, f3, f4⟩ := lit5 HS7.out.box
        have hlt9 := HS7.out.lt
        go_wp2_with fail
        have hfin := lit_stored HS7.out.box (.int .i64 2) (.int .i64 N2) (.string ByteArray.empty) (.slice none 0 0) (.slice none 0 0)
        refine bodyPost_ret (v := .agg #[.int .i64 2, .int .i64 N2, .string ByteArray.empty, .slice none 0 0, .slice none 0 0]) (results_cell_row Tryz.results29 _ _ w.heap.size 31 _ (0, 0) _ rfl hfin Tryz.underlying31 rfl (by kernel_rfl)) rfl ?_
        exact rval_end HS7.out (Lib.hid ⟨by rw [M.dv_int HB2.out HK.out.symm, ← HS1e.out], fun _ => ⟨by rw [M.dv_int HB2.out HK.out.symm], by rw [M.dv_int HB2.out HK.out.symm, ← HS1e.out]; show VB _ _ _ _ _ (.mk 2 S1.num.1 ByteArray.empty [] []); rw [← HN2.out]; exact VB.int _ _ _ _ _ hb2'.1 hb2'.2⟩⟩)
      · subst hk
        have hgd : (S1.e == 0) = true := by rw [HNL.out (by decide)]; rfl
        have HGD := Lib.hid hgd
        clear hgd
        go_wp2_with fail
        refine HN.out.mono ?_
        rintro e w2 ⟨rfl, hd', hf'⟩
        have HS3 := Lib.hid (HS2.out.callN hd' hf')
        have hM : w.heap.size < w2.heap.size := HS3.out.lt
        clear hd' hf' d0 d1 d2
        go_wp2_with fail
        refine (check_any _ (HS3.out.callB ((Below.refl _ _).alloc (Nat.le_refl _) _)).dec).mono ?_
        rintro e w5 ⟨rfl, hd5, hf5⟩
        rw [show ck S1 _ = S1 from rfl] at hd5
        have HS5 := Lib.hid ((HS3.out.callB ((Below.refl _ _).alloc (Nat.le_refl _) _)).callN hd5 hf5)
        have HM5 : Hid (w5.heap[w2.heap.size]? = some (.cells #[.int .i64 3, .int .i64 0, .string ByteArray.empty, .slice none 0 0, .slice none 0 0] 31 (0, 0))) := Lib.hid ((HS3.out.callB ((Below.refl _ _).alloc (Nat.le_refl _) _)).keep hM (heap_alloc_new w2 _) hf5)
        clear hd5 hf5
        go_wp2_with fail
        refine (good_any HS5.out.dec).mono ?_
        rintro e wg ⟨rfl, rfl⟩
        rw [HGD.out]
        obtain ⟨g0, g1, g2, g3, g4, e0, e1, e2, e3, e4⟩ := lit5 HM5.out
        have hts := (M.tx_len S1).2
        have HTS : Hid ((M.tx S1).1.size ≤ 140737488351232) := Lib.hid (by have := HLN.out; omega)
        clear hts
        go_wp2_with fail
        refine (rtext_any HS5.out.dec HLN.out).mono ?_
        rintro e w6 ⟨rfl, hd6, hf6⟩
        have HS6 := Lib.hid (HS5.out.callN hd6 hf6)
        have HM6 := Lib.hid (HS5.out.keep hM HM5.out hf6)
        clear hd6 hf6 g0 g1 g2 g3 g4 e0 e1 e2 e3 e4
        have HS7 := Lib.hid (HS6.out.boxed (k := 2) (u := .string (M.tx S1).1) hM)
        have HM7 := Lib.hid (heap_setCell_same _ _ 2 _ _ (.string (M.tx S1).1) HM6.out)
        obtain ⟨g0, g1, g2, g3, g4, e0, e1, e2, e3, e4⟩ := lit5 HM6.out
        have hl6 := row_lt HM6.out
        obtain ⟨x0, x1, x2, x3, x4, -⟩ := lit5 HM7.out
        obtain ⟨m0, m1, m2, m3, m4, f0, f1, f2, f3, f4⟩ := lit5 HS7.out.box
        have hlt9 := HS7.out.lt
        go_wp2_with fail
        have hfin := lit_stored HS7.out.box (.int .i64 3) (.int .i64 0) (.string (M.tx S1).1) (.slice none 0 0) (.slice none 0 0)
        refine bodyPost_ret (v := .agg #[.int .i64 3, .int .i64 0, .string (M.tx S1).1, .slice none 0 0, .slice none 0 0]) (results_cell_row Tryz.results29 _ _ w.heap.size 31 _ (0, 0) _ rfl hfin Tryz.underlying31 rfl (by kernel_rfl)) rfl ?_
        exact rval_end HS7.out (Lib.hid ⟨by rw [M.dv_text HB2.out HK.out.symm, ← HS1e.out], fun _ => ⟨by rw [M.dv_text HB2.out HK.out.symm], by rw [M.dv_text HB2.out HK.out.symm, ← HS1e.out]; exact VB.text _ _ _ _ _ HTS.out⟩⟩)
      · subst hk
        have hgd : (S1.e == 0) = true := by rw [HNL.out (by decide)]; rfl
        have HGD := Lib.hid hgd
        clear hgd
        go_wp2_with fail
        refine HN.out.mono ?_
        rintro e w2 ⟨rfl, hd', hf'⟩
        have HS3 := Lib.hid (HS2.out.callN hd' hf')
        have hM : w.heap.size < w2.heap.size := HS3.out.lt
        clear hd' hf' d0 d1 d2
        go_wp2_with fail
        refine (check_any _ (HS3.out.callB ((Below.refl _ _).alloc (Nat.le_refl _) _)).dec).mono ?_
        rintro e w5 ⟨rfl, hd5, hf5⟩
        rw [show ck S1 _ = S1 from rfl] at hd5
        have HS5 := Lib.hid ((HS3.out.callB ((Below.refl _ _).alloc (Nat.le_refl _) _)).callN hd5 hf5)
        have HM5 : Hid (w5.heap[w2.heap.size]? = some (.cells #[.int .i64 4, .int .i64 0, .string ByteArray.empty, .slice none 0 0, .slice none 0 0] 31 (0, 0))) := Lib.hid ((HS3.out.callB ((Below.refl _ _).alloc (Nat.le_refl _) _)).keep hM (heap_alloc_new w2 _) hf5)
        clear hd5 hf5
        go_wp2_with fail
        refine (good_any HS5.out.dec).mono ?_
        rintro e wg ⟨rfl, rfl⟩
        rw [HGD.out]
        obtain ⟨g0, g1, g2, g3, g4, e0, e1, e2, e3, e4⟩ := lit5 HM5.out
        have hdn : depth = 16 - (f' : Int) := by have := HDP.out; omega
        have hcall := ritems_list (IH.out f' (by omega)) hdn (by omega) HS5.out.dec (by have := HB2.out; omega) HLN.out
        obtain ⟨r, hr⟩ : ∃ r, r = lres (M.dL (M.dv f') (M.cx S1).1 (M.cx S1).2 (b + 1) []) := ⟨_, rfl⟩
        rw [← hr] at hcall
        have HR := Lib.hid hr
        have HCL := Lib.hid hcall
        clear hr hcall hdn
        go_wp2_with fail
        refine HCL.out.mono ?_
        rintro e w6 ⟨k3, n3, t3, A3, m3', c3, B3, p3, q3, b3, rfl, hd6, hv6, hf6⟩
        have HS6 := Lib.hid (HS5.out.callN hd6 hf6)
        have HM6 := Lib.hid (HS5.out.keep hM HM5.out hf6)
        have HV6 := Lib.hid hv6
        have hz6 := hf6.size
        have hl5 := row_lt HM5.out
        clear hd6 hf6 hv6 g0 g1 g2 g3 g4 e0 e1 e2 e3 e4
        obtain ⟨W7, hW7⟩ : ∃ W7, W7 = stored w6 w2.heap.size (.int .i64 k3) (.int .i64 n3) (.string t3) (.slice A3 m3' c3) (.slice B3 p3 q3) := ⟨_, rfl⟩
        have HS7 : Hid (RS w lo g D r.1 b3 W7) := Lib.hid (by
          rw [hW7]; exact ((((HS6.out.boxed (k := 0) (u := .int .i64 k3) hM).boxed (k := 1) (u := .int .i64 n3) hM).boxed (k := 2) (u := .string t3) hM).boxed (k := 3) (u := .slice A3 m3' c3) hM).boxed (k := 4) (u := .slice B3 p3 q3) hM)
        have HM7 : Hid (W7.heap[w2.heap.size]? = some (.cells #[.int .i64 k3, .int .i64 n3, .string t3, .slice A3 m3' c3, .slice B3 p3 q3] 31 (0, 0))) := Lib.hid (by
          rw [hW7]; exact lit_stored HM6.out (.int .i64 k3) (.int .i64 n3) (.string t3) (.slice A3 m3' c3) (.slice B3 p3 q3))
        have HRE : Hid ((M.dv (f' + 1) s0 b).1 = r.1 ∧ (r.1.e = 0 → b3 = (M.dv (f' + 1) s0 b).2.1 ∧ VB W7 (w.heap.size + 1) W7.heap.size (f' + 2) (.agg #[.int .i64 k3, .int .i64 n3, .string t3, .slice A3 m3' c3, .slice B3 p3 q3]) (M.dv (f' + 1) s0 b).2.2)) := Lib.hid (by
          have hdv : M.dv (f' + 1) s0 b = r := by rw [M.dv_list HB2.out HK.out.symm, ← HS1e.out]; exact HR.out.symm
          rw [hdv]
          refine ⟨rfl, fun h => ?_⟩
          obtain ⟨v1, v2⟩ := HV6.out h
          rw [hW7]
          exact ⟨v1, (v2.kept fun x x1 x2 => stored_other _ _ _ _ _ _ _ _ (by omega)).weak (by omega) (by rw [stored_size]; omega)⟩)
        have HW7 := Lib.hid hW7
        clear hW7
        obtain ⟨g0, g1, g2, g3, g4, e0, e1, e2, e3, e4⟩ := lit5 HM6.out
        have hl6 := row_lt HM6.out
        go_upto_region 18 with fail
        change Code.wp _ _ _ _ (stored w6 w2.heap.size (.int .i64 k3) (.int .i64 n3) (.string t3) (.slice A3 m3' c3) (.slice B3 p3 q3))
        rw [← HW7.out]
        clear g0 g1 g2 g3 g4 e0 e1 e2 e3 e4 hl6
        obtain ⟨x0, x1, x2, x3, x4, -⟩ := lit5 HM7.out
        obtain ⟨m0, m1, m2, m3, m4, f0, f1, f2, f3, f4⟩ := lit5 HS7.out.box
        have hlt9 := HS7.out.lt
        go_wp2_with fail
        have hfin := lit_stored HS7.out.box (.int .i64 k3) (.int .i64 n3) (.string t3) (.slice A3 m3' c3) (.slice B3 p3 q3)
        refine bodyPost_ret (v := .agg #[.int .i64 k3, .int .i64 n3, .string t3, .slice A3 m3' c3, .slice B3 p3 q3]) (results_cell_row Tryz.results29 _ _ w.heap.size 31 _ (0, 0) _ rfl hfin Tryz.underlying31 rfl (by kernel_rfl)) rfl ?_
        exact rval_end HS7.out (Lib.hid HRE.out)
      · subst hk
        have hgd : (S1.e == 0) = true := by rw [HNL.out (by decide)]; rfl
        have HGD := Lib.hid hgd
        clear hgd
        go_wp2_with fail
        refine HN.out.mono ?_
        rintro e w2 ⟨rfl, hd', hf'⟩
        have HS3 := Lib.hid (HS2.out.callN hd' hf')
        have hM : w.heap.size < w2.heap.size := HS3.out.lt
        clear hd' hf' d0 d1 d2
        go_wp2_with fail
        refine (check_any _ (HS3.out.callB ((Below.refl _ _).alloc (Nat.le_refl _) _)).dec).mono ?_
        rintro e w5 ⟨rfl, hd5, hf5⟩
        rw [show ck S1 _ = S1 from rfl] at hd5
        have HS5 := Lib.hid ((HS3.out.callB ((Below.refl _ _).alloc (Nat.le_refl _) _)).callN hd5 hf5)
        have HM5 : Hid (w5.heap[w2.heap.size]? = some (.cells #[.int .i64 5, .int .i64 0, .string ByteArray.empty, .slice none 0 0, .slice none 0 0] 31 (0, 0))) := Lib.hid ((HS3.out.callB ((Below.refl _ _).alloc (Nat.le_refl _) _)).keep hM (heap_alloc_new w2 _) hf5)
        clear hd5 hf5
        go_wp2_with fail
        refine (good_any HS5.out.dec).mono ?_
        rintro e wg ⟨rfl, rfl⟩
        rw [HGD.out]
        obtain ⟨g0, g1, g2, g3, g4, e0, e1, e2, e3, e4⟩ := lit5 HM5.out
        have hdn : depth = 16 - (f' : Int) := by have := HDP.out; omega
        have hcall := ritems_map (IH.out f' (by omega)) hdn (by omega) HS5.out.dec (by have := HB2.out; omega) HLN.out
        obtain ⟨r, hr⟩ : ∃ r, r = pres (M.dP (M.dv f') (M.cx S1).1 (M.cx S1).2 (b + 1) [] []) := ⟨_, rfl⟩
        rw [← hr] at hcall
        have HR := Lib.hid hr
        have HCL := Lib.hid hcall
        clear hr hcall hdn
        go_wp2_with fail
        refine HCL.out.mono ?_
        rintro e w6 ⟨k3, n3, t3, A3, m3', c3, B3, p3, q3, b3, rfl, hd6, hv6, hf6⟩
        have HS6 := Lib.hid (HS5.out.callN hd6 hf6)
        have HM6 := Lib.hid (HS5.out.keep hM HM5.out hf6)
        have HV6 := Lib.hid hv6
        have hz6 := hf6.size
        have hl5 := row_lt HM5.out
        clear hd6 hf6 hv6 g0 g1 g2 g3 g4 e0 e1 e2 e3 e4
        obtain ⟨W7, hW7⟩ : ∃ W7, W7 = stored w6 w2.heap.size (.int .i64 k3) (.int .i64 n3) (.string t3) (.slice A3 m3' c3) (.slice B3 p3 q3) := ⟨_, rfl⟩
        have HS7 : Hid (RS w lo g D r.1 b3 W7) := Lib.hid (by
          rw [hW7]; exact ((((HS6.out.boxed (k := 0) (u := .int .i64 k3) hM).boxed (k := 1) (u := .int .i64 n3) hM).boxed (k := 2) (u := .string t3) hM).boxed (k := 3) (u := .slice A3 m3' c3) hM).boxed (k := 4) (u := .slice B3 p3 q3) hM)
        have HM7 : Hid (W7.heap[w2.heap.size]? = some (.cells #[.int .i64 k3, .int .i64 n3, .string t3, .slice A3 m3' c3, .slice B3 p3 q3] 31 (0, 0))) := Lib.hid (by
          rw [hW7]; exact lit_stored HM6.out (.int .i64 k3) (.int .i64 n3) (.string t3) (.slice A3 m3' c3) (.slice B3 p3 q3))
        have HRE : Hid ((M.dv (f' + 1) s0 b).1 = r.1 ∧ (r.1.e = 0 → b3 = (M.dv (f' + 1) s0 b).2.1 ∧ VB W7 (w.heap.size + 1) W7.heap.size (f' + 2) (.agg #[.int .i64 k3, .int .i64 n3, .string t3, .slice A3 m3' c3, .slice B3 p3 q3]) (M.dv (f' + 1) s0 b).2.2)) := Lib.hid (by
          have hdv : M.dv (f' + 1) s0 b = r := by rw [M.dv_map HB2.out HK.out.symm, ← HS1e.out]; exact HR.out.symm
          rw [hdv]
          refine ⟨rfl, fun h => ?_⟩
          obtain ⟨v1, v2⟩ := HV6.out h
          rw [hW7]
          exact ⟨v1, (v2.kept fun x x1 x2 => stored_other _ _ _ _ _ _ _ _ (by omega)).weak (by omega) (by rw [stored_size]; omega)⟩)
        have HW7 := Lib.hid hW7
        clear hW7
        obtain ⟨g0, g1, g2, g3, g4, e0, e1, e2, e3, e4⟩ := lit5 HM6.out
        have hl6 := row_lt HM6.out
        go_upto_region 18 with fail
        change Code.wp _ _ _ _ (stored w6 w2.heap.size (.int .i64 k3) (.int .i64 n3) (.string t3) (.slice A3 m3' c3) (.slice B3 p3 q3))
        rw [← HW7.out]
        clear g0 g1 g2 g3 g4 e0 e1 e2 e3 e4 hl6
        obtain ⟨x0, x1, x2, x3, x4, -⟩ := lit5 HM7.out
        obtain ⟨m0, m1, m2, m3, m4, f0, f1, f2, f3, f4⟩ := lit5 HS7.out.box
        have hlt9 := HS7.out.lt
        go_wp2_with fail
        have hfin := lit_stored HS7.out.box (.int .i64 k3) (.int .i64 n3) (.string t3) (.slice A3 m3' c3) (.slice B3 p3 q3)
        refine bodyPost_ret (v := .agg #[.int .i64 k3, .int .i64 n3, .string t3, .slice A3 m3' c3, .slice B3 p3 q3]) (results_cell_row Tryz.results29 _ _ w.heap.size 31 _ (0, 0) _ rfl hfin Tryz.underlying31 rfl (by kernel_rfl)) rfl ?_
        exact rval_end HS7.out (Lib.hid HRE.out)
      · have HKK := Lib.hid hk
        have HNK := Lib.hid (show K ≠ 0 by omega)
        have hgd : (S1.bad.e == 0) = false := by rw [beq_eq_false_iff_ne]; exact M.bad_e S1
        have HGD := Lib.hid hgd
        clear hgd
        rcases hk with hk | hk
        · have k0 : ¬ 0 ≤ K := by omega
          go_wp2_with fail
          refine HN.out.mono ?_
          rintro e w2 ⟨rfl, hd', hf'⟩
          have HS3 := Lib.hid (HS2.out.callN hd' hf')
          have hM : w.heap.size < w2.heap.size := HS3.out.lt
          clear hd' hf' d0 d1 d2
          go_wp2_with fail
          refine (check_any _ (HS3.out.callB ((Below.refl _ _).alloc (Nat.le_refl _) _)).dec).mono ?_
          rintro e w5 ⟨rfl, hd5, hf5⟩
          rw [show ck S1 _ = S1.bad from rfl] at hd5
          have HS5 := Lib.hid ((HS3.out.callB ((Below.refl _ _).alloc (Nat.le_refl _) _)).callN hd5 hf5)
          have HM5 : Hid (w5.heap[w2.heap.size]? = some (.cells #[.int .i64 K, .int .i64 0, .string ByteArray.empty, .slice none 0 0, .slice none 0 0] 31 (0, 0))) := Lib.hid ((HS3.out.callB ((Below.refl _ _).alloc (Nat.le_refl _) _)).keep hM (heap_alloc_new w2 _) hf5)
          clear hd5 hf5
          go_wp2_with fail
          refine (good_any HS5.out.dec).mono ?_
          rintro e wg ⟨rfl, rfl⟩
          rw [HGD.out]
          clear HM5
          obtain ⟨m0, m1, m2, m3, m4, f0, f1, f2, f3, f4⟩ := lit5 HS5.out.box
          have hlt9 := HS5.out.lt
          go_wp2_with fail
          have hfin := lit_stored HS5.out.box (.int .i64 0) (.int .i64 0) (.string ByteArray.empty) (.slice none 0 0) (.slice none 0 0)
          refine bodyPost_ret (v := .agg #[.int .i64 0, .int .i64 0, .string ByteArray.empty, .slice none 0 0, .slice none 0 0]) (results_cell_row Tryz.results29 _ _ w.heap.size 31 _ (0, 0) _ rfl hfin Tryz.underlying31 rfl (by kernel_rfl)) rfl ?_
          exact rval_end HS5.out (Lib.hid ⟨by rw [M.dv_kind HB2.out (by rw [← HK.out]; exact HKK.out), ← HS1e.out], fun h => absurd h (M.bad_e S1)⟩)
        · have k0 : 0 ≤ K := by omega
          have k5 : ¬ K ≤ 5 := by omega
          have HK5 := Lib.hid k5
          go_wp2_with fail
          refine HN.out.mono ?_
          rintro e w2 ⟨rfl, hd', hf'⟩
          have HS3 := Lib.hid (HS2.out.callN hd' hf')
          have hM : w.heap.size < w2.heap.size := HS3.out.lt
          clear hd' hf' d0 d1 d2
          go_wp2_with fail
          refine (check_any _ (HS3.out.callB ((Below.refl _ _).alloc (Nat.le_refl _) _)).dec).mono ?_
          rintro e w5 ⟨rfl, hd5, hf5⟩
          rw [show ck S1 (decide (K ≤ 5)) = S1.bad by rw [decide_eq_false (show ¬ K ≤ 5 by omega)]; rfl] at hd5
          have HS5 := Lib.hid ((HS3.out.callB ((Below.refl _ _).alloc (Nat.le_refl _) _)).callN hd5 hf5)
          have HM5 : Hid (w5.heap[w2.heap.size]? = some (.cells #[.int .i64 K, .int .i64 0, .string ByteArray.empty, .slice none 0 0, .slice none 0 0] 31 (0, 0))) := Lib.hid ((HS3.out.callB ((Below.refl _ _).alloc (Nat.le_refl _) _)).keep hM (heap_alloc_new w2 _) hf5)
          clear hd5 hf5
          go_wp2_with fail
          refine (good_any HS5.out.dec).mono ?_
          rintro e wg ⟨rfl, rfl⟩
          rw [HGD.out]
          clear HM5
          obtain ⟨m0, m1, m2, m3, m4, f0, f1, f2, f3, f4⟩ := lit5 HS5.out.box
          have hlt9 := HS5.out.lt
          go_wp2_with fail
          have hfin := lit_stored HS5.out.box (.int .i64 0) (.int .i64 0) (.string ByteArray.empty) (.slice none 0 0) (.slice none 0 0)
          refine bodyPost_ret (v := .agg #[.int .i64 0, .int .i64 0, .string ByteArray.empty, .slice none 0 0, .slice none 0 0]) (results_cell_row Tryz.results29 _ _ w.heap.size 31 _ (0, 0) _ rfl hfin Tryz.underlying31 rfl (by kernel_rfl)) rfl ?_
          exact rval_end HS5.out (Lib.hid ⟨by rw [M.dv_kind HB2.out (by rw [← HK.out]; exact HKK.out), ← HS1e.out], fun h => absurd h (M.bad_e S1)⟩)
    · have hdead : s0.e ≠ 0 ∧ (M.dv f s b).1 = s0 := by
        by_cases hse : s.e = 0
        · have h0 : s0 = s.bad := by
            rw [HS0.out]; unfold ck
            rw [if_neg]
            rw [decide_eq_true_iff]
            exact fun h => ha ⟨h.1, h.2, hse⟩
          rw [h0]
          refine ⟨M.bad_e s, ?_⟩
          by_cases hb9 : 1000 ≤ b
          · rw [M.dv_full hb9]
          · have : f = 0 := by have := HDP.out; omega
            subst this
            rw [M.dv_zero]
        · have h0 : s0 = s := by rw [HS0.out]; exact ck_dead hse _
          rw [h0]
          exact ⟨hse, M.dv_dead hse⟩
      have HDEAD := Lib.hid hdead
      have hnd := M.num_dead hdead.1
      have hgd : (s0.e == 0) = false := by rw [beq_eq_false_iff_ne]; exact hdead.1
      have HGD := Lib.hid hgd
      have hck : ∀ ok, ck s0 ok = s0 := fun ok => ck_dead hdead.1 ok
      have HCK := Lib.hid hck
      rw [hnd] at HN
      clear hdead hnd hgd hck ha
      go_wp2_with fail
      refine HN.out.mono ?_
      rintro e w2 ⟨rfl, hd', hf'⟩
      have HS3 := Lib.hid (HS2.out.callN hd' hf')
      have hM : w.heap.size < w2.heap.size := HS3.out.lt
      clear hd' hf' d0 d1 d2
      go_wp2_with fail
      refine (check_any _ (HS3.out.callB ((Below.refl _ _).alloc (Nat.le_refl _) _)).dec).mono ?_
      rintro e w5 ⟨rfl, hd5, hf5⟩
      rw [HCK.out] at hd5
      have HS5 := Lib.hid ((HS3.out.callB ((Below.refl _ _).alloc (Nat.le_refl _) _)).callN hd5 hf5)
      have HM5 : Hid (w5.heap[w2.heap.size]? = some (.cells #[.int .i64 0, .int .i64 0, .string ByteArray.empty, .slice none 0 0, .slice none 0 0] 31 (0, 0))) := Lib.hid ((HS3.out.callB ((Below.refl _ _).alloc (Nat.le_refl _) _)).keep hM (heap_alloc_new w2 _) hf5)
      clear hd5 hf5
      go_wp2_with fail
      refine (good_any HS5.out.dec).mono ?_
      rintro e wg ⟨rfl, rfl⟩
      rw [HGD.out]
      clear HM5
      obtain ⟨m0, m1, m2, m3, m4, f0, f1, f2, f3, f4⟩ := lit5 HS5.out.box
      have hlt9 := HS5.out.lt
      go_wp2_with fail
      have hfin := lit_stored HS5.out.box (.int .i64 0) (.int .i64 0) (.string ByteArray.empty) (.slice none 0 0) (.slice none 0 0)
      refine bodyPost_ret (v := .agg #[.int .i64 0, .int .i64 0, .string ByteArray.empty, .slice none 0 0, .slice none 0 0]) (results_cell_row Tryz.results29 _ _ w.heap.size 31 _ (0, 0) _ rfl hfin Tryz.underlying31 rfl (by kernel_rfl)) rfl ?_
      exact rval_end HS5.out (Lib.hid ⟨HDEAD.out.2, fun h => absurd h HDEAD.out.1⟩)

theorem rval_at : ∀ f, f ≤ 16 → rvalAt f := by
  intro f
  induction f using Nat.strongRecOn with
  | _ f ih => exact fun hf => rval_all f hf (fun k hk => ih k hk (by omega))
end Go.Proofs.YtkodmhopollnpaaGreat

namespace Go.Proofs.YtkodmhopollnpaaGreat
set_option linter.unusedVariables false
open Go.RowKit
open M (V)

/-- What the reference's Decode returns. -/
def RDecD (lo g : Nat) (r : M.St × Nat × V) (w : World) (e : Ending) (w' : World) : Prop := ∃ v, e = .returned v ∧ VX w' w.heap.size w'.heap.size v (dout r) ∧ RfX w' lo g r.1 ∧ w.grownBy w' (some g)

theorem rdec_end {w w2 : World} {lo g : Nat} {s2 : M.St} {r : M.St × Nat × V} {d : Nat} {k n : Int} {t : ByteArray} {A B : Option Addr} {m c p e : Nat} {T : V} {o o1 : Obj} {w3 : World} (hg : g < w.heap.size)
    (hF : Frm ((w.alloc o).alloc o1).heap.size g (w.heap.size + 1 + 1) ((w.alloc o).alloc o1) w2) (hb : Below w2.heap.size w2 w3) (hR : RfX w3 lo g s2) (hV : VB w3 (w.heap.size + 2) w3.heap.size d (.agg #[.int .i64 k, .int .i64 n, .string t, .slice A m c, .slice B p e]) T)
    (hs : s2 = r.1) (hT : T = dout r) :
    RDecD lo g r w (.returned (.agg #[.int .i64 k, .int .i64 n, .string t, .slice A m c, .slice B p e])) (stored w3 w.heap.size (.int .i64 k) (.int .i64 n) (.string t) (.slice A m c) (.slice B p e)) := by
  have h1 := hF.size
  simp only [World.size_alloc] at h1
  have h2 := hb.size
  have hst := stored_size w3 w.heap.size (.int .i64 k) (.int .i64 n) (.string t) (.slice A m c) (.slice B p e)
  have hb1 : Below w.heap.size w ((w.alloc o).alloc o1) := ((Below.refl _ _).alloc (Nat.le_refl _) _).alloc (by simp) _
  have hb2 : Below w.heap.size w3 (stored w3 w.heap.size (.int .i64 k) (.int .i64 n) (.string t) (.slice A m c) (.slice B p e)) := stored_below (Below.refl w.heap.size w3) (Nat.le_refl _) _ _ _ _ _
  refine ⟨_, rfl, ⟨d, ?_⟩, ?_, ⟨?_, ?_, ?_, ?_, fun x x1 x2 => ?_⟩⟩
  · rw [← hT]
    exact (hV.kept fun x h1 h2 => stored_other _ _ _ _ _ _ _ _ (by omega)).weak (by omega) (by rw [hst]; omega)
  · rw [← hs]
    exact hR.kept fun x h1 h2 => stored_other _ _ _ _ _ _ _ _ (by omega)
  · exact hb2.os.trans (hb.os.trans (hF.os.trans hb1.os))
  · exact hb2.tape.trans (hb.tape.trans (hF.tape.trans hb1.tape))
  · exact hb2.output.trans (hb.output.trans (hF.output.trans hb1.output))
  · rw [hst]; omega
  · have hx : x ≠ g := fun e => x2 (by rw [e])
    exact (hb2.block x x1).trans ((hb.block x (by omega)).trans ((hF.blk x (by simp only [World.size_alloc]; omega) ⟨hx, by omega⟩).trans (hb1.block x x1)))

set_option maxRecDepth 100000 in
set_option maxHeartbeats 4000000 in
theorem rdecodeX {w : World} {lo g : Nat} {s : M.St} {r : M.St × Nat × V} (hr : r = M.dv 16 s 0) (h : RfX w lo g s) (hlo : lo ≤ g) (hs : s.l.length ≤ 100000000) :
    Calls Tryz.prog 9 #[.pointer (some ⟨g, 0, none⟩)] w (RDecD lo g r w) := by
  have hg := h.lt
  have hb0 : Below (w.heap.size + 2) ((w.alloc (.cells #[.int .i64 0, .int .i64 0, .string ByteArray.empty, .slice none 0 0, .slice none 0 0] 31)).alloc (.cells #[.pointer (some ⟨g, 0, none⟩), .int .i64 ((0 : Nat) : Int)] 61)) _ := Below.refl _ _
  obtain ⟨q0, q1⟩ := two_heap hb0 (Nat.le_refl _)
  have hd : Rdc ((w.alloc (.cells #[.int .i64 0, .int .i64 0, .string ByteArray.empty, .slice none 0 0, .slice none 0 0] 31)).alloc (.cells #[.pointer (some ⟨g, 0, none⟩), .int .i64 ((0 : Nat) : Int)] 61)) lo g (w.heap.size + 1) s 0 :=
    ⟨h.kept (Kept.of_below (two_below hb0) (by omega)), q1, by omega, hlo⟩
  have hcall := rval_at 16 (Nat.le_refl _) lo g (w.heap.size + 1) 0 s 1 _ (by omega) hd (by omega) hs
  rw [← hr] at hcall
  have HC := Lib.hid hcall
  have HZ := Lib.hid q0
  clear h hd hcall hr q0 q1 hb0
  go_enter Tryz.func9, Tryz.ntmps9
  go_wp2_with fail
  refine HC.out.mono ?_
  rintro e w2 ⟨k3, n3', t3, A3, n3, c3, B3, p3, e3, b3, rfl, hd2, hv2, hF⟩
  have hs2 := hF.size
  simp only [World.size_alloc] at hs2
  have hz2 := (hF.blk w.heap.size (by simp only [World.size_alloc]; omega) ⟨by omega, by omega⟩).trans HZ.out
  have hbox := box_refl w2 (.cells #[.int .i64 k3, .int .i64 n3', .string t3, .slice A3 n3 c3, .slice B3 p3 e3] 31)
  have hd3 := hd2.below (box_below hbox)
  have HZ3 := Lib.hid (((box_below hbox).block w.heap.size (by omega)).trans hz2)
  have HV : Hid (r.1.e = 0 → VB _ _ _ _ (.agg #[.int .i64 k3, .int .i64 n3', .string t3, .slice A3 n3 c3, .slice B3 p3 e3]) r.2.2) := Lib.hid (fun h => ((hv2 h).2.later (box_below hbox) (Nat.le_refl _)))
  have HD := Lib.hid hd3
  have HF := Lib.hid hF
  have hsz := box_size hbox
  clear hv2 hd2 hF hz2 hd3 HC HZ
  by_cases he : r.1.e = 0
  · have hbe : (r.1.e == 0) = true := by simpa using he
    have HBE := Lib.hid hbe
    have HE := Lib.hid he
    clear hbe he
    go_wp2_with fail
    refine (good_any HD.out).mono ?_
    rintro e w3 ⟨rfl, rfl⟩
    rw [HBE.out]
    obtain ⟨b0, b1, b2, b3, b4⟩ := box5 hbox
    obtain ⟨m0, m1, m2, m3, m4, f0, f1, f2, f3, f4⟩ := lit5 HZ3.out
    have HBX := Lib.hid hbox
    clear hbox
    go_wp2_with fail
    have hfin := lit_stored HZ3.out (.int .i64 k3) (.int .i64 n3') (.string t3) (.slice A3 n3 c3) (.slice B3 p3 e3)
    refine bodyPost_ret (v := .agg #[.int .i64 k3, .int .i64 n3', .string t3, .slice A3 n3 c3, .slice B3 p3 e3]) (results_cell_row Tryz.results9 _ _ w.heap.size 31 _ (0, 0) _ rfl hfin Tryz.underlying31 rfl (by kernel_rfl)) rfl ?_
    exact rdec_end hg HF.out (box_below HBX.out) HD.out.rd ((HV.out HE.out).weak (by simp) (by omega)) rfl (by unfold dout; rw [if_pos HE.out])
  · have hbe : (r.1.e == 0) = false := by simpa using he
    have HBE := Lib.hid hbe
    have HE := Lib.hid he
    clear hbe he
    go_wp2_with fail
    refine (good_any HD.out).mono ?_
    rintro e w3 ⟨rfl, rfl⟩
    rw [HBE.out]
    obtain ⟨m0, m1, m2, m3, m4, f0, f1, f2, f3, f4⟩ := lit5 HZ3.out
    have HBX := Lib.hid hbox
    clear hbox HV
    go_wp2_with fail
    have hfin := lit_stored HZ3.out (.int .i64 0) (.int .i64 0) (.string ByteArray.empty) (.slice none 0 0) (.slice none 0 0)
    refine bodyPost_ret (v := .agg #[.int .i64 0, .int .i64 0, .string ByteArray.empty, .slice none 0 0, .slice none 0 0]) (results_cell_row Tryz.results9 _ _ w.heap.size 31 _ (0, 0) _ rfl hfin Tryz.underlying31 rfl (by kernel_rfl)) rfl ?_
    exact rdec_end hg HF.out (box_below HBX.out) HD.out.rd (VB.null _ _ _ 0) rfl (by unfold dout; rw [if_neg HE.out])
end Go.Proofs.YtkodmhopollnpaaGreat

namespace Go.Proofs.YtkodmhopollnpaaGreat
set_option linter.unusedVariables false
open Go.RowKit
open M (V)

set_option maxRecDepth 100000 in
set_option maxHeartbeats 8000000 in
theorem decodesW {A : Option Addr} {n c lo hi : Nat} {l : List UInt8} (w : World) (hr : RB w lo hi A n c l) (hhi : hi ≤ w.heap.size) :
    Calls Tryz.prog 3 #[.slice A n c] w fun e w' => e = .returned (.bool true) ∧ Below w.heap.size w w' := by
  have hm := hr.most
  have hc := hr.cap
  unfold maxLen at hm
  by_cases h : 20000 < n
  · go_enter Tryz.func3, Tryz.ntmps3
    go_wp2_with fail
    refine (works_any _).mono ?_
    rintro e w1 ⟨rfl, hb⟩
    go_wp2_with fail
    go_ret
    exact ⟨rfl, hb⟩
  · have hn : n ≤ 20000 := by omega
    have HR := Lib.hid hr
    have hl : l.length ≤ 100000000 := by rw [hr.len]; omega
    clear h hr
    go_enter Tryz.func3, Tryz.ntmps3
    go_wp2_with fail
    refine (openX A n c l lo hi _ HR.out hhi (by omega)).mono ?_
    rintro e w1 ⟨g1, rfl, h1, hb1⟩
    have H1 := Lib.hid h1; have HB1 := Lib.hid hb1
    clear h1 hb1
    go_wp2_with fail
    refine (rOpenX A n c l lo hi _ (HR.out.kept (Kept.of_below HB1.out hhi)) (Nat.le_trans hhi HB1.out.size) (by omega)).mono ?_
    rintro e w2 ⟨g2, rfl, h2, hb2⟩
    have hg1 := H1.out.lt
    have hge1 : w.heap.size ≤ g1 := by obtain ⟨_, _, _, h⟩ := H1.out; exact h.low
    have hge2 : w1.heap.size ≤ g2 := by obtain ⟨_, _, _, h⟩ := h2; exact h.low
    have H12 := Lib.hid (H1.out.kept (Kept.of_below hb2 hg1))
    have H2 := Lib.hid h2
    have HB2 := Lib.hid (HB1.out.trans (hb2.mono HB1.out.size))
    clear h2 hb2
    go_wp2_with fail
    obtain ⟨r, hr⟩ : ∃ r, r = M.dv 16 (⟨l, 0⟩ : M.St) 0 := ⟨_, rfl⟩
    have hok : r.1.ok := by rw [hr]; exact M.dv_ok 16 _ _ (fun e => absurd rfl e)
    have HRR := Lib.hid hr
    clear hr
    refine (decodeX HRR.out H12.out hge1 hl).mono ?_
    rintro e w3 ⟨v, rfl, hv, hR3, hg3⟩
    obtain ⟨A3, m3, c3, B3, p3, e3, rfl⟩ := hv.form
    have H23 := Lib.hid (H2.out.kept (Kept.of_only hg3 (by have := H2.out.lt; omega) (.inl (by omega))))
    have HV := Lib.hid hv; have HR3 := Lib.hid hR3; have HG3 := Lib.hid hg3
    have hz3 := hg3.size
    clear hv hR3 hg3
    go_wp2_with fail
    refine (rdecodeX HRR.out H23.out hge2 hl).mono ?_
    rintro e w4 ⟨v, rfl, hv4, hR4, hg4⟩
    obtain ⟨A4, m4, c4, B4, p4, e4, rfl⟩ := hv4.form
    have hz4 := hg4.size
    have HR34 := Lib.hid (HR3.out.kept (Kept.of_only hg4 (by have := HR3.out.lt; omega) (.inr (by omega))))
    have HV34 := Lib.hid (HV.out.kept (Kept.of_only hg4 (Nat.le_refl _) (.inl (by have := H2.out.lt; omega))))
    have HV4 := Lib.hid hv4; have HR4 := Lib.hid hR4
    have hok4 := Lib.hid hok
    have HB4 : Hid (Below w.heap.size w w4) := Lib.hid (by
      have b := HB2.out
      exact (b.grown HG3.out b.size (fun k hk => by injection hk; omega)).grown hg4 (by have := b.size; omega) (fun k hk => by injection hk; omega))
    clear hv4 hR4 hg4 HV HR3 HG3 hok
    go_wp2_with fail
    have hb5 : Below (w4.heap.size + 2) ((w4.alloc (.cells #[.int .i64 (dout r).k, .int .i64 (dout r).n, .string (dout r).s, .slice A3 m3 c3, .slice B3 p3 e3] 31)).alloc (.cells #[.int .i64 (dout r).k, .int .i64 (dout r).n, .string (dout r).s, .slice A4 m4 c4, .slice B4 p4 e4] 31)) _ := Below.refl _ _
    have hz5 := two_size hb5
    refine (rSameX (HV34.out.later (two_below hb5) hz4) (HV4.out.later (two_below hb5) (Nat.le_refl _)) (by omega) (by omega)).mono ?_
    rintro e w6 ⟨rfl, hb6⟩
    rw [V.same_yes rfl]
    have hb7 := two_step hb5 hb6
    obtain ⟨E, hE⟩ : ∃ E, E = r.1.e := ⟨_, rfl⟩
    obtain ⟨L, hL⟩ : ∃ L, L = r.1.l.length := ⟨_, rfl⟩
    have HE := Lib.hid hE; have HL := Lib.hid hL
    have HD6 := Lib.hid (HR34.out.kept (Kept.of_below (two_below hb7) HR34.out.lt))
    have HF6 := Lib.hid (HR4.out.kept (Kept.of_below (two_below hb7) HR4.out.lt))
    have HB6 := Lib.hid (HB4.out.trans ((two_below hb7).mono HB4.out.size))
    clear hE hL hb5 hb6 hb7 HV34 HV4 HR34 HR4
    go_wp2_with fail
    refine (errX HD6.out).mono ?_
    rintro e w' ⟨rfl, rfl⟩
    rw [← HE.out]
    go_wp2_with fail
    refine (rErrX HF6.out).mono ?_
    rintro e w' ⟨rfl, rfl⟩
    rw [← HE.out]
    go_wp2_with fail
    refine (leftX HD6.out).mono ?_
    rintro e w' ⟨rfl, rfl⟩
    rw [← HL.out]
    go_wp2_with fail
    refine (rLeftX hok4.out HF6.out).mono ?_
    rintro e w' ⟨rfl, rfl⟩
    rw [← HL.out]
    go_wp2_with fail
    refine (decodeNil _).mono ?_
    rintro e w7 ⟨rfl, hb7⟩
    go_wp2_with fail
    refine (rSameX (⟨1, VB.null _ 0 0 0⟩ : VX w7 0 0 _ V.null) (⟨1, VB.null _ 0 0 0⟩ : VX w7 0 0 _ V.null) (Nat.zero_le _) (Nat.zero_le _)).mono ?_
    rintro e w8 ⟨rfl, hb8⟩
    rw [V.same_yes rfl]
    go_wp2_with fail
    refine (works_any _).mono ?_
    rintro e w9 ⟨rfl, hb9⟩
    go_wp2_with fail
    go_ret
    have z1 := HB6.out.size
    have z2 := hb7.size
    have z3 := hb8.size
    exact ⟨rfl, ((HB6.out.trans (hb7.mono (by omega))).trans (hb8.mono (by omega))).trans (hb9.mono (by omega))⟩
end Go.Proofs.YtkodmhopollnpaaGreat
