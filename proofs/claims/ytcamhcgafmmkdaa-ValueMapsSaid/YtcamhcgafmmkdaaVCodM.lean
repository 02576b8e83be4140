/-
  Layer 2: the code's Map at no key, and at lists of two lengths.
-/
import Derived.Test.YtcamhcgafmmkdaaVCodL
import Derived.LoopN
namespace Go.Proofs.Ytcamhcgafmmkdaa
set_option linter.unusedVariables false
open Go.RowKit
open M (V)

set_option maxHeartbeats 1000000 in
theorem ins_none (p : Option Addr) (c : Nat) (fv : Value) (w : World) :
    Calls Try.prog 69 #[.slice p 0 c, .int .i64 0, .int .i64 0, fv] w fun e w' => e = .returned (.tuple #[]) ∧ w = w' := by
  go_enter Try.func69, Try.ntmps69
  go_wp2_with fail
  refine wp_loop_rounds 1 ?_
  rw [rounds_succ]
  go_wp2_with fail
  go_end0
  exact ⟨rfl, rfl⟩
set_option maxRecDepth 100000 in
set_option maxHeartbeats 1000000 in
theorem pdq_none (p : Option Addr) (c : Nat) (k : Int) (fv : Value) (w : World) :
    Calls Try.prog 61 #[.slice p 0 c, .int .i64 0, .int .i64 0, .int .i64 k, fv] w fun e w' => e = .returned (.tuple #[]) ∧ w = w' := by
  go_enter Try.func61, Try.ntmps61
  go_wp2_with fail
  refine wp_loop_rounds 1 ?_
  rw [rounds_succ]
  go_wp2_with fail
  refine (ins_none _ _ _ _).mono ?_
  rintro e w' ⟨rfl, rfl⟩
  go_wp2_with fail
  (try simp only [Exit.inBlock, Exit.then]); refine bodyPost_ret (results_none rfl _ _ _) rfl ?_
  exact ⟨rfl, rfl⟩
set_option maxRecDepth 100000 in
set_option maxHeartbeats 1000000 in
theorem len64_0 (w : World) : Calls Try.prog 78 #[.int .u64 0] w fun e w' => (∃ k : Int, e = .returned (.int .i64 k)) ∧ w = w' := by
  go_enter Try.func78, Try.ntmps78
  go_wp2_with fail
  go_ret
  exact ⟨⟨_, rfl⟩, rfl⟩
set_option maxHeartbeats 1000000 in
theorem len_0 (w : World) : Calls Try.prog 62 #[.int .u64 0] w fun e w' => (∃ k : Int, e = .returned (.int .i64 k)) ∧ w = w' := by
  go_enter Try.func62, Try.ntmps62
  go_wp2_with fail
  refine (len64_0 _).mono ?_
  rintro e w' ⟨⟨k, rfl⟩, rfl⟩
  go_wp2_with fail
  go_ret
  exact ⟨⟨_, rfl⟩, rfl⟩
set_option maxHeartbeats 1000000 in
theorem sort_none (p : Option Addr) (c : Nat) (fv : Value) (w : World) :
    Calls Try.prog 49 #[.slice p 0 c, fv] w fun e w' => e = .returned (.tuple #[]) ∧ w = w' := by
  go_enter Try.func49, Try.ntmps49
  go_wp2_with fail
  refine (len_0 _).mono ?_
  rintro e w' ⟨⟨k, rfl⟩, rfl⟩
  go_wp2_with fail
  refine (pdq_none _ _ _ _ _).mono ?_
  rintro e w' ⟨rfl, rfl⟩
  go_wp2_with fail
  go_end0
  exact ⟨rfl, rfl⟩
set_option maxHeartbeats 1000000 in
theorem places_none (A : Option Addr) (c : Nat) (w : World) :
    Calls Try.prog 32 #[.slice A 0 c] w fun e w' => (∃ B c', e = .returned (.slice B 0 c')) ∧ Below w.heap.size w w' := by
  have hb0 := (Below.refl w.heap.size w).alloc (Nat.le_refl _) (.cells #[.slice A 0 c] 23)
  go_enter Try.func32, Try.ntmps32
  go_wp2_with (at_make; refine wpList_make_ints rfl _ _ rfl 0 rfl rfl (by omega) ?_)
  intro w1 cs hcs hsz hb1
  have hb2 : Below (w.heap.size + 1) (w.alloc (.cells #[.slice A 0 c] 23)) w1 := hb1
  clear hcs hsz hb1
  go_wp2_with fail
  refine wp_loop_rounds 1 ?_
  rw [rounds_succ]
  go_wp2_with fail
  refine (sort_none _ _ _ _).mono ?_
  rintro e w' ⟨rfl, rfl⟩
  go_wp2_with fail
  go_ret
  exact ⟨⟨_, _, rfl⟩, hb0.trans (hb2.mono (by omega))⟩

theorem within_none : V.within (.mk 5 0 ByteArray.empty [] []) = true := by
  simp [V.within, V.short, V.shorts, V.txt, V.dep, V.deps, V.sz, V.szs, V.s, V.ks, M.fits, ByteArray.size]
set_option maxRecDepth 100000 in
set_option maxHeartbeats 4000000 in
theorem map_none (A B : Option Addr) (c e0 d : Nat) (w : World) :
    Calls Try.prog 14 #[.slice A 0 c, .slice B 0 e0] w (NewM w.heap.size d [] [] w) := by
  have hb0 : Below (w.heap.size + 2) ((w.alloc (.cells #[.int .i64 0, .int .i64 0, .string ByteArray.empty, .slice none 0 0, .slice none 0 0] 25)).alloc (.cells #[.int .i64 5, .int .i64 0, .string ByteArray.empty, .slice none 0 0, .slice none 0 0] 25)) _ := Below.refl _ _
  go_enter Try.func14, Try.ntmps14
  go_wp2_with fail
  refine (places_none _ _ _).mono ?_
  rintro e w1 ⟨⟨B1, c1, rfl⟩, hb1⟩
  have hb2 := two_step hb0 hb1
  obtain ⟨h1, h2⟩ := two_heap hb2 (Nat.le_refl _)
  obtain ⟨m0, m1, m2, m3, m4, f0, f1, f2, f3, f4⟩ := lit5 h2
  have H1 := Lib.hid h1; have H2 := Lib.hid h2
  have hz2 := two_size hb2
  clear h1 h2 hb1
  go_wp2_with fail
  refine wp_loop_rounds 1 ?_
  rw [rounds_succ]
  go_wp2_with fail
  refine (ascending_any (KS.nil_ w1 0 0) (Nat.zero_le _)).mono ?_
  rintro e w2 ⟨rfl, hb3⟩
  rw [show M.rise [] = true from M.rise_yes (fun i hi => absurd hi (by simp))]
  have hb4 := two_step hb2 hb3
  obtain ⟨h1, h2⟩ := two_heap hb4 (Nat.le_refl _)
  clear m0 m1 m2 m3 m4 f0 f1 f2 f3 f4
  obtain ⟨m0, m1, m2, m3, m4, f0, f1, f2, f3, f4⟩ := lit5 h2
  have hz4 := two_size hb4
  clear h1 h2
  go_wp2_with fail
  refine (copyWithin_any (d := d + 1) (t := .mk 5 0 ByteArray.empty [] []) (lo := 0) (hi := 0) ⟨none, 0, 0, none, 0, 0, rfl, by simp [V.k], by simp [V.k], by simp [V.n], by simp [V.n], by simp [V.s], IS.nil_ _ _ _ _, KS.nil_ _ _ _⟩ (Nat.zero_le _)).mono ?_
  rintro e w3 ⟨hy, hno, hb5⟩
  obtain ⟨v3, rfl, hv3⟩ := hy within_none
  obtain ⟨A2, m2', c2, B2, p2, e2, rfl⟩ := hv3.agg
  have HV3 := Lib.hid hv3
  have hb6 := two_step hb4 hb5
  obtain ⟨h1, h2⟩ := two_heap hb6 (Nat.le_refl _)
  clear m0 m1 m2 m3 m4 f0 f1 f2 f3 f4 hy hno hv3
  obtain ⟨m0, m1, m2, m3, m4, f0, f1, f2, f3, f4⟩ := lit5 h1
  have H5 := Lib.hid h1
  clear h1 h2
  go_wp2_with fail
  have hfin := lit_stored H5.out (.int .i64 5) (.int .i64 0) (.string ByteArray.empty) (.slice A2 m2' c2) (.slice B2 p2 e2)
  refine bodyPost_ret (v := .tuple #[.agg #[.int .i64 5, .int .i64 0, .string ByteArray.empty, .slice A2 m2' c2, .slice B2 p2 e2], .int .i64 0]) (results_cell_slot Try.results14 _ _ (w.heap.size) 25 _ (0, 0) _ rfl hfin (by kernel_rfl) rfl) rfl ?_
  have hrr : M.rise (([] : List Nat).map (keyOf [])) = true := M.rise_yes (fun i hi => absurd hi (by simp))
  refine ⟨[], List.Perm.refl _, (fun i j _ h => absurd h (by simp)), (fun h => by rw [hrr] at h; cases h), (fun _ h => absurd (within_none.symm.trans h) (by simp)), fun _ _ => ⟨_, rfl, ?_⟩, stored_below (two_below hb6) (Nat.le_refl _) _ _ _ _ _⟩
  have hx := HV3.out.kept (show Kept w2.heap.size w3.heap.size w3 (stored w3 w.heap.size (.int .i64 5) (.int .i64 0) (.string ByteArray.empty) (.slice A2 m2' c2) (.slice B2 p2 e2)) from fun b x1 x2 => stored_other _ _ _ _ _ _ _ _ (by omega))
  exact hx.weak (by omega) (by show _ ≤ (stored _ _ _ _ _ _ _).heap.size; rw [stored_size]; omega)
set_option maxRecDepth 100000 in
set_option maxHeartbeats 1000000 in
theorem map_len (A B : Option Addr) (n m c e0 : Nat) (w : World) (hnm : n ≠ m) (h1 : n ≤ 140737488355328) (h2 : m ≤ 140737488355328) :
    Calls Try.prog 14 #[.slice A n c, .slice B m e0] w fun e w' => e = .returned (.tuple #[.agg #[.int .i64 0, .int .i64 0, .string ByteArray.empty, .slice none 0 0, .slice none 0 0], .int .i64 6]) ∧ Below w.heap.size w w' := by
  have hb : ((n : Int) != (m : Int)) = true := by rw [bne_iff_ne]; omega
  clear hnm
  have hb0 := (Below.refl w.heap.size w).alloc (Nat.le_refl _) (.cells #[.int .i64 0, .int .i64 0, .string ⟨#[]⟩, .slice none 0 0, .slice none 0 0] 25)
  have hn0 := heap_alloc_new w (.cells #[.int .i64 0, .int .i64 0, .string ⟨#[]⟩, .slice none 0 0, .slice none 0 0] 25)
  have HN0 := Lib.hid hn0
  clear hn0
  go_enter Try.func14, Try.ntmps14
  go_wp2_with fail
  refine (null_any _).mono ?_
  rintro e w1 ⟨rfl, hb1⟩
  have hr : w1.heap[w.heap.size]? = some (.cells #[.int .i64 0, .int .i64 0, .string ⟨#[]⟩, .slice none 0 0, .slice none 0 0] 25 (0, 0)) := (hb1.block _ (by simp)).trans HN0.out
  obtain ⟨b0, b1, b2, b3, b4, f0, f1, f2, f3, f4⟩ := lit5 hr
  have HR := Lib.hid hr
  clear hr
  go_wp2_with fail
  have hfin := lit_stored HR.out (.int .i64 0) (.int .i64 0) (.string ByteArray.empty) (.slice none 0 0) (.slice none 0 0)
  refine bodyPost_ret (v := .tuple #[.agg #[.int .i64 0, .int .i64 0, .string ByteArray.empty, .slice none 0 0, .slice none 0 0], .int .i64 6]) (results_cell_slot Try.results14 _ _ (w.heap.size) 25 _ (0, 0) _ rfl hfin (by kernel_rfl) rfl) rfl ?_
  exact ⟨rfl, stored_below (below_step hb0 hb1) (Nat.le_refl _) _ _ _ _ _⟩
end Go.Proofs.Ytcamhcgafmmkdaa
