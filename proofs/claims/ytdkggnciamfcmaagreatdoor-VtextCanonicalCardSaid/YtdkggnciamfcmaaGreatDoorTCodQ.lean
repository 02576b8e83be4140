/-
  Layer 3: the code's Parse.
-/
import Derived.Test.YtdkggnciamfcmaaGreatDoorTCodG
import Derived.Test.YtdkggnciamfcmaaGreatDoorTCodP
import Derived.Defers
namespace Go.Proofs.YtdkggnciamfcmaaGreatDoor
set_option linter.unusedVariables false
open Go.RowKit
open M (V Res)

namespace M
/-- What Parse gives. -/
def fin (s : ByteArray) (q : Res V) : V × Nat × Int := match q with
  | .ok t j _ => if skip s j < s.size then (V.null, skip s j, 3) else (t, 0, 0)
  | .no k e => (V.null, k, e)
def parse (s : ByteArray) : V × Nat × Int := fin s (pv 16 s 0 0)
end M

theorem four_facts (w : World) (o1 o2 o3 o4 : Obj) : Below w.heap.size w ((((w.alloc o1).alloc o2).alloc o3).alloc o4) ∧ ((((w.alloc o1).alloc o2).alloc o3).alloc o4).heap.size = w.heap.size + 4 ∧
    ((((w.alloc o1).alloc o2).alloc o3).alloc o4).heap[w.heap.size]? = some o1 ∧ ((((w.alloc o1).alloc o2).alloc o3).alloc o4).heap[w.heap.size + 1]? = some o2 ∧
    ((((w.alloc o1).alloc o2).alloc o3).alloc o4).heap[w.heap.size + 1 + 1]? = some o3 ∧ ((((w.alloc o1).alloc o2).alloc o3).alloc o4).heap[w.heap.size + 1 + 1 + 1]? = some o4 := by
  have z1 : (w.alloc o1).heap.size = w.heap.size + 1 := World.size_alloc _ _
  have z2 : ((w.alloc o1).alloc o2).heap.size = w.heap.size + 1 + 1 := by rw [World.size_alloc, z1]
  have z3 : (((w.alloc o1).alloc o2).alloc o3).heap.size = w.heap.size + 1 + 1 + 1 := by rw [World.size_alloc, z2]
  refine ⟨(((Below.refl _ _).alloc (Nat.le_refl _) _).alloc (by omega) _ |>.alloc (by omega) _).alloc (by omega) _, by rw [World.size_alloc, z3], ?_, ?_, ?_, ?_⟩
  · rw [Below.heap_alloc _ _ _ (by omega), Below.heap_alloc _ _ _ (by omega), Below.heap_alloc _ _ _ (by omega)]; exact heap_alloc_new _ _
  · rw [Below.heap_alloc _ _ _ (by omega), Below.heap_alloc _ _ _ (by omega), ← z1]; exact heap_alloc_new _ _
  · rw [Below.heap_alloc _ _ _ (by omega), ← z2]; exact heap_alloc_new _ _
  · rw [← z3]; exact heap_alloc_new _ _

theorem door3 {a b d e y z x0 x1 x2 x3 x4 x5 x6 : Value} {c : Value} {r2 r3 r4 : Nat} {w W : World} (hb : Below r2 w W) (hr3 : r2 < r3) (hr4 : r3 < r4) (h2 : W.heap[r2]? = some (.cells #[x0, x1, x2, x3, x4] 25 (0, 0))) (h3 : W.heap[r3]? = some (.cells #[x5] 3 (0, 0))) (h4 : W.heap[r4]? = some (.cells #[x6] 28 (0, 0))) {X : World} (hX : X = ((stored W r2 a b c d e).setCell ⟨r3, 0, none⟩ y).setCell ⟨r4, 0, none⟩ z) :
    X.heap[r2]? = some (.cells #[a, b, c, d, e] 25 (0, 0)) ∧ X.heap[r3]? = some (.cells #[y] 3 (0, 0)) ∧ X.heap[r4]? = some (.cells #[z] 28 (0, 0)) ∧ Below r2 w X ∧ (∀ k, k ≠ r2 → k ≠ r3 → k ≠ r4 → X.heap[k]? = W.heap[k]?) ∧ X.heap.size = W.heap.size := by
  have g2 := lit_stored h2 a b c d e
  have g3 := (stored_other W r2 r3 a b c d e (by omega)).trans h3
  have g4 := (stored_other W r2 r4 a b c d e (by omega)).trans h4
  have gb := stored_below hb (Nat.le_refl r2) a b c d e
  have go : ∀ k, k ≠ r2 → (stored W r2 a b c d e).heap[k]? = W.heap[k]? := fun k hk => stored_other W r2 k a b c d e hk
  have gs := stored_size W r2 a b c d e
  generalize stored W r2 a b c d e = Y at *
  subst hX
  refine ⟨?_, ?_, ?_, (gb.setCell (p := ⟨r3, 0, none⟩) (by show r2 ≤ r3; omega) _).setCell (p := ⟨r4, 0, none⟩) (by show r2 ≤ r4; omega) _, fun k k1 k2 k3 => ?_, by rw [set_size, set_size]; exact gs⟩
  · rw [heap_setCell_other _ _ _ _ (by show r2 ≠ r4; omega), heap_setCell_other _ _ _ _ (by show r2 ≠ r3; omega)]; exact g2
  · rw [heap_setCell_other _ _ _ _ (by show r3 ≠ r4; omega)]; exact heap_setCell_same _ _ 0 _ _ _ g3
  · exact heap_setCell_same _ _ 0 _ _ _ ((heap_setCell_other _ _ _ _ (by show r4 ≠ r3; omega)).trans g4)
  · rw [heap_setCell_other _ _ _ _ (by show k ≠ r4; omega), heap_setCell_other _ _ _ _ (by show k ≠ r3; omega)]; exact go k k1

theorem results_cells3 {fn : Func} {p q r : Tmp} (h : fn.results = #[.cell p 25, .cell q 3, .cell r 28]) (tmps : Array Value) (w : World) (g1 g2 g3 : Nat) (cs : Array Value) (fr : Nat × Nat) (x y : Int)
    (hp : tmps.getD p undef = .pointer (some ⟨g1, 0, none⟩)) (hq : tmps.getD q undef = .pointer (some ⟨g2, 0, none⟩)) (hr : tmps.getD r undef = .pointer (some ⟨g3, 0, none⟩))
    (hg : w.heap[g1]? = some (.cells cs 25 fr)) (hi : (Tryz.prog.info? 25).map (·.size) = some cs.size) (hx : w.cell? ⟨g2, 0, none⟩ = some (.int .i64 x)) (hy : w.cell? ⟨g3, 0, none⟩ = some (.int .i64 y)) :
    (results fn tmps).run Tryz.prog w = .ok (.tuple #[.agg cs, .int .i64 x, .int .i64 y]) w := by
  have hp' : tmps[p]?.getD undef = .pointer (some ⟨g1, 0, none⟩) := by simpa using hp
  have hq' : tmps[q]?.getD undef = .pointer (some ⟨g2, 0, none⟩) := by simpa using hq
  have hr' : tmps[r]?.getD undef = .pointer (some ⟨g3, 0, none⟩) := by simpa using hr
  have l1 := run_loadVar_row w g1 25 _ cs fr _ hg Tryz.underlying25 rfl hi
  have l2 : (loadVar 3 ⟨g2, 0, none⟩).run Tryz.prog w = .ok (.int .i64 x) w := by simp [go_sem, hx]
  have l3 : (loadVar 28 ⟨g3, 0, none⟩).run Tryz.prog w = .ok (.int .i64 y) w := by simp [go_sem, hy]
  simp [results, h, hp', hq', hr', asAddr, l1, l2, l3]

set_option maxRecDepth 100000 in
set_option maxHeartbeats 8000000 in
theorem parse_any (hpv : parseAt 16 (M.pv 16)) {w : World} {s : ByteArray} (hs : s.size ≤ 1000000000) (hD : Doors w) (h8 : 5 ≤ w.heap.size) :
    Calls Tryz.prog 15 #[.string s] w fun e w' => ∃ v, e = .returned (.tuple #[v, .int .i64 ((M.parse s).2.1 : Int), .int .i64 (M.parse s).2.2]) ∧ VB w' w.heap.size w'.heap.size 17 v (M.parse s).1 ∧ Below w.heap.size w w' := by
  have hmf : ∀ (xs : Array Value) (f : Nat) (w : World), (Instr.makeFunc (Fn.func f) #[] xs).run Tryz.prog w = .ok (.func (Fn.func f) #[] xs) w := fun xs f w => by simp [Instr.makeFunc, go_sem]
  obtain ⟨r, hr⟩ : ∃ r, r = M.parse s := ⟨_, rfl⟩
  rw [← hr]
  have HR := Lib.hid hr
  clear hr
  obtain ⟨fb, fz, f2, f3, f4, f5⟩ := four_facts w (.cells #[.int .i64 0, .int .i64 0, .string ⟨#[]⟩, .slice none 0 0, .slice none 0 0] 25 (0, 0)) (.cells #[.int .i64 0] 3 (0, 0)) (.cells #[.int .i64 0] 28 (0, 0)) (.cells #[.string s, .int .i64 0, .int .i64 0] 49 (0, 0))
  go_enter_defers Tryz.func15, Tryz.ntmps15
  go_wp2_with fail
  generalize hW0 : ((((w.alloc (.cells #[.int .i64 0, .int .i64 0, .string ⟨#[]⟩, .slice none 0 0, .slice none 0 0] 25)).alloc (.cells #[.int .i64 0] 3)).alloc (.cells #[.int .i64 0] 28)).alloc (.cells #[.string s, .int .i64 0, .int .i64 0] 49)) = W0 at *
  have hP0 : Prs W0 (w.heap.size + 1 + 1 + 1) s 0 0 := ⟨f5, Nat.zero_le _, hs, Nat.zero_le _⟩
  have hg0 : w.grownBy W0 (some (w.heap.size + 1 + 1 + 1)) := Below.only fb
  have hD0 : Doors W0 := hD.grown hg0 (by omega)
  have FB := Lib.hid fb; have F2 := Lib.hid f2; have F3 := Lib.hid f3; have F4 := Lib.hid f4
  have HSZ := Lib.hid fz
  clear hW0 fb f2 f3 f4 f5 hg0 hD fz
  refine (hpv (w.heap.size + 1 + 1 + 1) 0 0 s 1 W0 (by omega) hP0 hD0 (by omega)).mono ?_
  rintro e w1 ⟨hg1, hm⟩
  obtain ⟨q, hq⟩ : ∃ q, q = M.pv 16 s 0 0 := ⟨_, rfl⟩
  rw [← hq] at hm
  have HR2 : Hid (r = M.fin s q) := Lib.hid (by rw [HR.out]; unfold M.parse; rw [hq])
  have HB1 : Hid (Below w.heap.size w w1) := Lib.hid (FB.out.trans ⟨hg1.os, hg1.tape, hg1.output, hg1.size, fun k hk => hg1.block k (by have := HSZ.out; omega) (fun e => by injection e; omega)⟩)
  have HF2 := Lib.hid ((hg1.block w.heap.size (by have := HSZ.out; omega) (fun e => by injection e; omega)).trans F2.out)
  have HF3 := Lib.hid ((hg1.block (w.heap.size + 1) (by have := HSZ.out; omega) (fun e => by injection e; omega)).trans F3.out)
  have HF4 := Lib.hid ((hg1.block (w.heap.size + 1 + 1) (by have := HSZ.out; omega) (fun e => by injection e; omega)).trans F4.out)
  have hz1 := hg1.size
  have HZ1 : Hid (w.heap.size + 4 ≤ w1.heap.size) := Lib.hid (by have := HSZ.out; omega)
  clear hP0 hD0 hg1 hq FB F2 F3 F4 HR hpv hz1
  rcases q with ⟨t, j, b⟩ | ⟨kk, er⟩
  rotate_left
  · subst hm
    have HR3 : Hid (r = (V.null, kk, er)) := Lib.hid HR2.out
    refine leaves_cons (f := 24) (args := #[.pointer (some ⟨w.heap.size, 0, none⟩), .pointer (some ⟨w.heap.size + 1, 0, none⟩), .pointer (some ⟨w.heap.size + 1 + 1, 0, none⟩)]) (by simp) (by simp [go_sem]) ?_
    refine (catch_fault w.heap.size (w.heap.size + 1) (w.heap.size + 1 + 1) kk er w1 (by omega) (by omega) HF2.out HF3.out HF4.out).mono ?_
    rintro e u' w2 ⟨rfl, rfl, hc⟩
    have HCA := Lib.hid hc
    clear hc
    have k2 := HCA.out.v
    have k3 := cell_of_row _ _ 0 _ _ _ HCA.out.at_
    have k4 := cell_of_row _ _ 0 _ _ _ HCA.out.e
    have HVN : Hid (VB w2 w.heap.size w2.heap.size 17 (.agg #[.int .i64 0, .int .i64 0, .string ByteArray.empty, .slice none 0 0, .slice none 0 0]) V.null) := Lib.hid (VB.null w2 w.heap.size w2.heap.size 16)
    refine ⟨_, results_cells3 Tryz.results15 _ _ w.heap.size (w.heap.size + 1) (w.heap.size + 1 + 1) _ (0, 0) kk er rfl rfl rfl k2 (by kernel_rfl) k3 k4, ?_⟩
    have h3 := HR3.out
    subst h3
    exact ⟨_, rfl, HVN.out, HB1.out.trans HCA.out.bel⟩
  obtain ⟨v, rfl, hP1, hv1⟩ := hm
  have hv1 : VB w1 W0.heap.size w1.heap.size 17 v t := hv1
  obtain ⟨A3, n3, c3, B3, p3, e3, rfl⟩ := hv1.agg
  obtain ⟨g0, g1, g2', g3, g4, e0, e1, e2, e3', e4⟩ := lit5 HF2.out
  have hlt1 : w1.heap.size > w.heap.size := by have := HZ1.out; omega
  have HP1 := Lib.hid hP1; have HV1 := Lib.hid hv1
  clear hP1 hv1
  go_wp2_with fail
  have hoth : ∀ k, k ≠ w.heap.size → (stored w1 w.heap.size (.int .i64 t.k) (.int .i64 t.n) (.string t.s) (.slice A3 n3 c3) (.slice B3 p3 e3)).heap[k]? = w1.heap[k]? := fun k hk => stored_other w1 w.heap.size k _ _ _ _ _ hk
  have hbst := stored_below HB1.out (Nat.le_refl _) (.int .i64 t.k) (.int .i64 t.n) (.string t.s) (.slice A3 n3 c3) (.slice B3 p3 e3)
  have hsz2 := stored_size w1 w.heap.size (.int .i64 t.k) (.int .i64 t.n) (.string t.s) (.slice A3 n3 c3) (.slice B3 p3 e3)
  have hr2 := lit_stored HF2.out (.int .i64 t.k) (.int .i64 t.n) (.string t.s) (.slice A3 n3 c3) (.slice B3 p3 e3)
  have hP2 : Prs (stored w1 w.heap.size (.int .i64 t.k) (.int .i64 t.n) (.string t.s) (.slice A3 n3 c3) (.slice B3 p3 e3)) (w.heap.size + 1 + 1 + 1) s j b := HP1.out.kept (hoth _ (by omega))
  refine (skip_any hP2).mono ?_
  rintro e w3 ⟨rfl, hP3, hg3⟩
  have hg3 : World.grownBy (stored w1 w.heap.size (.int .i64 t.k) (.int .i64 t.n) (.string t.s) (.slice A3 n3 c3) (.slice B3 p3 e3)) w3 (some (w.heap.size + 1 + 1 + 1)) := hg3
  generalize stored w1 w.heap.size (.int .i64 t.k) (.int .i64 t.n) (.string t.s) (.slice A3 n3 c3) (.slice B3 p3 e3) = w2 at *
  have hk2 : ∀ k, k < w1.heap.size → k ≠ w.heap.size + 1 + 1 + 1 → w3.heap[k]? = w2.heap[k]? := fun k h1 h2 => hg3.block k (by omega) (fun e => by injection e; omega)
  have hz3 : w1.heap.size ≤ w3.heap.size := by have := hg3.size; omega
  have hw4 := HZ1.out
  have HR2' := Lib.hid ((hk2 w.heap.size (by omega) (by omega)).trans hr2)
  have HR3' := Lib.hid ((hk2 (w.heap.size + 1) (by omega) (by omega)).trans ((hoth _ (by omega)).trans HF3.out))
  have HR4' := Lib.hid ((hk2 (w.heap.size + 1 + 1) (by omega) (by omega)).trans ((hoth _ (by omega)).trans HF4.out))
  have HW0 : Hid (W0.heap.size = w.heap.size + 4) := HSZ
  have HV3 : Hid (VB w3 W0.heap.size w1.heap.size 17 (.agg #[.int .i64 t.k, .int .i64 t.n, .string t.s, .slice A3 n3 c3, .slice B3 p3 e3]) t) := Lib.hid (HV1.out.kept (fun k h1 h2 => (hk2 k h2 (by have := HW0.out; omega)).trans (hoth k (by have := HW0.out; omega))))
  have HB3 : Hid (Below w.heap.size w w3) := Lib.hid (hbst.trans ⟨hg3.os, hg3.tape, hg3.output, hg3.size, fun k hk => hg3.block k (by omega) (fun e => by injection e; omega)⟩)
  have HZ3 : Hid (w.heap.size + 4 ≤ W0.heap.size ∧ w1.heap.size ≤ w3.heap.size) := Lib.hid ⟨by have := HW0.out; omega, hz3⟩
  obtain ⟨p0, p1, p2, -, -⟩ := hP3.cells
  have HP3 := Lib.hid hP3
  obtain ⟨K, hK⟩ : ∃ K, K = M.skip s j := ⟨_, rfl⟩
  have HRK : Hid (r = if K < s.size then (V.null, K, 3) else (t, 0, 0)) := Lib.hid (by rw [hK]; exact HR2.out)
  rw [← hK] at p1
  clear hoth hbst hsz2 hr2 hP2 hP3 hg3 hk2 hz3 hw4 HF2 HF3 HF4 HB1 HP1 HV1 HR2 g0 g1 g2' g3 g4 e0 e1 e2 e3' e4 hlt1 hK
  by_cases hlt : K < s.size
  · have HR3 : Hid (r = (V.null, K, 3)) := Lib.hid (by rw [HRK.out, if_pos hlt])
    clear HRK
    go_wp2_with fail
    refine (fail_any _ _ _).mono ?_
    rintro e w4 ⟨rfl, rfl⟩
    refine leaves_cons (f := 24) (args := #[.pointer (some ⟨w.heap.size, 0, none⟩), .pointer (some ⟨w.heap.size + 1, 0, none⟩), .pointer (some ⟨w.heap.size + 1 + 1, 0, none⟩)]) (by simp) (by simp [go_sem]) ?_
    refine (catch_fault w.heap.size (w.heap.size + 1) (w.heap.size + 1 + 1) K 3 _ (by omega) (by omega) HR2'.out HR3'.out HR4'.out).mono ?_
    rintro e u' w5 ⟨rfl, rfl, hc⟩
    have HCA := Lib.hid hc
    clear hc
    have k2 := HCA.out.v
    have k3 := cell_of_row _ _ 0 _ _ _ HCA.out.at_
    have k4 := cell_of_row _ _ 0 _ _ _ HCA.out.e
    have HVN : Hid (VB w5 w.heap.size w5.heap.size 17 (.agg #[.int .i64 0, .int .i64 0, .string ByteArray.empty, .slice none 0 0, .slice none 0 0]) V.null) := Lib.hid (VB.null w5 w.heap.size w5.heap.size 16)
    refine ⟨_, results_cells3 Tryz.results15 _ _ w.heap.size (w.heap.size + 1) (w.heap.size + 1 + 1) _ (0, 0) K 3 rfl rfl rfl k2 (by kernel_rfl) k3 k4, ?_⟩
    have h3 := HR3.out
    subst h3
    exact ⟨_, rfl, HVN.out, HB3.out.trans HCA.out.bel⟩
  · have HR3 : Hid (r = (t, 0, 0)) := Lib.hid (by rw [HRK.out, if_neg hlt])
    have hge : (s.size : Int) ≤ (K : Int) := by omega
    clear HRK
    obtain ⟨g0, g1, g2', g3, g4, e0, e1, e2, e3', e4⟩ := lit5 HR2'.out
    have m5 := cell_of_row _ _ 0 _ _ _ HR3'.out
    have n5 := frozen_of_row _ _ 0 _ _ HR3'.out
    have m6 := cell_of_row _ _ 0 _ _ _ HR4'.out
    have n6 := frozen_of_row _ _ 0 _ _ HR4'.out
    have hlt1 : w3.heap.size > w.heap.size := row_lt HR2'.out
    go_wp2_with fail
    obtain ⟨X, hX⟩ : ∃ X, X = ((stored w3 w.heap.size (.int .i64 t.k) (.int .i64 t.n) (.string t.s) (.slice A3 n3 c3) (.slice B3 p3 e3)).setCell ⟨w.heap.size + 1, 0, none⟩ (.int .i64 0)).setCell ⟨w.heap.size + 1 + 1, 0, none⟩ (.int .i64 0) := ⟨_, rfl⟩
    obtain ⟨x2, x3, x4, xb, xo, xs⟩ := door3 HB3.out (by omega) (by omega) HR2'.out HR3'.out HR4'.out hX
    have HXV : Hid (VB X W0.heap.size w1.heap.size 17 (.agg #[.int .i64 t.k, .int .i64 t.n, .string t.s, .slice A3 n3 c3, .slice B3 p3 e3]) t) := Lib.hid (HV3.out.kept (fun k h1 h2 => xo k (by have := HZ3.out.1; omega) (by have := HZ3.out.1; omega) (by have := HZ3.out.1; omega)))
    refine leaves_cons (f := 24) (args := #[.pointer (some ⟨w.heap.size, 0, none⟩), .pointer (some ⟨w.heap.size + 1, 0, none⟩), .pointer (some ⟨w.heap.size + 1 + 1, 0, none⟩)]) (by simp) (by simp [go_sem]) ?_
    have hci := catch_idle w.heap.size (w.heap.size + 1) (w.heap.size + 1 + 1) X
    rw [hX] at hci
    refine hci.mono ?_
    rintro e u' w5 ⟨rfl, rfl, hc⟩
    have hc : Below (((stored w3 w.heap.size (.int .i64 t.k) (.int .i64 t.n) (.string t.s) (.slice A3 n3 c3) (.slice B3 p3 e3)).setCell ⟨w.heap.size + 1, 0, none⟩ (.int .i64 0)).setCell ⟨w.heap.size + 1 + 1, 0, none⟩ (.int .i64 0)).heap.size _ w5 := hc
    rw [← hX] at hc
    clear hci hX
    have hx2 := row_lt x2; have hx3 := row_lt x3; have hx4 := row_lt x4
    have k2 := (hc.block _ hx2).trans x2
    have k3 := cell_of_row _ _ 0 _ _ _ ((hc.block _ hx3).trans x3)
    have k4 := cell_of_row _ _ 0 _ _ _ ((hc.block _ hx4).trans x4)
    have hsz := hc.size
    have HVW : Hid (VB w5 w.heap.size w5.heap.size 17 (.agg #[.int .i64 t.k, .int .i64 t.n, .string t.s, .slice A3 n3 c3, .slice B3 p3 e3]) t) := Lib.hid ((HXV.out.kept (fun k h1 h2 => hc.block k (by have := HZ3.out.2; omega))).weak (by have := HZ3.out.1; omega) (by have := HZ3.out.2; omega))
    refine ⟨_, results_cells3 Tryz.results15 _ _ w.heap.size (w.heap.size + 1) (w.heap.size + 1 + 1) _ (0, 0) 0 0 rfl rfl rfl k2 (by kernel_rfl) k3 k4, ?_⟩
    have h3 := HR3.out
    subst h3
    exact ⟨_, rfl, HVW.out, xb.trans (hc.mono (by omega))⟩
end Go.Proofs.YtdkggnciamfcmaaGreatDoor
