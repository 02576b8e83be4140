/-
  Layer 7: the code's scanner: the next token.
-/
import Derived.Test.YtffolfnaalijnaaDoorSCodG
import Derived.Deep.DeepCutAuto
namespace Go.Proofs.YtffolfnaalijnaaDoor
set_option linter.unusedVariables false
open Go.RowKit

theorem set_row {w : World} {g : Nat} {cs : Array Value} {T : TypeId} (off : Nat) (v : Value) (h : w.heap[g]? = some (.cells cs T (0, 0))) : (w.setCell ⟨g, off, none⟩ v).heap[g]? = some (.cells (cs.setIfInBounds off v) T (0, 0)) :=
  heap_setCell_same _ _ off _ _ _ h
/-- What the reading of the next token ends in; it begins at p. -/
def NEnds (g h : Nat) (s : ByteArray) (r : Z.R) (p : Nat) (w : World) (e : Ending) (w' : World) : Prop :=
  w.grownBy w' (some g) ∧ match r with
  | .ok k t v n => e = .returned (.tuple #[.agg #[.int .i64 k, .int .i64 (p : Int), .string (bS t), .int .i64 v], .int .i64 0]) ∧ Sc w' g h s (p + n)
  | .err er => e = .returned (.tuple #[.agg #[.int .i64 0, .int .i64 (p : Int), .string ⟨#[]⟩, .int .i64 0], .int .i64 er]) ∧ er ≠ 0 ∧ ∃ j, Sc w' g h s j
/-- The parts of a result. -/
def Parts (r : Z.R) (k v er : Int) (T : ByteArray) (i j : Nat) : Prop := match r with
  | .ok k' t v' n => k = k' ∧ T = bS t ∧ v = v' ∧ er = 0 ∧ j = i + n
  | .err e' => k = 0 ∧ T = ⟨#[]⟩ ∧ v = 0 ∧ er = e' ∧ er ≠ 0
theorem TEnds.form {g h i : Nat} {s : ByteArray} {r : Z.R} {w w' : World} {e : Ending} (k : TEnds g h s r i w e w') :
    ∃ (kk v er : Int) (T : ByteArray) (j : Nat), e = .returned (.tuple #[.agg #[.int .i64 kk, .int .i64 0, .string T, .int .i64 v], .int .i64 er]) ∧ Sc w' g h s j ∧ w.grownBy w' (some g) ∧ Parts r kk v er T i j := by
  obtain ⟨hg, hm⟩ := k
  cases r with
  | ok k' t v' n => exact ⟨k', v', 0, bS t, i + n, hm.1, hm.2, hg, rfl, rfl, rfl, rfl, rfl⟩
  | err e' =>
    obtain ⟨h1, h2, j, h3⟩ := hm
    exact ⟨0, 0, e', ⟨#[]⟩, j, h1, h3, hg, rfl, rfl, rfl, rfl, h2⟩
theorem NEnds.of {g h j p : Nat} {s : ByteArray} {r : Z.R} {w w' : World} {kk v er : Int} {T : ByteArray} (hp : Parts r kk v er T p j) (hg : w.grownBy w' (some g)) (k : Sc w' g h s j) :
    NEnds g h s r p w (.returned (.tuple #[.agg #[.int .i64 kk, .int .i64 (p : Int), .string T, .int .i64 v], .int .i64 er])) w' := by
  refine ⟨hg, ?_⟩
  cases r with
  | ok k' t v' n => obtain ⟨rfl, rfl, rfl, rfl, rfl⟩ := hp; exact ⟨rfl, k⟩
  | err e' => obtain ⟨rfl, rfl, rfl, rfl, h2⟩ := hp; exact ⟨rfl, h2, j, k⟩

set_option maxRecDepth 100000 in
set_option maxHeartbeats 2000000 in
theorem next_any {W w : World} {g h i : Nat} {s : ByteArray} (k : Sc w g h s i) (E : Env W w g) :
    Calls Tryd.prog 22 #[.pointer (some ⟨g, 0, none⟩)] w (NEnds g h s (Z.one ((left s i).drop (Z.spanN Z.blank (left s i)))) (i + Z.spanN Z.blank (left s i)) w) := by
  have HK := Lib.hid k
  have HE := Lib.hid E
  have hlt := k.lt
  have hlh := k.lth
  obtain ⟨b, hb⟩ : ∃ b, b = Z.spanN Z.blank (left s i) := ⟨_, rfl⟩
  rw [← hb, left_drop]
  have HB := Lib.hid hb
  obtain ⟨R, hR⟩ : ∃ R, R = Z.one (left s (i + b)) := ⟨_, rfl⟩
  rw [← hR]
  unfold Z.one at hR
  obtain ⟨p, hp⟩ : ∃ p, p = i + b := ⟨_, rfl⟩
  rw [← hp] at hR ⊢
  have HP := Lib.hid hp
  obtain ⟨q, hq⟩ : ∃ q, q = Z.clsL (left s p) := ⟨_, rfl⟩
  rw [← hq] at hR
  have HQ := Lib.hid hq
  have hq6 : q ≤ 6 := by rw [hq]; exact Z.clsL_le _
  have HR := Lib.hid hR
  clear k hR hb E hp hq
  go_enter Tryd.func22, Tryd.ntmps22
  go_wp2_with fail
  obtain ⟨hkr, hcr, hrow, hg0, hsz⟩ := boxes (l := [1]) (xs := [.int .u8 1]) HK.out rfl (by decide)
  refine (span_any (L := [1]) hkr hcr (by omega) (by decide)).mono ?_
  rintro e w1 ⟨rfl, k1, hg1⟩
  have hrow1 := (hg1.block _ (by rw [hsz]; omega) (by simp; omega)).trans hrow
  have hg2 := hg0.trans hg1
  rw [inL_blank, ← HB.out, ← HP.out] at k1
  have HK1 := Lib.hid k1
  have HG1 := Lib.hid hg2
  have HROW1 := Lib.hid hrow1
  obtain ⟨c0, c1, c2, f1⟩ := k1.cells
  have hsz1 : w.heap.size + 2 ≤ w1.heap.size := by have := hg1.size; omega
  clear hkr hcr hrow hg0 hsz k1 hg1 hrow1 hg2
  go_wp2_with fail
  refine (class_any HK1.out).mono ?_
  rintro e w2 ⟨rfl, n2, rfl⟩
  rw [← HQ.out]
  have HK2 := Lib.hid (HK1.out.drewN n2)
  have HG2 := Lib.hid (HG1.out.trans (grown7_drewN w1 n2 (some g)))
  have HROW2 : Hid ((w1.drewN n2).heap[w.heap.size]? = some (.cells #[.int .i64 0, .int .i64 0, .string ⟨#[]⟩, .int .i64 0] 30 (0, 0))) := Lib.hid HROW1.out
  have hsz2 : w.heap.size + 2 ≤ (w1.drewN n2).heap.size := hsz1
  clear HK1 HG1 HROW1 c0 c1 c2 f1 hsz1
  generalize w1.drewN n2 = w2 at *
  by_cases q2 : q = 2
  · have HR2 : Hid (R = Z.word (left s p)) := Lib.hid (by rw [HR.out, if_pos q2])
    clear HR
    subst q2
    go_wp2_with fail
    refine (word_any HK2.out).mono ?_
    rintro e w3 hT
    rw [← HR2.out] at hT
    obtain ⟨kk, v, er, T, j, rfl, k3, hg3, hpt⟩ := hT.form
    have hrow3 := (hg3.block _ (by omega) (by simp; omega)).trans HROW2.out
    have HK3 := Lib.hid k3
    have HG3 := Lib.hid (HG2.out.trans hg3)
    have HROW3 := Lib.hid hrow3
    have HPT := Lib.hid hpt
    obtain ⟨⟨r0, r1, r2, r3⟩, t0, t1, t2, t3⟩ := row4_cells hrow3
    clear hT k3 hg3 hrow3 hpt HK2 HG2 HROW2
    go_upto_region 15 with fail
    have hX := put4_row HROW3.out (.int .i64 kk) (.int .i64 0) (.string T) (.int .i64 v)
    have hK4 := HK3.out.put (r := w.heap.size) (by omega) (by omega) (.int .i64 kk) (.int .i64 0) (.string T) (.int .i64 v)
    have hG4 := grown7_new HG3.out (Nat.le_refl _) (grown7_put4 w3 w.heap.size (.int .i64 kk) (.int .i64 0) (.string T) (.int .i64 v))
    change Code.wp _ _ _ _ (put4 w3 w.heap.size (.int .i64 kk) (.int .i64 0) (.string T) (.int .i64 v))
    clear r0 r1 r2 r3 t0 t1 t2 t3
    generalize put4 w3 w.heap.size (.int .i64 kk) (.int .i64 0) (.string T) (.int .i64 v) = w4 at hX hK4 hG4 ⊢
    obtain ⟨⟨r0, r1, r2, r3⟩, t0, t1, t2, t3⟩ := row4_cells hX
    have HX := Lib.hid hX; have HK4 := Lib.hid hK4; have HG4 := Lib.hid hG4
    clear hX hK4 hG4
    go_upto_region 16 with fail
    have hX := set_row 1 (.int .i64 (p : Int)) HX.out
    have hK5 := HK4.out.kept (grown7_set w4 w.heap.size 1 (.int .i64 (p : Int))) (fun e => by injection e with e; omega) (fun e => by injection e with e; omega)
    have hG5 := grown7_new HG4.out (Nat.le_refl _) (grown7_set w4 w.heap.size 1 (.int .i64 (p : Int)))
    clear r0 r1 r2 r3 t0 t1 t2 t3
    generalize w4.setCell ⟨w.heap.size, 1, none⟩ (.int .i64 (p : Int)) = w5 at hX hK5 hG5 ⊢
    have hX : w5.heap[w.heap.size]? = some (.cells #[.int .i64 kk, .int .i64 (p : Int), .string T, .int .i64 v] 30 (0, 0)) := hX
    obtain ⟨⟨r0, r1, r2, r3⟩, t0, t1, t2, t3⟩ := row4_cells hX
    have HX5 := Lib.hid hX; have HK5 := Lib.hid hK5; have HG5 := Lib.hid hG5
    clear hX hK5 hG5
    go_wp2_with fail
    (try simp only [Exit.inBlock, Exit.then])
    refine bodyPost_ret (results_tok Tryd.results22 _ _ w.heap.size _ (0, 0) _ rfl rfl (put4_row HX5.out _ _ _ _) (by kernel_rfl)) rfl ?_
    exact NEnds.of HPT.out (grown7_new HG5.out (Nat.le_refl _) (grown7_put4 _ _ _ _ _ _)) (HK5.out.put (by omega) (by omega) _ _ _ _)
  have n2 := q2
  by_cases q3 : q = 3
  · have HR2 : Hid (R = Z.int (left s p)) := Lib.hid (by rw [HR.out, if_neg n2, if_pos q3])
    clear HR
    subst q3
    go_wp2_with fail
    refine (integer_any HK2.out (HE.out.step HG2.out) HQ.out.symm).mono ?_
    rintro e w3 hT
    rw [← HR2.out] at hT
    obtain ⟨kk, v, er, T, j, rfl, k3, hg3, hpt⟩ := hT.form
    have hrow3 := (hg3.block _ (by omega) (by simp; omega)).trans HROW2.out
    have HK3 := Lib.hid k3
    have HG3 := Lib.hid (HG2.out.trans hg3)
    have HROW3 := Lib.hid hrow3
    have HPT := Lib.hid hpt
    obtain ⟨⟨r0, r1, r2, r3⟩, t0, t1, t2, t3⟩ := row4_cells hrow3
    clear hT k3 hg3 hrow3 hpt HK2 HG2 HROW2
    go_upto_region 15 with fail
    have hX := put4_row HROW3.out (.int .i64 kk) (.int .i64 0) (.string T) (.int .i64 v)
    have hK4 := HK3.out.put (r := w.heap.size) (by omega) (by omega) (.int .i64 kk) (.int .i64 0) (.string T) (.int .i64 v)
    have hG4 := grown7_new HG3.out (Nat.le_refl _) (grown7_put4 w3 w.heap.size (.int .i64 kk) (.int .i64 0) (.string T) (.int .i64 v))
    change Code.wp _ _ _ _ (put4 w3 w.heap.size (.int .i64 kk) (.int .i64 0) (.string T) (.int .i64 v))
    clear r0 r1 r2 r3 t0 t1 t2 t3
    generalize put4 w3 w.heap.size (.int .i64 kk) (.int .i64 0) (.string T) (.int .i64 v) = w4 at hX hK4 hG4 ⊢
    obtain ⟨⟨r0, r1, r2, r3⟩, t0, t1, t2, t3⟩ := row4_cells hX
    have HX := Lib.hid hX; have HK4 := Lib.hid hK4; have HG4 := Lib.hid hG4
    clear hX hK4 hG4
    go_upto_region 16 with fail
    have hX := set_row 1 (.int .i64 (p : Int)) HX.out
    have hK5 := HK4.out.kept (grown7_set w4 w.heap.size 1 (.int .i64 (p : Int))) (fun e => by injection e with e; omega) (fun e => by injection e with e; omega)
    have hG5 := grown7_new HG4.out (Nat.le_refl _) (grown7_set w4 w.heap.size 1 (.int .i64 (p : Int)))
    clear r0 r1 r2 r3 t0 t1 t2 t3
    generalize w4.setCell ⟨w.heap.size, 1, none⟩ (.int .i64 (p : Int)) = w5 at hX hK5 hG5 ⊢
    have hX : w5.heap[w.heap.size]? = some (.cells #[.int .i64 kk, .int .i64 (p : Int), .string T, .int .i64 v] 30 (0, 0)) := hX
    obtain ⟨⟨r0, r1, r2, r3⟩, t0, t1, t2, t3⟩ := row4_cells hX
    have HX5 := Lib.hid hX; have HK5 := Lib.hid hK5; have HG5 := Lib.hid hG5
    clear hX hK5 hG5
    go_wp2_with fail
    (try simp only [Exit.inBlock, Exit.then])
    refine bodyPost_ret (results_tok Tryd.results22 _ _ w.heap.size _ (0, 0) _ rfl rfl (put4_row HX5.out _ _ _ _) (by kernel_rfl)) rfl ?_
    exact NEnds.of HPT.out (grown7_new HG5.out (Nat.le_refl _) (grown7_put4 _ _ _ _ _ _)) (HK5.out.put (by omega) (by omega) _ _ _ _)
  have n3 := q3
  by_cases q4 : q = 4
  · have HR2 : Hid (R = Z.lit (left s p)) := Lib.hid (by rw [HR.out, if_neg n2, if_neg n3, if_pos q4])
    clear HR
    subst q4
    go_wp2_with fail
    refine (literal_any HK2.out HQ.out.symm).mono ?_
    rintro e w3 hT
    rw [← HR2.out] at hT
    obtain ⟨kk, v, er, T, j, rfl, k3, hg3, hpt⟩ := hT.form
    have hrow3 := (hg3.block _ (by omega) (by simp; omega)).trans HROW2.out
    have HK3 := Lib.hid k3
    have HG3 := Lib.hid (HG2.out.trans hg3)
    have HROW3 := Lib.hid hrow3
    have HPT := Lib.hid hpt
    obtain ⟨⟨r0, r1, r2, r3⟩, t0, t1, t2, t3⟩ := row4_cells hrow3
    clear hT k3 hg3 hrow3 hpt HK2 HG2 HROW2
    go_upto_region 15 with fail
    have hX := put4_row HROW3.out (.int .i64 kk) (.int .i64 0) (.string T) (.int .i64 v)
    have hK4 := HK3.out.put (r := w.heap.size) (by omega) (by omega) (.int .i64 kk) (.int .i64 0) (.string T) (.int .i64 v)
    have hG4 := grown7_new HG3.out (Nat.le_refl _) (grown7_put4 w3 w.heap.size (.int .i64 kk) (.int .i64 0) (.string T) (.int .i64 v))
    change Code.wp _ _ _ _ (put4 w3 w.heap.size (.int .i64 kk) (.int .i64 0) (.string T) (.int .i64 v))
    clear r0 r1 r2 r3 t0 t1 t2 t3
    generalize put4 w3 w.heap.size (.int .i64 kk) (.int .i64 0) (.string T) (.int .i64 v) = w4 at hX hK4 hG4 ⊢
    obtain ⟨⟨r0, r1, r2, r3⟩, t0, t1, t2, t3⟩ := row4_cells hX
    have HX := Lib.hid hX; have HK4 := Lib.hid hK4; have HG4 := Lib.hid hG4
    clear hX hK4 hG4
    go_upto_region 16 with fail
    have hX := set_row 1 (.int .i64 (p : Int)) HX.out
    have hK5 := HK4.out.kept (grown7_set w4 w.heap.size 1 (.int .i64 (p : Int))) (fun e => by injection e with e; omega) (fun e => by injection e with e; omega)
    have hG5 := grown7_new HG4.out (Nat.le_refl _) (grown7_set w4 w.heap.size 1 (.int .i64 (p : Int)))
    clear r0 r1 r2 r3 t0 t1 t2 t3
    generalize w4.setCell ⟨w.heap.size, 1, none⟩ (.int .i64 (p : Int)) = w5 at hX hK5 hG5 ⊢
    have hX : w5.heap[w.heap.size]? = some (.cells #[.int .i64 kk, .int .i64 (p : Int), .string T, .int .i64 v] 30 (0, 0)) := hX
    obtain ⟨⟨r0, r1, r2, r3⟩, t0, t1, t2, t3⟩ := row4_cells hX
    have HX5 := Lib.hid hX; have HK5 := Lib.hid hK5; have HG5 := Lib.hid hG5
    clear hX hK5 hG5
    go_wp2_with fail
    (try simp only [Exit.inBlock, Exit.then])
    refine bodyPost_ret (results_tok Tryd.results22 _ _ w.heap.size _ (0, 0) _ rfl rfl (put4_row HX5.out _ _ _ _) (by kernel_rfl)) rfl ?_
    exact NEnds.of HPT.out (grown7_new HG5.out (Nat.le_refl _) (grown7_put4 _ _ _ _ _ _)) (HK5.out.put (by omega) (by omega) _ _ _ _)
  have n4 := q4
  by_cases q5 : q = 5
  · have HR2 : Hid (R = Z.sgn (left s p)) := Lib.hid (by rw [HR.out, if_neg n2, if_neg n3, if_neg n4, if_pos q5])
    clear HR
    subst q5
    go_wp2_with fail
    refine (sign_any HK2.out HQ.out.symm).mono ?_
    rintro e w3 hT
    rw [← HR2.out] at hT
    obtain ⟨kk, v, er, T, j, rfl, k3, hg3, hpt⟩ := hT.form
    have hrow3 := (hg3.block _ (by omega) (by simp; omega)).trans HROW2.out
    have HK3 := Lib.hid k3
    have HG3 := Lib.hid (HG2.out.trans hg3)
    have HROW3 := Lib.hid hrow3
    have HPT := Lib.hid hpt
    obtain ⟨⟨r0, r1, r2, r3⟩, t0, t1, t2, t3⟩ := row4_cells hrow3
    clear hT k3 hg3 hrow3 hpt HK2 HG2 HROW2
    go_upto_region 15 with fail
    have hX := put4_row HROW3.out (.int .i64 kk) (.int .i64 0) (.string T) (.int .i64 v)
    have hK4 := HK3.out.put (r := w.heap.size) (by omega) (by omega) (.int .i64 kk) (.int .i64 0) (.string T) (.int .i64 v)
    have hG4 := grown7_new HG3.out (Nat.le_refl _) (grown7_put4 w3 w.heap.size (.int .i64 kk) (.int .i64 0) (.string T) (.int .i64 v))
    change Code.wp _ _ _ _ (put4 w3 w.heap.size (.int .i64 kk) (.int .i64 0) (.string T) (.int .i64 v))
    clear r0 r1 r2 r3 t0 t1 t2 t3
    generalize put4 w3 w.heap.size (.int .i64 kk) (.int .i64 0) (.string T) (.int .i64 v) = w4 at hX hK4 hG4 ⊢
    obtain ⟨⟨r0, r1, r2, r3⟩, t0, t1, t2, t3⟩ := row4_cells hX
    have HX := Lib.hid hX; have HK4 := Lib.hid hK4; have HG4 := Lib.hid hG4
    clear hX hK4 hG4
    go_upto_region 16 with fail
    have hX := set_row 1 (.int .i64 (p : Int)) HX.out
    have hK5 := HK4.out.kept (grown7_set w4 w.heap.size 1 (.int .i64 (p : Int))) (fun e => by injection e with e; omega) (fun e => by injection e with e; omega)
    have hG5 := grown7_new HG4.out (Nat.le_refl _) (grown7_set w4 w.heap.size 1 (.int .i64 (p : Int)))
    clear r0 r1 r2 r3 t0 t1 t2 t3
    generalize w4.setCell ⟨w.heap.size, 1, none⟩ (.int .i64 (p : Int)) = w5 at hX hK5 hG5 ⊢
    have hX : w5.heap[w.heap.size]? = some (.cells #[.int .i64 kk, .int .i64 (p : Int), .string T, .int .i64 v] 30 (0, 0)) := hX
    obtain ⟨⟨r0, r1, r2, r3⟩, t0, t1, t2, t3⟩ := row4_cells hX
    have HX5 := Lib.hid hX; have HK5 := Lib.hid hK5; have HG5 := Lib.hid hG5
    clear hX hK5 hG5
    go_wp2_with fail
    (try simp only [Exit.inBlock, Exit.then])
    refine bodyPost_ret (results_tok Tryd.results22 _ _ w.heap.size _ (0, 0) _ rfl rfl (put4_row HX5.out _ _ _ _) (by kernel_rfl)) rfl ?_
    exact NEnds.of HPT.out (grown7_new HG5.out (Nat.le_refl _) (grown7_put4 _ _ _ _ _ _)) (HK5.out.put (by omega) (by omega) _ _ _ _)
  have n5 := q5
  have e2 : ((q : Int) == 2) = false := by rw [beq_eq_false_iff_ne]; omega
  have e3 : ((q : Int) == 3) = false := by rw [beq_eq_false_iff_ne]; omega
  have e4 : ((q : Int) == 4) = false := by rw [beq_eq_false_iff_ne]; omega
  have e5 : ((q : Int) == 5) = false := by rw [beq_eq_false_iff_ne]; omega
  obtain ⟨⟨r0, r1, r2, r3⟩, t0, t1, t2, t3⟩ := row4_cells HROW2.out
  by_cases q6 : q = 6
  · have HR2 : Hid (R = .ok 0 [] 0 0) := Lib.hid (by rw [HR.out, if_neg n2, if_neg n3, if_neg n4, if_neg n5, if_pos q6])
    clear HR e2 e3 e4 e5 n2 n3 n4 n5 q2 q3 q4 q5
    subst q6
    go_upto_region 15 with fail
    have hX := set_row 0 (.int .i64 (0 : Int)) HROW2.out
    have hK4 := HK2.out.kept (grown7_set w2 w.heap.size 0 (.int .i64 (0 : Int))) (fun e => by injection e with e; omega) (fun e => by injection e with e; omega)
    have hG4 := grown7_new HG2.out (Nat.le_refl _) (grown7_set w2 w.heap.size 0 (.int .i64 (0 : Int)))
    clear r0 r1 r2 r3 t0 t1 t2 t3
    generalize w2.setCell ⟨w.heap.size, 0, none⟩ (.int .i64 (0 : Int)) = w4 at hX hK4 hG4 ⊢
    obtain ⟨kk, v, er, T, hkk⟩ : ∃ (kk v er : Int) (T : ByteArray), kk = 0 ∧ v = 0 ∧ er = 0 ∧ T = ⟨#[]⟩ := ⟨0, 0, 0, ⟨#[]⟩, rfl, rfl, rfl, rfl⟩
    obtain ⟨hk1, hk2, hk3, hk4⟩ := hkk
    have HPT : Hid (Parts R kk v er T p p) := Lib.hid (by rw [HR2.out]; exact ⟨hk1, hk4, hk2, hk3, rfl⟩)
    have hX : w4.heap[w.heap.size]? = some (.cells #[.int .i64 kk, .int .i64 0, .string T, .int .i64 v] 30 (0, 0)) := by rw [hk1, hk2, hk4]; exact hX
    rw [← hk3]
    clear hk1 hk2 hk3 hk4
    obtain ⟨⟨r0, r1, r2, r3⟩, t0, t1, t2, t3⟩ := row4_cells hX
    have HX := Lib.hid hX; have HK4 := Lib.hid hK4; have HG4 := Lib.hid hG4
    clear hX hK4 hG4
    go_upto_region 16 with fail
    have hX := set_row 1 (.int .i64 (p : Int)) HX.out
    have hK5 := HK4.out.kept (grown7_set w4 w.heap.size 1 (.int .i64 (p : Int))) (fun e => by injection e with e; omega) (fun e => by injection e with e; omega)
    have hG5 := grown7_new HG4.out (Nat.le_refl _) (grown7_set w4 w.heap.size 1 (.int .i64 (p : Int)))
    clear r0 r1 r2 r3 t0 t1 t2 t3
    generalize w4.setCell ⟨w.heap.size, 1, none⟩ (.int .i64 (p : Int)) = w5 at hX hK5 hG5 ⊢
    have hX : w5.heap[w.heap.size]? = some (.cells #[.int .i64 kk, .int .i64 (p : Int), .string T, .int .i64 v] 30 (0, 0)) := hX
    obtain ⟨⟨r0, r1, r2, r3⟩, t0, t1, t2, t3⟩ := row4_cells hX
    have HX5 := Lib.hid hX; have HK5 := Lib.hid hK5; have HG5 := Lib.hid hG5
    clear hX hK5 hG5
    go_wp2_with fail
    (try simp only [Exit.inBlock, Exit.then])
    refine bodyPost_ret (results_tok Tryd.results22 _ _ w.heap.size _ (0, 0) _ rfl rfl (put4_row HX5.out _ _ _ _) (by kernel_rfl)) rfl ?_
    exact NEnds.of HPT.out (grown7_new HG5.out (Nat.le_refl _) (grown7_put4 _ _ _ _ _ _)) (HK5.out.put (by omega) (by omega) _ _ _ _)
  · have HR2 : Hid (R = .err 3) := Lib.hid (by rw [HR.out, if_neg n2, if_neg n3, if_neg n4, if_neg n5, if_neg q6])
    have e6 : ((q : Int) == 6) = false := by rw [beq_eq_false_iff_ne]; omega
    clear HR n2 n3 n4 n5 q2 q3 q4 q5 q6
    go_upto_region 15 with fail
    have hX := HROW2.out
    have hK4 := HK2.out
    have hG4 := HG2.out
    clear r0 r1 r2 r3 t0 t1 t2 t3 HROW2 HK2 HG2
    obtain ⟨kk, v, er, T, hkk⟩ : ∃ (kk v er : Int) (T : ByteArray), kk = 0 ∧ v = 0 ∧ er = 3 ∧ T = ⟨#[]⟩ := ⟨0, 0, 3, ⟨#[]⟩, rfl, rfl, rfl, rfl⟩
    obtain ⟨hk1, hk2, hk3, hk4⟩ := hkk
    have HPT : Hid (Parts R kk v er T p p) := Lib.hid (by rw [HR2.out]; exact ⟨hk1, hk4, hk2, hk3, by rw [hk3]; decide⟩)
    have hX : w2.heap[w.heap.size]? = some (.cells #[.int .i64 kk, .int .i64 0, .string T, .int .i64 v] 30 (0, 0)) := by rw [hk1, hk2, hk4]; exact hX
    rw [← hk3]
    clear hk1 hk2 hk3 hk4
    generalize w2 = w4 at *
    obtain ⟨⟨r0, r1, r2, r3⟩, t0, t1, t2, t3⟩ := row4_cells hX
    have HX := Lib.hid hX; have HK4 := Lib.hid hK4; have HG4 := Lib.hid hG4
    clear hX hK4 hG4
    go_upto_region 16 with fail
    have hX := set_row 1 (.int .i64 (p : Int)) HX.out
    have hK5 := HK4.out.kept (grown7_set w4 w.heap.size 1 (.int .i64 (p : Int))) (fun e => by injection e with e; omega) (fun e => by injection e with e; omega)
    have hG5 := grown7_new HG4.out (Nat.le_refl _) (grown7_set w4 w.heap.size 1 (.int .i64 (p : Int)))
    clear r0 r1 r2 r3 t0 t1 t2 t3
    generalize w4.setCell ⟨w.heap.size, 1, none⟩ (.int .i64 (p : Int)) = w5 at hX hK5 hG5 ⊢
    have hX : w5.heap[w.heap.size]? = some (.cells #[.int .i64 kk, .int .i64 (p : Int), .string T, .int .i64 v] 30 (0, 0)) := hX
    obtain ⟨⟨r0, r1, r2, r3⟩, t0, t1, t2, t3⟩ := row4_cells hX
    have HX5 := Lib.hid hX; have HK5 := Lib.hid hK5; have HG5 := Lib.hid hG5
    clear hX hK5 hG5
    go_wp2_with fail
    (try simp only [Exit.inBlock, Exit.then])
    refine bodyPost_ret (results_tok Tryd.results22 _ _ w.heap.size _ (0, 0) _ rfl rfl (put4_row HX5.out _ _ _ _) (by kernel_rfl)) rfl ?_
    exact NEnds.of HPT.out (grown7_new HG5.out (Nat.le_refl _) (grown7_put4 _ _ _ _ _ _)) (HK5.out.put (by omega) (by omega) _ _ _ _)
end Go.Proofs.YtffolfnaalijnaaDoor
