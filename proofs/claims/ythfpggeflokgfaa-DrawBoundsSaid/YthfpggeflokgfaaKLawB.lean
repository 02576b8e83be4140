/-
  Layer 5: the laws DrawJitters and DrawBounds, whose arguments hold pairs.
-/
import Derived.Test.YthfpggeflokgfaaKLawA
namespace Go.Proofs.Ythfpggeflokgfaa
open Go.RowKit

theorem below_drew5 {a : Nat} {w w1 : World} (h : Below w.drew.heap.size w.drew w1) (hb : a ≤ w.heap.size) : Below a w w1 := (show Below a w w.drew from ⟨rfl, rfl, rfl, Nat.le_refl _, fun _ _ => rfl⟩).trans (h.mono hb)
/-- An argument that is a pair of integers. -/
def PairV (v : Value) : Prop := ∃ x y : Int, v = .agg #[.int .i64 x, .int .i64 y] ∧ (-9223372036854775808 ≤ x ∧ x ≤ 9223372036854775807) ∧ (-9223372036854775808 ≤ y ∧ y ≤ 9223372036854775807)
section
variable {H : Type} {enc : TypeId × Value → H} {W : World} {sp : Nat → Bool} {hd : Bool}
theorem pair_open {base : Nat} {v : Value} {d : DataW H} {ps : List MemPlace} (hv : Value.okWide Try.prog W .any base 26 v) (h : DataW.Trod enc Try.prog W 0 sp hd 26 v d ps) : PairV v := by
  simp only [Value.okWide, Try.underlying26] at hv
  obtain ⟨cs, rfl, hsz, _⟩ := hv
  have h2 : (Try.prog).cellsOf 26 = 2 := by kernel_rfl
  have h1 : (Try.prog).cellsOf 3 = 1 := by kernel_rfl
  rw [h2] at hsz
  obtain ⟨fuel, hf⟩ := h
  obtain ⟨xs, m, _, _, _, hl, hi⟩ := DataW.trod_array Try.underlying26 hf
  obtain ⟨l⟩ := cs
  obtain ⟨c0, c1, rfl⟩ : ∃ c0 c1, l = [c0, c1] := by
    match l, hsz with
    | [c0, c1], _ => exact ⟨c0, c1, rfl⟩
  obtain ⟨x0, x1, rfl⟩ : ∃ x0 x1, xs = [x0, x1] := by
    match xs, hl with
    | [x0, x1], _ => exact ⟨x0, x1, rfl⟩
  have e0 := hi 0 (by omega)
  have e1 := hi 1 (by omega)
  rw [h1] at e0 e1
  obtain ⟨a, ea, _, wa⟩ := DataW.trod_int Try.underlying3 e0
  obtain ⟨b, eb, _, wb⟩ := DataW.trod_int Try.underlying3 e1
  have ha : c0 = .int .i64 a := by simpa [Value.cells] using ea
  have hb : c1 = .int .i64 b := by simpa [Value.cells] using eb
  subst ha hb
  exact ⟨a, b, rfl, bounds_i64 wa, bounds_i64 wb⟩
end

set_option maxHeartbeats 1000000 in
set_option maxRecDepth 100000 in
theorem drawJittersW (v : Value) (base p : Int) (w : World) (hv : PairV v) :
    Calls Try.prog 4 #[v, .int .i64 base, .int .i64 p] w fun e w' => e = .returned (.bool true) ∧ Below w.heap.size w w' := by
  obtain ⟨x, y, rfl, hx, hy⟩ := hv
  obtain ⟨J, hJ⟩ : ∃ J, J = jit x y base p := ⟨_, rfl⟩
  have HJ := Lib.hid hJ
  clear hJ hx hy
  have c0 : (w.alloc (.cells #[.int .i64 x, .int .i64 y] 26)).cell? ⟨w.heap.size, 0, none⟩ = some (.int .i64 x) := by rw [World.cell?_alloc_at _ _ _ _ rfl]; rfl
  have c1 : (w.alloc (.cells #[.int .i64 x, .int .i64 y] 26)).cell? ⟨w.heap.size, 1, none⟩ = some (.int .i64 y) := by rw [World.cell?_alloc_at _ _ _ _ rfl]; rfl
  have hb0 : Below w.heap.size w (w.alloc (.cells #[.int .i64 x, .int .i64 y] 26)) := (Below.refl _ _).alloc (Nat.le_refl _) _
  have hz0 : w.heap.size < (w.alloc (.cells #[.int .i64 x, .int .i64 y] 26)).heap.size := by simp
  go_enter Try.func4, Try.ntmps4
  go_wp2_with fail
  obtain ⟨W0, hW0⟩ : ∃ W0, W0 = w.alloc (.cells #[.int .i64 x, .int .i64 y] 26) := ⟨_, rfl⟩
  rw [← hW0] at c0 c1 hb0 hz0 ⊢
  clear hW0
  go_region_held3 (fun W => W.cell? ⟨w.heap.size, 0, none⟩ = some (.int .i64 x) ∧ W.cell? ⟨w.heap.size, 1, none⟩ = some (.int .i64 y))
    (first
      | exact ⟨c0, c1⟩
      | (go_split_ands; refine ⟨?_, ?_⟩ <;> (refine (hb7.cell ?_).trans ?_; exact hz0; assumption))
      | (go_split_ands; refine ⟨?_, ?_⟩ <;> (refine (hb8.cell ?_).trans ?_; exact hz7; assumption)))
    (first
      | (go_at_call 12; refine (jitter_any _ _ _ _ _).mono ?_; rintro e w' ⟨rfl, rfl⟩; rw [← HJ.out])
      | (go_at_call 13; refine (rjitter_any _ _ _ _ _).mono ?_; rintro e w7 ⟨rfl, hb7⟩; have hz7 := Nat.lt_of_lt_of_le hz0 hb7.size; rw [← HJ.out])
      | (go_at_call 11; refine (works_any _).mono ?_; rintro e w8 ⟨rfl, hb8⟩))
  go_wp2_with fail
  go_ret
  exact ⟨rfl, (hb0.trans (below_drew5 hb7 (Nat.le_of_lt hz0))).trans (hb8.mono (Nat.le_of_lt hz7))⟩

theorem bnd_in {a b base p : Int} (h : Vary base p) : base * (100 - p) / 100 ≤ jit a b base p ∧ jit a b base p ≤ base * (100 + p) / 100 := by
  rw [jit_yes h]
  obtain ⟨h1, h2, h3, h4⟩ := h
  obtain ⟨b1, b2, _⟩ := blw_pos (a := a) (b := b) (n := 2 * p + 1) (by omega)
  generalize blw a b (2 * p + 1) = B at b1 b2
  have m1 : base * (100 - p) ≤ base * (100 - p + B) := Int.mul_le_mul_of_nonneg_left (by omega) h1
  have m2 : base * (100 - p + B) ≤ base * (100 + p) := Int.mul_le_mul_of_nonneg_left (by omega) h1
  exact ⟨Int.ediv_le_ediv (by omega) m1, Int.ediv_le_ediv (by omega) m2⟩

set_option maxHeartbeats 1000000 in
set_option maxRecDepth 100000 in
theorem drawBoundsW (v : Value) (n : Int) (u : Value) (w : World) (hv : PairV v) (hu : PairV u) :
    Calls Try.prog 5 #[v, .int .i64 n, u] w fun e w' => e = .returned (.bool true) ∧ Below w.heap.size w w' := by
  obtain ⟨x, y, rfl, hx, hy⟩ := hv
  obtain ⟨base, p, rfl, hx', hy'⟩ := hu
  have hBn : n < 1 → blw x y n = 0 := fun h => by unfold blw; rw [if_pos h]
  have hBp : ¬ n < 1 → 0 ≤ blw x y n ∧ blw x y n < n := fun h => ⟨(blw_pos h).1, (blw_pos h).2.1⟩
  have hJn : ¬ Vary base p → jit x y base p = base := jit_no
  have hJy : Vary base p → base * (100 - p) / 100 ≤ jit x y base p ∧ jit x y base p ≤ base * (100 + p) / 100 := bnd_in
  obtain ⟨B, hB⟩ : ∃ B, B = blw x y n := ⟨_, rfl⟩
  obtain ⟨J, hJ⟩ : ∃ J, J = jit x y base p := ⟨_, rfl⟩
  rw [← hB] at hBn hBp
  rw [← hJ] at hJn hJy
  have HB := Lib.hid hB
  have HJ := Lib.hid hJ
  clear hB hJ hx hy
  have c0 : ((w.alloc (.cells #[.int .i64 x, .int .i64 y] 26)).alloc (.cells #[.int .i64 base, .int .i64 p] 26)).cell? ⟨w.heap.size, 0, none⟩ = some (.int .i64 x) := by
    rw [World.cell?_of_block (w := w.alloc (.cells #[.int .i64 x, .int .i64 y] 26)) (Below.heap_alloc _ _ _ (by simp)), World.cell?_alloc_at _ _ _ _ rfl]; rfl
  have c1 : ((w.alloc (.cells #[.int .i64 x, .int .i64 y] 26)).alloc (.cells #[.int .i64 base, .int .i64 p] 26)).cell? ⟨w.heap.size, 1, none⟩ = some (.int .i64 y) := by
    rw [World.cell?_of_block (w := w.alloc (.cells #[.int .i64 x, .int .i64 y] 26)) (Below.heap_alloc _ _ _ (by simp)), World.cell?_alloc_at _ _ _ _ rfl]; rfl
  have c2 : ((w.alloc (.cells #[.int .i64 x, .int .i64 y] 26)).alloc (.cells #[.int .i64 base, .int .i64 p] 26)).cell? ⟨w.heap.size + 1, 0, none⟩ = some (.int .i64 base) := by
    rw [World.cell?_alloc_at _ _ _ _ (by simp)]; rfl
  have c3 : ((w.alloc (.cells #[.int .i64 x, .int .i64 y] 26)).alloc (.cells #[.int .i64 base, .int .i64 p] 26)).cell? ⟨w.heap.size + 1, 1, none⟩ = some (.int .i64 p) := by
    rw [World.cell?_alloc_at _ _ _ _ (by simp)]; rfl
  have hb0 : Below w.heap.size w ((w.alloc (.cells #[.int .i64 x, .int .i64 y] 26)).alloc (.cells #[.int .i64 base, .int .i64 p] 26)) := ((Below.refl _ _).alloc (Nat.le_refl _) _).alloc (by simp) _
  have hN : (n < 1 ∧ B = 0) ∨ (1 ≤ n ∧ 0 ≤ B ∧ B < n) := by
    rcases (show n < 1 ∨ ¬ n < 1 by omega) with h | h
    · exact .inl ⟨h, hBn h⟩
    · have := hBp h; exact .inr ⟨by omega, this⟩
  clear hBn hBp
  by_cases hV : Vary base p
  · obtain ⟨j1, j2⟩ := hJy hV
    clear hJy hJn
    obtain ⟨v1, v2, v3, v4⟩ := hV
    obtain ⟨f, hf⟩ : ∃ f, f = 100 - p := ⟨_, rfl⟩
    obtain ⟨g, hg⟩ : ∃ g, g = 100 + p := ⟨_, rfl⟩
    have hf' : 100 - p = f := hf.symm
    have hg' : 100 + p = g := hg.symm
    rw [← hf] at j1
    rw [← hg] at j2
    have hf1 : 0 ≤ f := by omega
    have hf2 : f ≤ 100 := by omega
    have hg1 : 0 ≤ g := by omega
    have hg2 : g ≤ 200 := by omega
    obtain ⟨a1, a2⟩ := mul_le v1 hf1 v2 hf2
    obtain ⟨b1, b2⟩ := mul_le v1 hg1 v2 hg2
    obtain ⟨m, hm⟩ : ∃ m, m = base * f := ⟨_, rfl⟩
    obtain ⟨k, hk⟩ : ∃ k, k = base * g := ⟨_, rfl⟩
    have hm' : base * f = m := hm.symm
    have hk' : base * g = k := hk.symm
    rw [← hm] at a1 a2 j1
    rw [← hk] at b1 b2 j2
    clear hf hg hm hk
    rcases hN with ⟨n1, rfl⟩ | ⟨n1, n2, n3⟩
    all_goals
      go_enter Try.func5, Try.ntmps5
      go_wp2_with fail
      refine (below_any _ _ _ _).mono ?_
      rintro e w' ⟨rfl, rfl⟩
      rw [← HB.out]
      go_wp2_with fail
      go_region
      go_wp2_with fail
      refine (jitter_any _ _ _ _ _).mono ?_
      rintro e w' ⟨rfl, rfl⟩
      rw [← HJ.out]
      go_wp2_with fail
      refine (works_any _).mono ?_
      rintro e w8 ⟨rfl, hb8⟩
      go_wp2_with fail
      go_ret
      exact ⟨rfl, hb0.trans (below_drew5 hb8 hb0.size)⟩
  · obtain rfl : J = base := hJn hV
    have hcs : J < 0 ∨ (0 ≤ J ∧ 1099511627776 < J) ∨ (0 ≤ J ∧ J ≤ 1099511627776 ∧ p < 0) ∨ (0 ≤ J ∧ J ≤ 1099511627776 ∧ 0 ≤ p ∧ 100 < p) := by
      unfold Vary at hV; omega
    clear hJy hJn hV
    rcases hN with ⟨n1, rfl⟩ | ⟨n1, n2, n3⟩ <;> rcases hcs with q1 | ⟨q1, q2⟩ | ⟨q1, q2, q3⟩ | ⟨q1, q2, q3, q4⟩
    all_goals
      go_enter Try.func5, Try.ntmps5
      go_wp2_with fail
      refine (below_any _ _ _ _).mono ?_
      rintro e w' ⟨rfl, rfl⟩
      rw [← HB.out]
      go_wp2_with fail
      go_region
      go_wp2_with fail
      refine (jitter_any _ _ _ _ _).mono ?_
      rintro e w' ⟨rfl, rfl⟩
      rw [← HJ.out]
      go_wp2_with fail
      refine (works_any _).mono ?_
      rintro e w8 ⟨rfl, hb8⟩
      go_wp2_with fail
      go_ret
      exact ⟨rfl, hb0.trans (below_drew5 hb8 hb0.size)⟩
end Go.Proofs.Ythfpggeflokgfaa
