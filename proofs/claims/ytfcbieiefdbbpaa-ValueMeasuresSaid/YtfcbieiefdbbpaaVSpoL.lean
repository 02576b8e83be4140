/-
  Layer 2: the law's spoil: it writes over whatever a value refers to.
-/
import Derived.Test.YtfcbieiefdbbpaaVSpo
namespace Go.Proofs.Ytfcbieiefdbbpaa
set_option linter.unusedVariables false
open Go.RowKit
open M (V)

/-- What was written: nothing below lo, and from lo on only over what may be written over. -/
def Spoilt (lo : Nat) (w : World) (e : Ending) (w' : World) : Prop := e = .returned (.tuple #[]) ∧ Below lo w w' ∧ Rws lo w w'
def spoilAt (d : Nat) : Prop := ∀ (v : Value) (lo : Nat) (w : World), SB w lo d v → lo ≤ w.heap.size →
  Calls Try.prog 24 #[v] w (Spoilt lo w)

/-- A box of a value whose lists stay. -/
def BoxS (w : World) (g : Nat) (x y : Value) : Prop := ∃ cs : Array Value, w.heap[g]? = some (.cells cs 26 (0, 0)) ∧ cs[3]? = some x ∧ cs[4]? = some y
theorem BoxS.kept {w w' : World} {lo g n c m e : Nat} {A B : Option Addr} (h : BoxS w g (.slice A n c) (.slice B m e)) (r : Rws lo w w') (hl : lo ≤ g) : BoxS w' g (.slice A n c) (.slice B m e) := by
  obtain ⟨cs, h1, h2, h3⟩ := h
  obtain ⟨cs', h1', hs⟩ := r g cs _ hl h1
  obtain ⟨y0, e0, s0⟩ := hs _ _ h2
  obtain ⟨y1, e1, s1⟩ := hs _ _ h3
  obtain rfl := s0.slice
  obtain rfl := s1.slice
  exact ⟨cs', h1', e0, e1⟩
theorem BoxS.cells {w : World} {g : Nat} {x y : Value} (h : BoxS w g x y) : w.cell? ⟨g, 3, none⟩ = some x ∧ w.cell? ⟨g, 4, none⟩ = some y := by
  obtain ⟨cs, h1, h2, h3⟩ := h
  exact ⟨by rw [cell_of_row w g 3 cs _ (0, 0) h1, h2], by rw [cell_of_row w g 4 cs _ (0, 0) h1, h3]⟩
theorem SI.item {w : World} {lo d n j : Nat} {A : Option Addr} (h : SI w lo d A n) (hj : j < n) : ∃ (b off : Nat) (k i : Int) (s : ByteArray) (x y : Value), A = some ⟨b, off, none⟩ ∧ lo ≤ b ∧
    w.cell? ⟨b, off + j * 5, none⟩ = some (.int .i64 k) ∧ w.cell? ⟨b, off + j * 5 + 1, none⟩ = some (.int .i64 i) ∧ w.cell? ⟨b, off + j * 5 + 2, none⟩ = some (.string s) ∧
    w.cell? ⟨b, off + j * 5 + 3, none⟩ = some x ∧ w.cell? ⟨b, off + j * 5 + 4, none⟩ = some y ∧ w.frozen? ⟨b, off + j * 5, none⟩ = false ∧ SB w lo d (.agg #[.int .i64 k, .int .i64 i, .string s, x, y]) ∧
    ∀ u : Int, Rws lo w (w.setCell ⟨b, off + j * 5, none⟩ (.int .i64 u)) := by
  obtain ⟨b, off, cs, T, ha, hb, hc, hj'⟩ := h (by omega)
  obtain ⟨k, i, s, x, y, c0, c1, c2, c3, c4, hv⟩ := hj' j hj
  have hk := fun q => cell_of_row w b q cs T (0, 0) hc
  exact ⟨b, off, k, i, s, x, y, ha, hb, by rw [hk, c0], by rw [hk, c1], by rw [hk, c2], by rw [hk, c3], by rw [hk, c4], row_free hc, hv, fun u => Rws.set hc c0 (.inr (.inl ⟨_, _, rfl, rfl⟩))⟩
theorem SK.item {w : World} {lo m j : Nat} {B : Option Addr} (h : SK w lo B m) (hj : j < m) : ∃ (b off : Nat) (s : ByteArray), B = some ⟨b, off, none⟩ ∧ lo ≤ b ∧
    w.cell? ⟨b, off + j, none⟩ = some (.string s) ∧ w.frozen? ⟨b, off + j, none⟩ = false ∧ ∀ u : ByteArray, Rws lo w (w.setCell ⟨b, off + j, none⟩ (.string u)) := by
  obtain ⟨b, off, cs, T, ha, hb, hc, hj'⟩ := h (by omega)
  obtain ⟨s, c0⟩ := hj' j hj
  exact ⟨b, off, s, ha, hb, by rw [cell_of_row w b _ cs T (0, 0) hc, c0], row_free hc, fun u => Rws.set hc c0 (.inr (.inr ⟨_, _, rfl, rfl⟩))⟩

set_option maxRecDepth 100000 in
set_option maxHeartbeats 2000000 in
theorem spoil_step (d : Nat) (ih : spoilAt d) : spoilAt (d + 1) := by
  intro v lo w h hlo
  obtain ⟨k, i, s, A, n, c, B, m, e, rfl, h1, h2, h3, h4, h5, h6⟩ := h
  have h5' : SI w lo d A n := h5
  have h6' : SK w lo B m := h6
  have HI := Lib.hid h5'; have HK := Lib.hid h6'
  have IH := Lib.hid ih
  clear h5 h6 h5' h6' ih
  have r0 : Rws lo w (w.alloc (.cells #[.int .i64 k, .int .i64 i, .string s, .slice A n c, .slice B m e] 26)) := Rws.of_below ((Below.refl _ _).alloc (Nat.le_refl _) _)
  have l0 : Below lo w (w.alloc (.cells #[.int .i64 k, .int .i64 i, .string s, .slice A n c, .slice B m e] 26)) := (Below.refl _ _).alloc hlo _
  have x0 : BoxS (w.alloc (.cells #[.int .i64 k, .int .i64 i, .string s, .slice A n c, .slice B m e] 26)) w.heap.size (.slice A n c) (.slice B m e) := ⟨_, heap_alloc_new _ _, rfl, rfl⟩
  have R0 := Lib.hid r0; have X0 := Lib.hid x0
  clear r0 x0
  go_enter Try.func24, Try.ntmps24
  go_wp2_with fail
  go_loopw [2, 7] (fun x y wr => ∃ (j : Nat), y = .int .i64 j ∧ j ≤ n ∧ Hid (Rws lo w wr) ∧ Hid (BoxS wr w.heap.size (.slice A n c) (.slice B m e)) ∧ Below lo w wr ∧ w.heap.size < wr.heap.size) (fun _ y _ => n - (intOf y).toNat)
  case atStart => exact ⟨0, rfl, by omega, R0, X0, l0, by simp⟩
  case round =>
    clear R0 X0 l0
    obtain ⟨j, rfl, hj, HR, HX, hb, hz⟩ := hrel
    obtain ⟨b3, b4⟩ := HX.out.cells
    by_cases hlt : j < n
    · obtain ⟨b, off, kk, ii, ss, x, y, rfl, hbl, c0, c1, c2, c3, c4, f0, hv, -⟩ := (HI.out.kept HR.out).item hlt
      obtain ⟨_, _, _, A1, n1, cc1, B1, m1, e1, hxy⟩ := hv.form
      simp only [Value.agg.injEq, Array.mk.injEq, List.cons.injEq, and_true] at hxy
      obtain ⟨-, -, -, rfl, rfl⟩ := hxy
      go_wp2_with fail
      refine (IH.out _ lo _ hv (by omega)).mono ?_
      rintro e w1 ⟨rfl, hb1, hr1⟩
      have hs1 := hb1.size
      have hx1 := HX.out.kept hr1 hlo
      have hr2 := HR.out.trans hr1
      have HR2 := Lib.hid hr2; have HX2 := Lib.hid hx1
      clear b3 b4 c0 c1 c2 c3 c4 f0 hv hr1 hr2 hx1
      obtain ⟨b3, b4⟩ := HX2.out.cells
      obtain ⟨b', off', kk', ii', ss', x', y', he, hbl', c0, c1, c2, c3, c4, f0, hv, hset⟩ := (HI.out.kept HR2.out).item hlt
      injection he with he
      injection he with he1 he2
      subst he1; subst he2
      have HSET := Lib.hid (hset 99)
      clear hset hv
      go_wp2_with fail
      refine ⟨⟨j + 1, by go_num, by omega, Lib.hid (HR2.out.trans HSET.out), Lib.hid (HX2.out.kept HSET.out hlo), (hb.trans hb1).setCell hbl _, by simp; omega⟩, by simp [intOf]; omega⟩
    · obtain ⟨wo, rfl⟩ : ∃ wo : World, wo = wr := ⟨_, rfl⟩
      go_wp2_with fail
      go_loopw [3, 25] (fun x y wr => ∃ (j : Nat), y = .int .i64 j ∧ j ≤ m ∧ Hid (Rws lo w wr) ∧ Hid (BoxS wr w.heap.size (.slice A n c) (.slice B m e)) ∧ Below lo w wr ∧ w.heap.size < wr.heap.size) (fun _ y _ => m - (intOf y).toNat)
      case atStart => exact ⟨0, rfl, by omega, HR, HX, hb, hz⟩
      case round =>
        clear HR HX hb hz b3 b4
        obtain ⟨q, rfl, hq, HR, HX, hb, hz⟩ := hrel
        obtain ⟨b3, b4⟩ := HX.out.cells
        by_cases hlt2 : q < m
        · obtain ⟨b, off, ss, rfl, hbl, c0, f0, hset⟩ := (HK.out.kept HR.out).item hlt2
          have HSET := Lib.hid (hset ⟨#[115, 112, 111, 105, 108, 116]⟩)
          clear hset
          go_wp2_with fail
          refine ⟨⟨q + 1, by go_num, by omega, Lib.hid (HR.out.trans HSET.out), Lib.hid (HX.out.kept HSET.out hlo), hb.setCell hbl _, by simp; omega⟩, by simp [intOf]; omega⟩
        · go_wp2_with fail
          go_end0
          exact ⟨rfl, hb, HR.out⟩

theorem spoil_at : ∀ d, spoilAt d
  | 0 => fun _ _ _ h _ => h.elim
  | d + 1 => spoil_step d (spoil_at d)
end Go.Proofs.Ytfcbieiefdbbpaa
