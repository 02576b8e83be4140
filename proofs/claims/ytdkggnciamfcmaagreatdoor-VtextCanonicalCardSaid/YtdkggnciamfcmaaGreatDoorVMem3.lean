/-
  Layer 2: rows of values and of strings that the call has made.
-/
import Derived.Test.YtdkggnciamfcmaaGreatDoorVMem2
namespace Go.Proofs.YtdkggnciamfcmaaGreatDoor
set_option linter.unusedVariables false
open Go.RowKit
open M (V)

theorem str_info : (Tryz.prog.info? 9).map (fun i => (i.zero, i.size, i.bytes)) = some (some (.string ByteArray.empty), 1, 16) := by kernel_rfl
def zeroVal : Value := .agg #[.int .i64 0, .int .i64 0, .string ByteArray.empty, .slice none 0 0, .slice none 0 0]
theorem val_info : (Tryz.prog.info? 25).map (fun i => (i.zero, i.size, i.bytes)) = some (some (.agg #[.int .i64 0, .int .i64 0, .string ByteArray.empty, .slice none 0 0, .slice none 0 0]), 5, 80) := by kernel_rfl

section
variable {w w' : World} {g : Nat} {cs : Array Value} {T : TypeId}
theorem row_cell {i : Nat} (h : w.heap[g]? = some (.cells cs T (0, 0))) (hi : i < cs.size) : w.cell? ⟨g, i, none⟩ = some cs[i] := by
  rw [cell_of_row w g i cs T (0, 0) h]; simp [hi]
theorem row_any {o : Nat} (h : w.heap[g]? = some (.cells cs T (0, 0))) (ho : o + 5 ≤ cs.size) : ∃ u0 u1 u2 u3 u4, w.cell? ⟨g, o, none⟩ = some u0 ∧ w.cell? ⟨g, o + 1, none⟩ = some u1 ∧ w.cell? ⟨g, o + 2, none⟩ = some u2 ∧ w.cell? ⟨g, o + 3, none⟩ = some u3 ∧ w.cell? ⟨g, o + 4, none⟩ = some u4 :=
  ⟨_, _, _, _, _, row_cell h (by omega), row_cell h (by omega), row_cell h (by omega), row_cell h (by omega), row_cell h (by omega)⟩
theorem row_free {i : Nat} (h : w.heap[g]? = some (.cells cs T (0, 0))) : w.frozen? ⟨g, i, none⟩ = false := frozen_of_row w g i cs T h
theorem row_lt {o : Obj} (h : w.heap[g]? = some o) : g < w.heap.size := by
  rcases Nat.lt_or_ge g w.heap.size with hlt | hge
  · exact hlt
  · rw [Array.getElem?_eq_none hge] at h; cases h
/-- Five cells of a row are stored. -/
theorem row5 (h : w.heap[g]? = some (.cells cs T (0, 0))) (o : Nat) (ho : o + 5 ≤ cs.size) (a b c d e : Value) :
    ∃ cs' : Array Value, (((((w.setCell ⟨g, o, none⟩ a).setCell ⟨g, o + 1, none⟩ b).setCell ⟨g, o + 2, none⟩ c).setCell ⟨g, o + 3, none⟩ d).setCell ⟨g, o + 4, none⟩ e).heap[g]? = some (.cells cs' T (0, 0)) ∧ cs'.size = cs.size ∧
      cs'[o]? = some a ∧ cs'[o + 1]? = some b ∧ cs'[o + 2]? = some c ∧ cs'[o + 3]? = some d ∧ cs'[o + 4]? = some e ∧ ∀ i, (i < o ∨ o + 5 ≤ i) → cs'[i]? = cs[i]? := by
  refine ⟨((((cs.setIfInBounds o a).setIfInBounds (o + 1) b).setIfInBounds (o + 2) c).setIfInBounds (o + 3) d).setIfInBounds (o + 4) e, ?_, by simp, ?_, ?_, ?_, ?_, ?_, ?_⟩
  · exact heap_setCell_same _ _ _ _ _ _ (heap_setCell_same _ _ _ _ _ _ (heap_setCell_same _ _ _ _ _ _ (heap_setCell_same _ _ _ _ _ _ (heap_setCell_same _ _ _ _ _ _ h))))
  · simp [Array.getElem?_setIfInBounds]; omega
  · simp [Array.getElem?_setIfInBounds]; omega
  · simp [Array.getElem?_setIfInBounds]; omega
  · simp [Array.getElem?_setIfInBounds]; omega
  · simp [Array.getElem?_setIfInBounds]; omega
  · intro i hi
    simp only [Array.getElem?_setIfInBounds]
    rw [if_neg (by omega), if_neg (by omega), if_neg (by omega), if_neg (by omega), if_neg (by omega)]
theorem five_other (w : World) (g o k : Nat) (a b c d e : Value) (hk : k ≠ g) :
    (((((w.setCell ⟨g, o, none⟩ a).setCell ⟨g, o + 1, none⟩ b).setCell ⟨g, o + 2, none⟩ c).setCell ⟨g, o + 3, none⟩ d).setCell ⟨g, o + 4, none⟩ e).heap[k]? = w.heap[k]? := by
  rw [heap_setCell_other _ _ _ _ hk, heap_setCell_other _ _ _ _ hk, heap_setCell_other _ _ _ _ hk, heap_setCell_other _ _ _ _ hk, heap_setCell_other _ _ _ _ hk]
theorem five_size (w : World) (g o : Nat) (a b c d e : Value) :
    (((((w.setCell ⟨g, o, none⟩ a).setCell ⟨g, o + 1, none⟩ b).setCell ⟨g, o + 2, none⟩ c).setCell ⟨g, o + 3, none⟩ d).setCell ⟨g, o + 4, none⟩ e).heap.size = w.heap.size := by simp
theorem five_below {a0 : World} {B : Nat} (h : Below B a0 w) (hg : B ≤ g) (o : Nat) (a b c d e : Value) :
    Below B a0 (((((w.setCell ⟨g, o, none⟩ a).setCell ⟨g, o + 1, none⟩ b).setCell ⟨g, o + 2, none⟩ c).setCell ⟨g, o + 3, none⟩ d).setCell ⟨g, o + 4, none⟩ e) :=
  ((((h.setCell hg _).setCell hg _).setCell hg _).setCell hg _).setCell hg _

theorem lit5 {x0 x1 x2 x3 x4 : Value} (h : w.heap[g]? = some (.cells #[x0, x1, x2, x3, x4] T (0, 0))) :
    w.cell? ⟨g, 0, none⟩ = some x0 ∧ w.cell? ⟨g, 1, none⟩ = some x1 ∧ w.cell? ⟨g, 2, none⟩ = some x2 ∧ w.cell? ⟨g, 3, none⟩ = some x3 ∧ w.cell? ⟨g, 4, none⟩ = some x4 ∧
    w.frozen? ⟨g, 0, none⟩ = false ∧ w.frozen? ⟨g, 1, none⟩ = false ∧ w.frozen? ⟨g, 2, none⟩ = false ∧ w.frozen? ⟨g, 3, none⟩ = false ∧ w.frozen? ⟨g, 4, none⟩ = false := by
  have hk := fun q => cell_of_row w g q _ T (0, 0) h
  exact ⟨by rw [hk]; rfl, by rw [hk]; rfl, by rw [hk]; rfl, by rw [hk]; rfl, by rw [hk]; rfl, row_free h, row_free h, row_free h, row_free h, row_free h⟩
/-- 'store' of a whole value. -/
def stored (w : World) (g : Nat) (a b c d e : Value) : World := ((((w.setCell ⟨g, 0, none⟩ a).setCell ⟨g, 1, none⟩ b).setCell ⟨g, 2, none⟩ c).setCell ⟨g, 3, none⟩ d).setCell ⟨g, 4, none⟩ e
theorem lit_stored {x0 x1 x2 x3 x4 : Value} (h : w.heap[g]? = some (.cells #[x0, x1, x2, x3, x4] T (0, 0))) (a b c d e : Value) : (stored w g a b c d e).heap[g]? = some (.cells #[a, b, c, d, e] T (0, 0)) :=
  heap_setCell_same _ _ _ _ _ _ (heap_setCell_same _ _ _ _ _ _ (heap_setCell_same _ _ _ _ _ _ (heap_setCell_same _ _ _ _ _ _ (heap_setCell_same _ _ _ _ _ _ h))))
theorem stored_other (w : World) (g k : Nat) (a b c d e : Value) (hk : k ≠ g) : (stored w g a b c d e).heap[k]? = w.heap[k]? := five_other w g 0 k a b c d e hk
theorem stored_size (w : World) (g : Nat) (a b c d e : Value) : (stored w g a b c d e).heap.size = w.heap.size := five_size w g 0 a b c d e
theorem stored_below {a0 : World} {B : Nat} (h : Below B a0 w) (hg : B ≤ g) (a b c d e : Value) : Below B a0 (stored w g a b c d e) := five_below h hg 0 a b c d e
theorem set_other {p : Addr} {u : Value} {k : Nat} (h : k ≠ p.block) : (w.setCell p u).heap[k]? = w.heap[k]? := heap_setCell_other _ _ _ _ h
theorem set_size (w : World) (p : Addr) (u : Value) : (w.setCell p u).heap.size = w.heap.size := by simp
theorem two_heap {W w1 : World} {o o' : Obj} {B : Nat} (hb : Below B ((W.alloc o).alloc o') w1) (hB : W.heap.size + 2 ≤ B) : w1.heap[W.heap.size]? = some o ∧ w1.heap[W.heap.size + 1]? = some o' := by
  refine ⟨?_, ?_⟩
  · rw [hb.block _ (by omega), Below.heap_alloc _ _ _ (by simp)]
    exact heap_alloc_new W o
  · rw [hb.block _ (by omega)]
    have := heap_alloc_new (W.alloc o) o'
    simpa using this

/-- Element q of a row of values reads as t. -/
def Elem (w : World) (lo hi d : Nat) (cs : Array Value) (q : Nat) (t : V) : Prop := ∃ (k i : Int) (s : ByteArray) (x y : Value),
  cs[q * 5]? = some (.int .i64 k) ∧ cs[q * 5 + 1]? = some (.int .i64 i) ∧ cs[q * 5 + 2]? = some (.string s) ∧ cs[q * 5 + 3]? = some x ∧ cs[q * 5 + 4]? = some y ∧ VB w lo hi d (.agg #[.int .i64 k, .int .i64 i, .string s, x, y]) t
theorem Elem.kept {lo hi d q : Nat} {t : V} (h : Elem w lo hi d cs q t) (k : Kept lo hi w w') : Elem w' lo hi d cs q t := by
  obtain ⟨k0, i, s, x, y, c0, c1, c2, c3, c4, hv⟩ := h
  exact ⟨k0, i, s, x, y, c0, c1, c2, c3, c4, hv.kept k⟩
theorem Elem.weak {lo hi lo' hi' d q : Nat} {t : V} (h : Elem w lo hi d cs q t) (h1 : lo' ≤ lo) (h2 : hi ≤ hi') : Elem w lo' hi' d cs q t := by
  obtain ⟨k0, i, s, x, y, c0, c1, c2, c3, c4, hv⟩ := h
  exact ⟨k0, i, s, x, y, c0, c1, c2, c3, c4, hv.weak h1 h2⟩
theorem Elem.same {lo hi d q : Nat} {t : V} {cs' : Array Value} (h : Elem w lo hi d cs q t) (he : ∀ i, q * 5 ≤ i → i < q * 5 + 5 → cs'[i]? = cs[i]?) : Elem w lo hi d cs' q t := by
  obtain ⟨k0, i, s, x, y, c0, c1, c2, c3, c4, hv⟩ := h
  exact ⟨k0, i, s, x, y, (he _ (by omega) (by omega)).trans c0, (he _ (by omega) (by omega)).trans c1, (he _ (by omega) (by omega)).trans c2, (he _ (by omega) (by omega)).trans c3, (he _ (by omega) (by omega)).trans c4, hv⟩
/-- A row of values as a slice. -/
theorem IS.row {lo hi d n c : Nat} {l : List V} (h : w.heap[g]? = some (.cells cs T (0, 0))) (hl : l.length = n) (hc : n ≤ c) (hb : n * 80 ≤ 140737488355328) (hlo : lo ≤ g) (hhi : g < hi)
    (he : ∀ q, q < n → Elem w lo hi d cs q (l.getD q default)) : IS w lo hi (VB w lo hi d) (some ⟨g, 0, none⟩) n c l := by
  refine ⟨hl, hc, hb, (fun e => by cases e), fun hn => ⟨g, 0, rfl, hlo, hhi, fun j hj => ?_⟩⟩
  obtain ⟨k0, i, s, x, y, c0, c1, c2, c3, c4, hv⟩ := he j hj
  have hk := fun q => cell_of_row w g q cs T (0, 0) h
  exact ⟨k0, i, s, x, y, by rw [Nat.zero_add, hk, c0], by rw [Nat.zero_add, hk, c1], by rw [Nat.zero_add, hk, c2], by rw [Nat.zero_add, hk, c3], by rw [Nat.zero_add, hk, c4], hv⟩
theorem VB.agg {lo hi d : Nat} {v : Value} {t : V} (h : VB w lo hi d v t) : ∃ A n c B m e, v = .agg #[.int .i64 t.k, .int .i64 t.n, .string t.s, .slice A n c, .slice B m e] := VX.form ⟨d, h⟩
end

/-! ### Strings of the call's own -/
def OS (w : World) (base : Nat) (v : Value) (l : List ByteArray) : Prop := w.ownsRow base 9 1 v l.length (l.map Value.string)
theorem OS.empty (w : World) (base : Nat) : OS w base (.slice none 0 0) [] := World.ownsRow_nil _ _ _ _
theorem OS.form {w : World} {base : Nat} {v : Value} {l : List ByteArray} (h : OS w base v l) (hb : l.length * 16 ≤ 140737488355328) (hz : ∀ j, j < l.length → (l.getD j ByteArray.empty).size ≤ 140737488351232) :
    ∃ A n c, v = .slice A n c ∧ KS w base w.heap.size A n c l := by
  have hh := h
  obtain ⟨h1, h2⟩ := h
  rcases h2 with ⟨rfl, h0⟩ | ⟨g, cap, cur, rfl, hg, hheap, h3, h4, h5, h6⟩
  · obtain rfl : l = [] := List.eq_nil_of_length_eq_zero h0
    exact ⟨none, 0, 0, rfl, KS.nil_ _ _ _⟩
  · refine ⟨some ⟨g, 0, none⟩, l.length, cap, rfl, ⟨rfl, h3, hb, (fun e => by cases e), hz, fun hn => ⟨g, 0, rfl, hg, row_lt hheap, fun j hj => ?_⟩⟩⟩
    rw [Nat.zero_add, World.ownsRow.cellAt hh j (by omega)]
    simp [List.getD, hj]

section
variable {w : World} {ops : Array Oper} {rest : List Oper} {o : Oper} {a : Act} {Q : Exit → Act → World → Prop}
set_option maxRecDepth 100000 in
/-- 'append(s, x...)' of strings. -/
theorem wpList_append_ks (hgd : o.guard = none) (s x : Operand)
    (ho : o.op = .call { callee := .builtin .append, args := #[s, x], argTypes := #[23, 23] })
    (base : Nat) (v : Value) (l : List ByteArray) (hs : a.eval s = v) (hown : OS w base v l)
    (lo hi : Nat) (A : Option Addr) (m c : Nat) (r : List ByteArray) (hx : a.eval x = .slice A m c) (hr : KS w lo hi A m c r)
    (hbytes : (l.length + m) * 16 ≤ 140737488355328) (hbase : base ≤ w.heap.size)
    (h : ∀ v' w', OS w' base v' (l ++ r) → Below base w w' → w.grownBy w' v.ownBlock → wpList Tryz.prog ops Q rest (a.put o.dst v') w') : wpList Tryz.prog ops Q (o :: rest) a w := by
  obtain ⟨i, hi0, hz0, hz1, hz2⟩ := info_parts str_info
  have hrow : ∀ k, v.ownBlock = some k → base ≤ k := fun k hk => (World.ownsRow.lt hown k hk).1
  rcases A with _ | ad
  · obtain rfl := hr.nil rfl
    obtain rfl : m = 0 := by have := hr.cap; omega
    obtain rfl : r = [] := List.eq_nil_of_length_eq_zero hr.len
    exact wpList_append_own_none hgd s x _ ho base 9 i 1 Tryz.underlying23 hi0 v l.length _ hs hown hx (h v w (by simpa using hown) (Below.refl _ _) (World.grownBy.refl _ _))
  · refine wpList_append_own w hgd s x _ ho base 9 i _ 1 16 Tryz.underlying23 hi0 hz0 hz1 hz2 rfl (by omega) v l.length (l.map Value.string) hs hown ad m c (r.map Value.string) hx (by rw [List.length_map, hr.len]; omega) ?_ ?_ (by unfold maxLen; omega) hbytes hbase ?_
    · intro j u hu
      have hj : j < m := by
        have := (List.getElem?_eq_some_iff.1 hu).1
        rw [List.length_map, hr.len] at this; exact this
      obtain ⟨b, off, e, _, _, h3⟩ := hr.at_ (by omega)
      injection e with e
      subst e
      rw [Addr.add_lit, h3 j hj, ← hu]
      have hjl : j < r.length := by rw [hr.len]; exact hj
      simp [List.getD, hjl]
    · intro u hu
      obtain ⟨_, _, rfl⟩ := List.mem_map.1 hu
      rfl
    · intro v' w' hown' hgrow _
      refine h v' w' ?_ ((Below.refl _ _).grown hgrow hbase hrow) hgrow
      unfold OS
      rw [List.length_append, hr.len, List.map_append]
      exact hown'

set_option maxRecDepth 100000 in
/-- 'make([]Value, n)'. -/
theorem wpList_make_vals (hg : o.guard = none) (x y : Operand) (hop : o.op = Op.makeSlice 22 x y) (n : Nat) (hl : a.eval x = .int .i64 (n : Int)) (hc : a.eval y = .int .i64 (n : Int)) (hb : n * 80 ≤ 140737488355328)
    (hK : ∀ w' cs, w'.heap[w.heap.size]? = some (.cells cs 25 (0, 0)) → cs.size = n * 5 → Below w.heap.size w w' → wpList Tryz.prog ops Q rest (a.put o.dst (.slice (some ⟨w.heap.size, 0, none⟩) n n)) w') :
    wpList Tryz.prog ops Q (o :: rest) a w := by
  obtain ⟨i, hi0, hz0, hz1, hz2⟩ := info_parts val_info
  refine wpList_make_full w hg x y _ hop w.heap.size 25 i _ 5 Tryz.underlying22 hi0 hz0 hz1 _ _ _ _ n hl hc rfl rfl (by rw [hz2]; omega) (by unfold maxLen; omega) (Nat.le_refl _) ?_
  intro w' h1 h2
  obtain ⟨e1, e2⟩ := h1
  rcases e2 with ⟨e2, _⟩ | ⟨g, cap, cur, hv, hg, hh, h3, h4, h5, h6⟩
  · cases e2
  · injection hv with h7 h8 h9
    injection h7 with h7
    injection h7 with h7
    subst h7; subst h9
    exact hK w' cur hh h5 ((Below.refl _ _).grown h2 (Nat.le_refl _) (fun k hk => by cases hk))
end
end Go.Proofs.YtdkggnciamfcmaaGreatDoor
