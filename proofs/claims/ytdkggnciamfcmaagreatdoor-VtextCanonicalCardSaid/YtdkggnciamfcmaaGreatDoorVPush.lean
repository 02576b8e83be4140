/-
  Layer 2: one key, one value appended to a row of the call's own; four boxes.
-/
import Derived.Test.YtdkggnciamfcmaaGreatDoorVMem4
import Derived.Deep.RegionLaw
namespace Go.Proofs.YtdkggnciamfcmaaGreatDoor
set_option linter.unusedVariables false
open Go.RowKit
open M (V)

section
variable {w : World} {ops : Array Oper} {rest : List Oper} {o : Oper} {a : Act} {Q : Exit → Act → World → Prop} {K : Act → World → Prop} {E : Prop}
set_option maxRecDepth 100000 in
theorem wpList_push_key (hgd : o.guard = none) (s x : Operand)
    (ho : o.op = .call { callee := .builtin .append, args := #[s, x], argTypes := #[23, 23] })
    (base n g : Nat) (v : Value) (xs : List Value) (k : ByteArray) (T : TypeId) (fr : Nat × Nat) (hs : a.eval s = v) (hown : w.ownsRow base 9 1 v n xs) (hx : a.eval x = .slice (some ⟨g, 0, none⟩) 1 1)
    (hg : w.heap[g]? = some (.cells #[.string k] T fr)) (hn : n ≤ 1000000) (hbase : base ≤ w.heap.size)
    (h : ∀ g1 cap w', w'.ownsRow base 9 1 (.slice (some ⟨g1, 0, none⟩) (n + 1) cap) (n + 1) (xs ++ [.string k]) → w.grownBy w' v.ownBlock → (v.ownBlock = some g1 ∨ w.heap.size ≤ g1) → g1 < w'.heap.size →
      wpList Tryz.prog ops Q rest (a.put o.dst (.slice (some ⟨g1, 0, none⟩) (n + 1) cap)) w') : wpList Tryz.prog ops Q (o :: rest) a w := by
  obtain ⟨i, hi0, hz0, hz1, hz2⟩ := info_parts str_info
  refine wpList_append_lies w hgd s x _ ho base 9 i (.string ByteArray.empty) 1 16 Tryz.underlying23 hi0 hz0 hz1 hz2 rfl (by decide) v n xs hs hown ⟨g, 0, none⟩ 1 1 [.string k] hx rfl (World.news_of_block hg) ?_ (by decide) (by unfold maxLen; omega) (by omega) hbase w.heap.size rfl ?_
  · intro u hu; obtain rfl := List.mem_singleton.1 hu; rfl
  · intro g1 cap w' h1 h2 h3 h4
    exact h g1 cap w' h1 h2 (h3.imp id (fun e => by omega)) h4
set_option maxRecDepth 100000 in
theorem step_push_key (hgd : o.guard = none) (s x : Operand)
    (ho : o.op = .call { callee := .builtin .append, args := #[s, x], argTypes := #[23, 23] })
    (base n g : Nat) (v : Value) (xs : List Value) (k : ByteArray) (T : TypeId) (fr : Nat × Nat) (hs : a.eval s = v) (hown : w.ownsRow base 9 1 v n xs) (hx : a.eval x = .slice (some ⟨g, 0, none⟩) 1 1)
    (hg : w.heap[g]? = some (.cells #[.string k] T fr)) (hn : n ≤ 1000000) (hbase : base ≤ w.heap.size)
    (h : ∀ g1 cap w', w'.ownsRow base 9 1 (.slice (some ⟨g1, 0, none⟩) (n + 1) cap) (n + 1) (xs ++ [.string k]) → w.grownBy w' v.ownBlock → (v.ownBlock = some g1 ∨ w.heap.size ≤ g1) → g1 < w'.heap.size →
      K (a.put o.dst (.slice (some ⟨g1, 0, none⟩) (n + 1) cap)) w') :
    if Region.wanted o (yielded ops a.tmps) = true then Oper.wp Tryz.prog o a w K Q else E := by
  obtain ⟨i, hi0, hz0, hz1, hz2⟩ := info_parts str_info
  refine step_append_lies w hgd s x _ ho base 9 i (.string ByteArray.empty) 1 16 Tryz.underlying23 hi0 hz0 hz1 hz2 rfl (by decide) v n xs hs hown ⟨g, 0, none⟩ 1 1 [.string k] hx rfl (World.news_of_block hg) ?_ (by decide) (by unfold maxLen; omega) (by omega) hbase w.heap.size rfl ?_
  · intro u hu; obtain rfl := List.mem_singleton.1 hu; rfl
  · intro g1 cap w' h1 h2 h3 h4
    exact h g1 cap w' h1 h2 (h3.imp id (fun e => by omega)) h4
def val5 (k i : Int) (s : ByteArray) (x y : Value) : List Value := [.int .i64 k, .int .i64 i, .string s, x, y]
set_option maxRecDepth 100000 in
theorem wpList_push_val (hgd : o.guard = none) (s x : Operand)
    (ho : o.op = .call { callee := .builtin .append, args := #[s, x], argTypes := #[22, 22] })
    (base n g : Nat) (v : Value) (xs : List Value) (k i : Int) (t : ByteArray) (A B : Option Addr) (m c p e : Nat) (T : TypeId) (fr : Nat × Nat) (hs : a.eval s = v) (hown : w.ownsRow base 25 5 v n xs) (hx : a.eval x = .slice (some ⟨g, 0, none⟩) 1 1)
    (hg : w.heap[g]? = some (.cells #[.int .i64 k, .int .i64 i, .string t, .slice A m c, .slice B p e] T fr)) (hn : n ≤ 1000000) (hbase : base ≤ w.heap.size)
    (h : ∀ g1 cap w', w'.ownsRow base 25 5 (.slice (some ⟨g1, 0, none⟩) (n + 1) cap) (n + 1) (xs ++ [.int .i64 k, .int .i64 i, .string t, .slice A m c, .slice B p e]) → w.grownBy w' v.ownBlock → (v.ownBlock = some g1 ∨ w.heap.size ≤ g1) → g1 < w'.heap.size →
      wpList Tryz.prog ops Q rest (a.put o.dst (.slice (some ⟨g1, 0, none⟩) (n + 1) cap)) w') : wpList Tryz.prog ops Q (o :: rest) a w := by
  obtain ⟨i2, hi0, hz0, hz1, hz2⟩ := info_parts val_info
  refine wpList_append_lies w hgd s x _ ho base 25 i2 _ 5 80 Tryz.underlying22 hi0 hz0 hz1 hz2 rfl (by decide) v n xs hs hown ⟨g, 0, none⟩ 1 1 [.int .i64 k, .int .i64 i, .string t, .slice A m c, .slice B p e] hx rfl (World.news_of_block hg) ?_ (by decide) (by unfold maxLen; omega) (by omega) hbase w.heap.size rfl ?_
  · intro u hu
    simp only [List.mem_cons, List.not_mem_nil, or_false] at hu
    rcases hu with rfl | rfl | rfl | rfl | rfl <;> rfl
  · intro g1 cap w' h1 h2 h3 h4
    exact h g1 cap w' h1 h2 (h3.imp id (fun e => by omega)) h4
set_option maxRecDepth 100000 in
theorem step_push_val (hgd : o.guard = none) (s x : Operand)
    (ho : o.op = .call { callee := .builtin .append, args := #[s, x], argTypes := #[22, 22] })
    (base n g : Nat) (v : Value) (xs : List Value) (k i : Int) (t : ByteArray) (A B : Option Addr) (m c p e : Nat) (T : TypeId) (fr : Nat × Nat) (hs : a.eval s = v) (hown : w.ownsRow base 25 5 v n xs) (hx : a.eval x = .slice (some ⟨g, 0, none⟩) 1 1)
    (hg : w.heap[g]? = some (.cells #[.int .i64 k, .int .i64 i, .string t, .slice A m c, .slice B p e] T fr)) (hn : n ≤ 1000000) (hbase : base ≤ w.heap.size)
    (h : ∀ g1 cap w', w'.ownsRow base 25 5 (.slice (some ⟨g1, 0, none⟩) (n + 1) cap) (n + 1) (xs ++ [.int .i64 k, .int .i64 i, .string t, .slice A m c, .slice B p e]) → w.grownBy w' v.ownBlock → (v.ownBlock = some g1 ∨ w.heap.size ≤ g1) → g1 < w'.heap.size →
      K (a.put o.dst (.slice (some ⟨g1, 0, none⟩) (n + 1) cap)) w') :
    if Region.wanted o (yielded ops a.tmps) = true then Oper.wp Tryz.prog o a w K Q else E := by
  obtain ⟨i2, hi0, hz0, hz1, hz2⟩ := info_parts val_info
  refine step_append_lies w hgd s x _ ho base 25 i2 _ 5 80 Tryz.underlying22 hi0 hz0 hz1 hz2 rfl (by decide) v n xs hs hown ⟨g, 0, none⟩ 1 1 [.int .i64 k, .int .i64 i, .string t, .slice A m c, .slice B p e] hx rfl (World.news_of_block hg) ?_ (by decide) (by unfold maxLen; omega) (by omega) hbase w.heap.size rfl ?_
  · intro u hu
    simp only [List.mem_cons, List.not_mem_nil, or_false] at hu
    rcases hu with rfl | rfl | rfl | rfl | rfl <;> rfl
  · intro g1 cap w' h1 h2 h3 h4
    exact h g1 cap w' h1 h2 (h3.imp id (fun e => by omega)) h4
end

/-- One push into a field of the box M, where another row stands in another field: what is then there. -/
theorem push_step {w1 wr wa wn : World} {M f e s n e' s' n' n2 T : Nat} {v v' u : Value} {cs : Array Value} {xs xs' xs2 : List Value} (hM : M < w1.heap.size) (hg : w1.grownBy wr (some M)) (hm : wr.heap[M]? = some (.cells cs T (0, 0)))
    (hrow : wr.ownsRow w1.heap.size e s v n xs) (hoth : wr.ownsRow w1.heap.size e' s' v' n' xs') (hne : e ≠ e')
    (ha : wr.grownBy wa none) (h1 : wn.ownsRow w1.heap.size e s u n2 xs2) (h2 : wa.grownBy wn v.ownBlock) :
    w1.grownBy (wn.setCell ⟨M, f, none⟩ u) (some M) ∧ (wn.setCell ⟨M, f, none⟩ u).heap[M]? = some (.cells (cs.setIfInBounds f u) T (0, 0)) ∧ (wn.setCell ⟨M, f, none⟩ u).ownsRow w1.heap.size e s u n2 xs2 ∧ (wn.setCell ⟨M, f, none⟩ u).ownsRow w1.heap.size e' s' v' n' xs' ∧ wr.heap.size ≤ (wn.setCell ⟨M, f, none⟩ u).heap.size := by
  have hws := hg.size
  have g1 : wr.grownBy wn v.ownBlock := (⟨ha.os, ha.tape, ha.output, ha.size, fun k hk _ => ha.block k hk (by simp)⟩ : wr.grownBy wa v.ownBlock).trans h2
  have g2 : wn.grownBy (wn.setCell ⟨M, f, none⟩ u) (some M) := ⟨rfl, rfl, rfl, by simp [World.setCell], fun k _ hk => heap_setCell_other wn ⟨M, f, none⟩ k u (by intro e; exact hk (by rw [e]))⟩
  have hk : ∀ {e s n : Nat} {v : Value} {xs : List Value} {W : World}, W.ownsRow w1.heap.size e s v n xs → v.ownBlock ≠ some M := fun {e s n v xs W} h e' => by have := h.lt _ e'; omega
  have hv : v.ownBlock = none ∨ v.ownBlock ≠ v'.ownBlock := own_other (w' := wr) hrow hoth hne
  have hv' : v'.ownBlock = none ∨ v'.ownBlock ≠ v.ownBlock := own_other (w' := wr) hoth hrow (Ne.symm hne)
  refine ⟨?_, ?_, h1.kept g2 (.inr (hk h1)), (hoth.kept g1 hv').kept g2 (.inr (hk hoth)), ?_⟩
  · exact (hg.andThen g1 (fun k hk' => .inl (hrow.lt _ hk').1)).andThen g2 (fun k hk' => .inr hk')
  · exact heap_setCell_same _ _ f _ _ _ ((g1.block M (by omega) (fun e' => hk hrow e'.symm)).trans hm)
  · exact Nat.le_trans g1.size g2.size
theorem field_after {wr wa wn : World} {M f : Nat} {T : TypeId} {cs : Array Value} {u : Value} {row : Option Nat} (hm : wr.heap[M]? = some (.cells cs T (0, 0))) (hf : cs[f]? = some u) (ha : wr.grownBy wa none) (h2 : wa.grownBy wn row) (hne : some M ≠ row) :
    wn.cell? ⟨M, f, none⟩ = some u ∧ wn.frozen? ⟨M, f, none⟩ = false := by
  have hlt := row_lt hm
  have e : wn.heap[M]? = some (.cells cs T (0, 0)) := by
    rw [h2.block M (by have := ha.size; omega) hne, ha.block M hlt (by simp), hm]
  exact ⟨by rw [cell_of_row wn M f cs T (0, 0) e, hf], row_free e⟩
theorem grown_alloc (w : World) (o : Obj) : w.grownBy (w.alloc o) none := World.grownBy_alloc w o none
theorem grown_drew_alloc (w : World) (o : Obj) : w.grownBy (w.drew.alloc o) none := let h := World.grownBy_alloc w.drew o none
  ⟨h.os, h.tape, h.output, h.size, h.block⟩
theorem elem_push {W : World} {lo hi d : Nat} {cI : List Value} {l : List V} {z : V} {k i : Int} {s : ByteArray} {x y : Value} (hl : cI.length = l.length * 5) (he : ∀ q, q < l.length → Elem W lo hi d cI.toArray q (l.getD q default)) (hv : VB W lo hi d (.agg #[.int .i64 k, .int .i64 i, .string s, x, y]) z) :
    ∀ q, q < (l ++ [z]).length → Elem W lo hi d (cI ++ [.int .i64 k, .int .i64 i, .string s, x, y]).toArray q ((l ++ [z]).getD q default) := by
  intro q hq
  simp only [List.length_append, List.length_singleton] at hq
  rcases Nat.lt_or_ge q l.length with h | h
  · rw [show (l ++ [z]).getD q default = l.getD q default by simp [List.getD, List.getElem?_append_left h]]
    refine (he q h).same fun i h1 h2 => ?_
    simp only [List.getElem?_toArray]
    exact List.getElem?_append_left (by omega)
  · obtain rfl : q = l.length := by omega
    have g : ∀ r, (cI ++ [Value.int .i64 k, .int .i64 i, .string s, x, y]).toArray[l.length * 5 + r]? = [Value.int .i64 k, .int .i64 i, .string s, x, y][r]? := fun r => by
      simp only [List.getElem?_toArray]
      rw [List.getElem?_append_right (by omega), hl]
      congr 1; omega
    rw [show (l ++ [z]).getD l.length default = z by simp [List.getD]]
    exact ⟨k, i, s, x, y, g 0, g 1, g 2, g 3, g 4, hv⟩
theorem os_push {W : World} {base : Nat} {v : Value} {l : List ByteArray} {k : ByteArray} {n : Nat} (hn : l.length = n) (h : W.ownsRow base 9 1 v (n + 1) (l.map Value.string ++ [.string k])) : OS W base v (l ++ [k]) := by
  subst hn
  unfold OS
  simpa using h
/-- An item of a list whose items lie elsewhere. -/
theorem IS.item2 {w : World} {lo hi lo1 hi1 d n c j : Nat} {A : Option Addr} {l : List V} (h : IS w lo hi (VB w lo1 hi1 d) A n c l) (hj : j < n) : ∃ (b off : Nat) (k i : Int) (s : ByteArray) (x y : Value), A = some ⟨b, off, none⟩ ∧ b < hi ∧
    w.cell? ⟨b, off + j * 5, none⟩ = some (.int .i64 k) ∧ w.cell? ⟨b, off + j * 5 + 1, none⟩ = some (.int .i64 i) ∧ w.cell? ⟨b, off + j * 5 + 2, none⟩ = some (.string s) ∧
    w.cell? ⟨b, off + j * 5 + 3, none⟩ = some x ∧ w.cell? ⟨b, off + j * 5 + 4, none⟩ = some y ∧ VB w lo1 hi1 d (.agg #[.int .i64 k, .int .i64 i, .string s, x, y]) (l.getD j default) := by
  obtain ⟨b, off, e, h1, h2, h3⟩ := h.at_ (by omega)
  obtain ⟨k0, i, s, x, y, c0, c1, c2, c3, c4, r⟩ := h3 j hj
  exact ⟨b, off, k0, i, s, x, y, e, h2, c0, c1, c2, c3, c4, r⟩
theorem IS.row2 {w : World} {g : Nat} {cs : Array Value} {T : TypeId} {lo hi lo1 hi1 d n c : Nat} {l : List V} (h : w.heap[g]? = some (.cells cs T (0, 0))) (hl : l.length = n) (hc : n ≤ c) (hb : n * 80 ≤ 140737488355328) (hlo : lo ≤ g) (hhi : g < hi)
    (he : ∀ q, q < n → Elem w lo1 hi1 d cs q (l.getD q default)) : IS w lo hi (VB w lo1 hi1 d) (some ⟨g, 0, none⟩) n c l := by
  refine ⟨hl, hc, hb, (fun e => by cases e), fun hn => ⟨g, 0, rfl, hlo, hhi, fun j hj => ?_⟩⟩
  obtain ⟨k0, i, s, x, y, c0, c1, c2, c3, c4, hv⟩ := he j hj
  have hk := fun q => cell_of_row w g q cs T (0, 0) h
  exact ⟨k0, i, s, x, y, by rw [Nat.zero_add, hk, c0], by rw [Nat.zero_add, hk, c1], by rw [Nat.zero_add, hk, c2], by rw [Nat.zero_add, hk, c3], by rw [Nat.zero_add, hk, c4], hv⟩
theorem ovf2 {W : World} {base lo1 hi1 d n : Nat} {v : Value} {cI : List Value} {l : List V} (h : OV W base v cI n) (hb : n * 80 ≤ 140737488355328) (hl : l.length = n)
    (he : ∀ q, q < n → Elem W lo1 hi1 d cI.toArray q (l.getD q default)) : ∃ A c, v = .slice A n c ∧ IS W base W.heap.size (VB W lo1 hi1 d) A n c l := by
  obtain ⟨_, h2⟩ := h
  rcases h2 with ⟨rfl, h0⟩ | ⟨g, cap, cur, rfl, hg, hheap, h3, h4, h5, h6⟩
  · subst h0
    obtain rfl := List.eq_nil_of_length_eq_zero hl
    exact ⟨none, 0, rfl, IS.nil_ _ _ _ _⟩
  · refine ⟨_, _, rfl, IS.row2 hheap hl h3 hb hg (row_lt hheap) fun q hq => (he q hq).same fun i h1 h2 => ?_⟩
    rw [← h6]
    simp only [List.getElem?_toArray]
    rw [List.getElem?_take_of_lt (by omega)]
    simp

section
variable {W w1 : World} {o o' o'' o3 : Obj} {B : Nat}
theorem four_heap (hb : Below B ((((W.alloc o).alloc o').alloc o'').alloc o3) w1) (hB : W.heap.size + 4 ≤ B) : w1.heap[W.heap.size]? = some o ∧ w1.heap[W.heap.size + 1]? = some o' ∧ w1.heap[W.heap.size + 1 + 1]? = some o'' ∧ w1.heap[W.heap.size + 1 + 1 + 1]? = some o3 := by
  obtain ⟨h1, h2, h3⟩ := three_heap (Below.refl (W.heap.size + 3) (((W.alloc o).alloc o').alloc o'')) (Nat.le_refl _)
  have e : ∀ k, k < W.heap.size + 3 → ((((W.alloc o).alloc o').alloc o'').alloc o3).heap[k]? = (((W.alloc o).alloc o').alloc o'').heap[k]? := fun k hk => Below.heap_alloc _ _ _ (by simp; omega)
  have n4 := heap_alloc_new (((W.alloc o).alloc o').alloc o'') o3
  simp only [World.size_alloc] at n4
  refine ⟨?_, ?_, ?_, ?_⟩
  · rw [hb.block _ (by omega), e _ (by omega), h1]
  · rw [hb.block _ (by omega), e _ (by omega), h2]
  · rw [hb.block _ (by omega), e _ (by omega)]; exact h3
  · rw [hb.block _ (by omega)]; exact n4
theorem four_below (o o' o'' o3 : Obj) (W : World) : Below W.heap.size W ((((W.alloc o).alloc o').alloc o'').alloc o3) :=
  ((((Below.refl _ _).alloc (Nat.le_refl _) _).alloc (by simp) _).alloc (by simp; omega) _).alloc (by simp; omega) _
end
end Go.Proofs.YtdkggnciamfcmaaGreatDoor
