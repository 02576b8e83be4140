/-
  Layer 3: rows that grow while new values are made and a parser goes on (layer 2's, without its decoder).
-/
import Derived.Test.YtdkggnciamfcmaaGreatDoorVPush
import Derived.Test.YtdkggnciamfcmaaGreatDoorVMem4
namespace Go.Proofs.YtdkggnciamfcmaaGreatDoor
set_option linter.unusedVariables false
open Go.RowKit
open M (V)

/-- Of the blocks below n, only block l and the one ahead of B have changed. -/
structure Frm (n l B : Nat) (w w' : World) : Prop where
  os : w'.os = w.os
  tape : w'.tape = w.tape
  output : w'.output = w.output
  size : w.heap.size ≤ w'.heap.size
  blk : ∀ b, b < n → b ≠ l ∧ b + 1 ≠ B → w'.heap[b]? = w.heap[b]?
section
variable {w w1 w2 : World} {n m l B : Nat}
theorem Frm.block (h : Frm n l B w w1) (b : Nat) (hb : b < n) (hc : (b < l ∧ b + 1 < B) ∨ (l < b ∧ B ≤ b)) : w1.heap[b]? = w.heap[b]? := h.blk b hb ⟨by omega, by omega⟩
theorem Frm.refl (n l B : Nat) (w : World) : Frm n l B w w := ⟨rfl, rfl, rfl, Nat.le_refl _, fun _ _ _ => rfl⟩
theorem Frm.trans (h : Frm n l B w w1) (h2 : Frm m l B w1 w2) (hm : n ≤ m) : Frm n l B w w2 :=
  ⟨h2.os.trans h.os, h2.tape.trans h.tape, h2.output.trans h.output, Nat.le_trans h.size h2.size, fun b h3 h4 => (h2.blk b (by omega) h4).trans (h.blk b h3 h4)⟩
theorem Frm.mono (h : Frm n l B w w1) (hm : m ≤ n) : Frm m l B w w1 := ⟨h.os, h.tape, h.output, h.size, fun b h3 h4 => h.blk b (by omega) h4⟩
theorem Frm.of_below (h : Below n w w1) : Frm n l B w w1 := ⟨h.os, h.tape, h.output, h.size, fun b h3 _ => h.block b h3⟩
theorem Frm.of_only {g : Nat} (h : w.grownBy w1 (some g)) : Frm w.heap.size g B w w1 :=
  ⟨h.os, h.tape, h.output, h.size, fun b h3 h4 => h.block b h3 (fun e => by injection e; omega)⟩
theorem Frm.step (h : Frm w.heap.size l B w w1) (h2 : Frm w1.heap.size l B w1 w2) : Frm w.heap.size l B w w2 := h.trans h2 h.size
theorem Frm.set (h : Frm n l B w w1) {p : Addr} (hp : (p.block = l ∨ p.block + 1 = B) ∨ n ≤ p.block) (u : Value) : Frm n l B w (w1.setCell p u) :=
  ⟨h.os, h.tape, h.output, by simpa [World.setCell] using h.size, fun b h3 h4 => (heap_setCell_other _ _ _ _ (by omega)).trans (h.blk b h3 h4)⟩
theorem Frm.kept (h : Frm n l B w w1) {lo hi : Nat} (h0 : l < lo) (h1 : B ≤ lo) (h2 : hi ≤ n) : Kept lo hi w w1 := fun b b1 b2 => h.blk b (by omega) ⟨by omega, by omega⟩
theorem own_frm {base e size k : Nat} {v : Value} {xs : List Value} (h : w.ownsRow base e size v k xs) (hf : Frm n l B w w1) (hn : w.heap.size ≤ n) (hl : l < base) (hB : B ≤ base) : w1.ownsRow base e size v k xs := by
  obtain ⟨h1, h2⟩ := h
  refine ⟨h1, ?_⟩
  rcases h2 with h2 | ⟨g, cap, cur, hv, hg, hh, r⟩
  · exact .inl h2
  · exact .inr ⟨g, cap, cur, hv, hg, by rw [hf.blk g (by have := row_lt hh; omega) ⟨by omega, by omega⟩]; exact hh, r⟩
end


/-- Element q of a row that still grows: what it refers to lies beside both rows. -/
def ElemB (w : World) (lo d : Nat) (r1 r2 : Option Nat) (cs : Array Value) (q : Nat) (t : V) : Prop := ∃ a b, lo ≤ a ∧ b ≤ w.heap.size ∧ (∀ k, r1 = some k → k < a ∨ b ≤ k) ∧ (∀ k, r2 = some k → k < a ∨ b ≤ k) ∧ Elem w a b d cs q t
/-- The box M of a value whose rows grow. -/
structure Grw (w : World) (base M d : Nat) (u0 u1 u2 vI vK : Value) (cI : List Value) (ks : List ByteArray) (its : List V) (T : TypeId) : Prop where
  box : w.heap[M]? = some (.cells #[u0, u1, u2, vI, vK] T (0, 0))
  ov : OV w base vI cI its.length
  os : OS w base vK ks
  el : ∀ q, q < its.length → ElemB w base d vI.ownBlock vK.ownBlock cI.toArray q (its.getD q default)
  low : M < base
  high : base ≤ w.heap.size

section
variable {w w1 w2 w3 : World} {base M d l B g cap : Nat} {u0 u1 u2 vI vK : Value} {cI : List Value} {ks : List ByteArray} {its : List V} {T : TypeId} {o : Obj}
theorem Grw.frm (h : Grw w base M d u0 u1 u2 vI vK cI ks its T) (hf : Frm w.heap.size l B w w1) (hl : l < M) (hB : B ≤ M) : Grw w1 base M d u0 u1 u2 vI vK cI ks its T := by
  have h1 := h.low
  have h2 := h.high
  refine ⟨(hf.block M (by omega) (.inr ⟨hl, hB⟩)).trans h.box, own_frm h.ov hf (Nat.le_refl _) (by omega) (by omega), own_frm h.os hf (Nat.le_refl _) (by omega) (by omega), fun q hq => ?_, h1, Nat.le_trans h2 hf.size⟩
  obtain ⟨a, b, e1, e2, e3, e4, e5⟩ := h.el q hq
  exact ⟨a, b, e1, Nat.le_trans e2 hf.size, e3, e4, e5.kept (hf.kept (by omega) (by omega) e2)⟩
theorem Grw.ne1 (h : Grw w base M d u0 u1 u2 vI vK cI ks its T) : some M ≠ vI.ownBlock := fun e => by have := (h.ov.lt _ e.symm).1; have := h.low; omega
theorem Grw.ne2 (h : Grw w base M d u0 u1 u2 vI vK cI ks its T) : some M ≠ vK.ownBlock := fun e => by have := (World.ownsRow.lt h.os _ e.symm).1; have := h.low; omega
theorem Grw.start (hb : w.heap[M]? = some (.cells #[u0, u1, u2, .slice none 0 0, .slice none 0 0] T (0, 0))) (h1 : M < base) (h2 : base ≤ w.heap.size) : Grw w base M d u0 u1 u2 (.slice none 0 0) (.slice none 0 0) [] [] [] T :=
  ⟨hb, World.ownsRow_nil _ _ _ _, OS.empty _ _, fun q hq => absurd hq (Nat.not_lt_zero _), h1, h2⟩
/-- What a push leaves: the blocks below base but for the box, and the frame. -/
theorem push_frame {u : Value} {f : Nat} {row : Option Nat} (hM : M < base) (hbase : base ≤ w2.heap.size) (hg : (w2.alloc o).grownBy w3 row) (hr : ∀ k, row = some k → base ≤ k) :
    (∀ b, b < base → b ≠ M → (w3.setCell ⟨M, f, none⟩ u).heap[b]? = w2.heap[b]?) ∧ Frm M l B w2 (w3.setCell ⟨M, f, none⟩ u) ∧ w2.heap.size + 1 ≤ (w3.setCell ⟨M, f, none⟩ u).heap.size := by
  have hs := hg.size
  simp only [World.size_alloc] at hs
  have hg1 : w2.grownBy w3 row := (World.grownBy_alloc w2 o row).trans hg
  have hk : ∀ b, b < base → w3.heap[b]? = w2.heap[b]? := fun b hb => hg1.block b (by omega) (fun e => by have := hr b e.symm; omega)
  refine ⟨fun b h1 h2 => ?_, ⟨hg1.os, hg1.tape, hg1.output, by rw [set_size]; omega, fun b h1 _ => ?_⟩, by rw [set_size]; omega⟩
  · rw [heap_setCell_other _ _ _ _ (by simpa using h2)]; exact hk b h1
  · rw [heap_setCell_other _ _ _ _ (by show b ≠ M; omega)]; exact hk b (by omega)
/-- One more item. -/
theorem Grw.item {k i : Int} {s : ByteArray} {x y : Value} {t : V} (h : Grw w1 base M d u0 u1 u2 vI vK cI ks its T) (hf : Frm w1.heap.size l B w1 w2) (hl : l < M) (hB : B ≤ M)
    (hv : VB w2 w1.heap.size w2.heap.size d (.agg #[.int .i64 k, .int .i64 i, .string s, x, y]) t)
    (h1 : w3.ownsRow base 25 5 (.slice (some ⟨g, 0, none⟩) (its.length + 1) cap) (its.length + 1) (cI ++ [.int .i64 k, .int .i64 i, .string s, x, y])) (h2 : (w2.alloc o).grownBy w3 vI.ownBlock)
    (h3 : vI.ownBlock = some g ∨ w2.heap.size + 1 ≤ g) :
    Grw (w3.setCell ⟨M, 3, none⟩ (.slice (some ⟨g, 0, none⟩) (its.length + 1) cap)) base M d u0 u1 u2 (.slice (some ⟨g, 0, none⟩) (its.length + 1) cap) vK (cI ++ [.int .i64 k, .int .i64 i, .string s, x, y]) ks (its ++ [t]) T := by
  have hG := h.frm hf hl hB
  have hlow := h.low
  have hhigh := h.high
  have hs1 := hf.size
  have hs2 := h2.size
  simp only [World.size_alloc] at hs2
  have hg1 : w2.grownBy w3 vI.ownBlock := (World.grownBy_alloc w2 o vI.ownBlock).trans h2
  have hM3 : w3.heap[M]? = some (.cells #[u0, u1, u2, vI, vK] T (0, 0)) := (hg1.block M (by omega) h.ne1).trans hG.box
  have hset : w3.grownBy (w3.setCell ⟨M, 3, none⟩ (.slice (some ⟨g, 0, none⟩) (its.length + 1) cap)) (some M) := ⟨rfl, rfl, rfl, by simp [World.setCell], fun k _ hk => heap_setCell_other w3 ⟨M, 3, none⟩ k _ (by intro e; exact hk (by rw [e]))⟩
  have hgM : g ≠ M := by rcases h3 with e | e
                         · have := (h.ov.lt _ e).1; omega
                         · omega
  have hgs : base ≤ g := by rcases h3 with e | e
                            · exact (h.ov.lt _ e).1
                            · omega
  have hlen : (its ++ [t]).length = its.length + 1 := by simp
  refine ⟨heap_setCell_same _ _ 3 _ _ _ hM3, by rw [hlen]; exact World.ownsRow.kept h1 hset (.inr (fun e => hgM (by injection e))), ?_, ?_, hlow, by rw [set_size]; omega⟩
  · have e3 := World.ownsRow.kept hG.os hg1 (own_other (w' := w2) hG.os hG.ov (by decide))
    exact World.ownsRow.kept e3 hset (.inr (fun e => by have := (World.ownsRow.lt e3 _ e).1; omega))
  · intro q hq
    rw [hlen] at hq
    rcases Nat.lt_or_ge q its.length with hql | hql
    · obtain ⟨a, b, e1, e2, e3, e4, e5⟩ := hG.el q hql
      rw [show (its ++ [t]).getD q default = its.getD q default by simp [List.getD, List.getElem?_append_left hql]]
      refine ⟨a, b, e1, by rw [set_size]; omega, fun k' hk' => ?_, e4, ?_⟩
      · injection hk' with hk'
        have hk' : g = k' := hk'
        subst hk'
        rcases h3 with e | e
        · exact e3 _ e
        · exact .inr (by omega)
      · refine ((e5.kept fun k' k1 k2 => ?_).same fun i' i1 i2 => ?_)
        · rw [heap_setCell_other _ _ _ _ (show k' ≠ M by omega)]
          exact hg1.block k' (by omega) (fun e => by rcases e3 k' e.symm with h | h <;> omega)
        · simp only [List.getElem?_toArray]
          exact List.getElem?_append_left (by have := h.ov.1; omega)
    · obtain rfl : q = its.length := by omega
      rw [show (its ++ [t]).getD its.length default = t by simp [List.getD]]
      have gl : ∀ r, (cI ++ [Value.int .i64 k, .int .i64 i, .string s, x, y]).toArray[its.length * 5 + r]? = [Value.int .i64 k, .int .i64 i, .string s, x, y][r]? := fun r => by
        simp only [List.getElem?_toArray]
        rw [List.getElem?_append_right (by have := h.ov.1; omega), h.ov.1]
        congr 1; omega
      refine ⟨w1.heap.size, w2.heap.size, hhigh, by rw [set_size]; omega, fun k' hk' => ?_, fun k' hk' => .inl (World.ownsRow.lt h.os _ hk').2, k, i, s, x, y, gl 0, gl 1, gl 2, gl 3, gl 4, ?_⟩
      · injection hk' with hk'
        have hk' : g = k' := hk'
        subst hk'
        rcases h3 with e | e
        · exact .inl (h.ov.lt _ e).2
        · exact .inr (by omega)
      · refine hv.kept fun b b1 b2 => ?_
        rw [heap_setCell_other _ _ _ _ (show b ≠ M by omega)]
        exact hg1.block b (by omega) (fun e => by have := (h.ov.lt _ e.symm).2; omega)
/-- One more key. -/
theorem Grw.key {key : ByteArray} (h : Grw w1 base M d u0 u1 u2 vI vK cI ks its T) (hf : Frm w1.heap.size l B w1 w2) (hl : l < M) (hB : B ≤ M)
    (h1 : w3.ownsRow base 9 1 (.slice (some ⟨g, 0, none⟩) (ks.length + 1) cap) (ks.length + 1) (ks.map Value.string ++ [.string key])) (h2 : (w2.alloc o).grownBy w3 vK.ownBlock)
    (h3 : vK.ownBlock = some g ∨ w2.heap.size + 1 ≤ g) :
    Grw (w3.setCell ⟨M, 4, none⟩ (.slice (some ⟨g, 0, none⟩) (ks.length + 1) cap)) base M d u0 u1 u2 vI (.slice (some ⟨g, 0, none⟩) (ks.length + 1) cap) cI (ks ++ [key]) its T := by
  have hG := h.frm hf hl hB
  have hlow := h.low
  have hhigh := h.high
  have hs1 := hf.size
  have hs2 := h2.size
  simp only [World.size_alloc] at hs2
  have hg1 : w2.grownBy w3 vK.ownBlock := (World.grownBy_alloc w2 o vK.ownBlock).trans h2
  have hM3 : w3.heap[M]? = some (.cells #[u0, u1, u2, vI, vK] T (0, 0)) := (hg1.block M (by omega) h.ne2).trans hG.box
  have hset : w3.grownBy (w3.setCell ⟨M, 4, none⟩ (.slice (some ⟨g, 0, none⟩) (ks.length + 1) cap)) (some M) := ⟨rfl, rfl, rfl, by simp [World.setCell], fun k _ hk => heap_setCell_other w3 ⟨M, 4, none⟩ k _ (by intro e; exact hk (by rw [e]))⟩
  have hlt := fun k e => World.ownsRow.lt h.os k e
  have hgM : g ≠ M := by rcases h3 with e | e
                         · have := (hlt _ e).1; omega
                         · omega
  refine ⟨heap_setCell_same _ _ 4 _ _ _ hM3, ?_, ?_, ?_, hlow, by rw [set_size]; omega⟩
  · have e3 := World.ownsRow.kept hG.ov hg1 (own_other (w' := w2) hG.ov hG.os (by decide))
    exact World.ownsRow.kept e3 hset (.inr (fun e => by have := (World.ownsRow.lt e3 _ e).1; omega))
  · exact World.ownsRow.kept (os_push rfl h1) hset (.inr (fun e => hgM (by injection e)))
  · intro q hq
    obtain ⟨a, b, e1, e2, e3, e4, e5⟩ := hG.el q hq
    refine ⟨a, b, e1, by rw [set_size]; omega, e3, fun k' hk' => ?_, ?_⟩
    · injection hk' with hk'
      have hk' : g = k' := hk'
      subst hk'
      rcases h3 with e | e
      · exact e4 _ e
      · exact .inr (by omega)
    · refine e5.kept fun k' k1 k2 => ?_
      rw [heap_setCell_other _ _ _ _ (show k' ≠ M by omega)]
      exact hg1.block k' (by omega) (fun e => by rcases e4 k' e.symm with h | h <;> omega)
/-- In the end the box reads. -/
theorem Grw.done (h : Grw w base M d u0 u1 u2 vI vK cI ks its T) (hi : its.length ≤ 1000000) (hk : ks.length ≤ 1000000) (hks : ∀ j, j < ks.length → (ks.getD j ByteArray.empty).size ≤ 140737488351232) :
    ∃ A c B' e, vI = .slice A its.length c ∧ vK = .slice B' ks.length e ∧ IS w base w.heap.size (VB w base w.heap.size d) A its.length c its ∧ KS w base w.heap.size B' ks.length e ks := by
  obtain ⟨A, c, e1, h1⟩ := ovf h.ov (by omega) rfl (Nat.le_refl _) rfl (fun q hq => by
    obtain ⟨a, b, e1, e2, _, _, e5⟩ := h.el q hq
    exact e5.weak e1 e2)
  obtain ⟨B', n, e, e2, h2⟩ := OS.form h.os (by omega) hks
  obtain rfl : n = ks.length := h2.len.symm
  exact ⟨A, c, B', e, e1, e2, h1, h2⟩
end
end Go.Proofs.YtdkggnciamfcmaaGreatDoor
