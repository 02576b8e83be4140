/-
  Layer 2: values that may be written over: their rows lie in blocks of the call's own.
-/
import Derived.Test.YtfcbieiefdbbpaaVMem3
namespace Go.Proofs.Ytfcbieiefdbbpaa
set_option linter.unusedVariables false
open Go.RowKit
open M (V)

/-- Written over: integers by integers, strings by strings; nothing else. -/
def Sim (x y : Value) : Prop := x = y ∨ (∃ a b : Int, x = .int .i64 a ∧ y = .int .i64 b) ∨ (∃ s t : ByteArray, x = .string s ∧ y = .string t)
theorem Sim.refl (x : Value) : Sim x x := .inl rfl
theorem Sim.trans {x y z : Value} (h : Sim x y) (h' : Sim y z) : Sim x z := by
  rcases h with rfl | ⟨a, b, rfl, rfl⟩ | ⟨a, b, rfl, rfl⟩
  · exact h'
  · rcases h' with rfl | ⟨c, d, h, rfl⟩ | ⟨c, d, h, rfl⟩
    · exact .inr (.inl ⟨_, _, rfl, rfl⟩)
    · exact .inr (.inl ⟨_, _, rfl, rfl⟩)
    · cases h
  · rcases h' with rfl | ⟨c, d, h, rfl⟩ | ⟨c, d, h, rfl⟩
    · exact .inr (.inr ⟨_, _, rfl, rfl⟩)
    · cases h
    · exact .inr (.inr ⟨_, _, rfl, rfl⟩)
theorem Sim.int {a : Int} {y : Value} (h : Sim (.int .i64 a) y) : ∃ b, y = .int .i64 b := by
  rcases h with rfl | ⟨_, b, _, rfl⟩ | ⟨_, _, h, _⟩
  · exact ⟨_, rfl⟩
  · exact ⟨_, rfl⟩
  · cases h
theorem Sim.str {a : ByteArray} {y : Value} (h : Sim (.string a) y) : ∃ b, y = .string b := by
  rcases h with rfl | ⟨_, b, h, _⟩ | ⟨_, b, _, rfl⟩
  · exact ⟨_, rfl⟩
  · cases h
  · exact ⟨_, rfl⟩
theorem Sim.slice {A : Option Addr} {n c : Nat} {y : Value} (h : Sim (.slice A n c) y) : y = .slice A n c := by
  rcases h with rfl | ⟨_, b, h, _⟩ | ⟨_, b, h, _⟩
  · rfl
  · cases h
  · cases h

/-- The rows from lo on are as they were, but for what was written over. -/
def Rws (lo : Nat) (w w' : World) : Prop := ∀ (b : Nat) (cs : Array Value) (T : TypeId), lo ≤ b → w.heap[b]? = some (.cells cs T (0, 0)) → ∃ cs' : Array Value, w'.heap[b]? = some (.cells cs' T (0, 0)) ∧ ∀ (i : Nat) (x : Value), cs[i]? = some x → ∃ y : Value, cs'[i]? = some y ∧ Sim x y
theorem Rws.refl (lo : Nat) (w : World) : Rws lo w w := fun b cs T _ h => ⟨cs, h, fun i x hx => ⟨x, hx, Sim.refl _⟩⟩
theorem Rws.trans {lo : Nat} {w w1 w2 : World} (h : Rws lo w w1) (h' : Rws lo w1 w2) : Rws lo w w2 := fun b cs T hb hc => by
  obtain ⟨c1, e1, g1⟩ := h b cs T hb hc
  obtain ⟨c2, e2, g2⟩ := h' b c1 T hb e1
  refine ⟨c2, e2, fun i x hx => ?_⟩
  obtain ⟨y, hy, s1⟩ := g1 i x hx
  obtain ⟨z, hz, s2⟩ := g2 i y hy
  exact ⟨z, hz, s1.trans s2⟩
theorem Rws.of_same {lo : Nat} {w w' : World} (h : ∀ b, lo ≤ b → b < w.heap.size → w'.heap[b]? = w.heap[b]?) : Rws lo w w' := fun b cs T hb hc => ⟨cs, by rw [h b hb (row_lt hc), hc], fun i x hx => ⟨x, hx, Sim.refl _⟩⟩
theorem Rws.of_below {lo : Nat} {w w' : World} (h : Below w.heap.size w w') : Rws lo w w' := Rws.of_same fun b _ hb => h.block b hb
theorem Rws.weak {lo lo' : Nat} {w w' : World} (h : Rws lo w w') (hl : lo ≤ lo') : Rws lo' w w' := fun b cs T hb hc => h b cs T (by omega) hc
/-- One cell is written over. -/
theorem Rws.set {lo g i : Nat} {w : World} {cs : Array Value} {T : TypeId} {x u : Value} (h : w.heap[g]? = some (.cells cs T (0, 0))) (hx : cs[i]? = some x) (hs : Sim x u) : Rws lo w (w.setCell ⟨g, i, none⟩ u) := fun b c2 T2 hb hc => by
  by_cases hbg : b = g
  · subst hbg
    rw [h] at hc
    injection hc with hc
    injection hc with h1 h2 h3
    subst h1; subst h2
    refine ⟨cs.setIfInBounds i u, heap_setCell_same _ _ i _ _ _ h, fun q z hz => ?_⟩
    by_cases hq : q = i
    · subst hq
      rw [hx] at hz
      injection hz with hz
      subst hz
      have : q < cs.size := (Array.getElem?_eq_some_iff.1 hx).1
      exact ⟨u, by simp [this], hs⟩
    · refine ⟨z, ?_, Sim.refl _⟩
      rw [Array.getElem?_setIfInBounds, if_neg (Ne.symm hq)]
      exact hz
  · exact ⟨c2, by rw [heap_setCell_other _ _ _ _ (by simpa using hbg), hc], fun q z hz => ⟨z, hz, Sim.refl _⟩⟩

/-- A value whose items and keys may be written over. -/
def SB (w : World) (lo : Nat) : Nat → Value → Prop
  | 0, _ => False
  | d + 1, v => ∃ (k i : Int) (s : ByteArray) (A : Option Addr) (n c : Nat) (B : Option Addr) (m e : Nat), v = .agg #[.int .i64 k, .int .i64 i, .string s, .slice A n c, .slice B m e] ∧ n * 80 ≤ 140737488355328 ∧ m * 16 ≤ 140737488355328 ∧ n ≤ c ∧ m ≤ e ∧
      (0 < n → ∃ (b off : Nat) (cs : Array Value) (T : TypeId), A = some ⟨b, off, none⟩ ∧ lo ≤ b ∧ w.heap[b]? = some (.cells cs T (0, 0)) ∧ ∀ j, j < n → ∃ (k i : Int) (s : ByteArray) (x y : Value),
        cs[off + j * 5]? = some (.int .i64 k) ∧ cs[off + j * 5 + 1]? = some (.int .i64 i) ∧ cs[off + j * 5 + 2]? = some (.string s) ∧ cs[off + j * 5 + 3]? = some x ∧ cs[off + j * 5 + 4]? = some y ∧ SB w lo d (.agg #[.int .i64 k, .int .i64 i, .string s, x, y])) ∧
      (0 < m → ∃ (b off : Nat) (cs : Array Value) (T : TypeId), B = some ⟨b, off, none⟩ ∧ lo ≤ b ∧ w.heap[b]? = some (.cells cs T (0, 0)) ∧ ∀ j, j < m → ∃ s : ByteArray, cs[off + j]? = some (.string s))
theorem SB.form {w : World} {lo d : Nat} {v : Value} (h : SB w lo d v) : ∃ (k i : Int) (s : ByteArray) (A : Option Addr) (n c : Nat) (B : Option Addr) (m e : Nat), v = .agg #[.int .i64 k, .int .i64 i, .string s, .slice A n c, .slice B m e] := by
  match d, h with
  | 0, h => exact h.elim
  | d + 1, ⟨k, i, s, A, n, c, B, m, e, hv, _⟩ => exact ⟨k, i, s, A, n, c, B, m, e, hv⟩
theorem SB.recast {w : World} {lo d : Nat} {k i k' i' : Int} {s s' : ByteArray} {x y : Value} (h : SB w lo d (.agg #[.int .i64 k, .int .i64 i, .string s, x, y])) : SB w lo d (.agg #[.int .i64 k', .int .i64 i', .string s', x, y]) := by
  match d, h with
  | 0, h => exact h.elim
  | d + 1, ⟨k, i, s, A, n, c, B, m, e, hv, h1, h2, h3, h4, h5, h6⟩ =>
    simp only [Value.agg.injEq, Array.mk.injEq, List.cons.injEq, and_true] at hv
    obtain ⟨_, _, _, rfl, rfl⟩ := hv
    exact ⟨k', i', s', A, n, c, B, m, e, rfl, h1, h2, h3, h4, h5, h6⟩
theorem SB.kept {w w' : World} {lo : Nat} (r : Rws lo w w') : ∀ {d : Nat} {v : Value}, SB w lo d v → SB w' lo d v
  | 0, _, h => h.elim
  | d + 1, _, ⟨k, i, s, A, n, c, B, m, e, hv, h1, h2, h3, h4, h5, h6⟩ => by
    refine ⟨k, i, s, A, n, c, B, m, e, hv, h1, h2, h3, h4, fun hn => ?_, fun hm => ?_⟩
    · obtain ⟨b, off, cs, T, ha, hb, hc, hj⟩ := h5 hn
      obtain ⟨cs', hc', hs⟩ := r b cs T hb hc
      refine ⟨b, off, cs', T, ha, hb, hc', fun j hlt => ?_⟩
      obtain ⟨k, i, s, x, y, c0, c1, c2, c3, c4, hv⟩ := hj j hlt
      obtain ⟨y0, e0, s0⟩ := hs _ _ c0
      obtain ⟨y1, e1, s1⟩ := hs _ _ c1
      obtain ⟨y2, e2, s2⟩ := hs _ _ c2
      obtain ⟨y3, e3, s3⟩ := hs _ _ c3
      obtain ⟨y4, e4, s4⟩ := hs _ _ c4
      obtain ⟨k', rfl⟩ := s0.int
      obtain ⟨i', rfl⟩ := s1.int
      obtain ⟨s', rfl⟩ := s2.str
      have hk := hv.form
      obtain ⟨_, _, _, A1, n1, c1', B1, m1, e1', hxy⟩ := hk
      simp only [Value.agg.injEq, Array.mk.injEq, List.cons.injEq, and_true] at hxy
      obtain ⟨-, -, -, rfl, rfl⟩ := hxy
      obtain rfl := s3.slice
      obtain rfl := s4.slice
      exact ⟨k', i', s', _, _, e0, e1, e2, e3, e4, (SB.kept r hv).recast⟩
    · obtain ⟨b, off, cs, T, ha, hb, hc, hj⟩ := h6 hm
      obtain ⟨cs', hc', hs⟩ := r b cs T hb hc
      refine ⟨b, off, cs', T, ha, hb, hc', fun j hlt => ?_⟩
      obtain ⟨s, c0⟩ := hj j hlt
      obtain ⟨y0, e0, s0⟩ := hs _ _ c0
      obtain ⟨s', rfl⟩ := s0.str
      exact ⟨s', e0⟩
theorem SB.weak {w : World} {lo lo' : Nat} (hl : lo' ≤ lo) : ∀ {d : Nat} {v : Value}, SB w lo d v → SB w lo' d v
  | 0, _, h => h.elim
  | d + 1, _, ⟨k, i, s, A, n, c, B, m, e, hv, h1, h2, h3, h4, h5, h6⟩ => by
    refine ⟨k, i, s, A, n, c, B, m, e, hv, h1, h2, h3, h4, fun hn => ?_, fun hm => ?_⟩
    · obtain ⟨b, off, cs, T, ha, hb, hc, hj⟩ := h5 hn
      refine ⟨b, off, cs, T, ha, by omega, hc, fun j hlt => ?_⟩
      obtain ⟨k, i, s, x, y, c0, c1, c2, c3, c4, hv⟩ := hj j hlt
      exact ⟨k, i, s, x, y, c0, c1, c2, c3, c4, SB.weak hl hv⟩
    · obtain ⟨b, off, cs, T, ha, hb, hc, hj⟩ := h6 hm
      exact ⟨b, off, cs, T, ha, by omega, hc, hj⟩
/-- Element q of a row may be written over. -/
def ElemS (w : World) (lo d : Nat) (cs : Array Value) (q : Nat) : Prop := ∃ (k i : Int) (s : ByteArray) (x y : Value),
  cs[q * 5]? = some (.int .i64 k) ∧ cs[q * 5 + 1]? = some (.int .i64 i) ∧ cs[q * 5 + 2]? = some (.string s) ∧ cs[q * 5 + 3]? = some x ∧ cs[q * 5 + 4]? = some y ∧ SB w lo d (.agg #[.int .i64 k, .int .i64 i, .string s, x, y])
theorem ElemS.kept {w w' : World} {lo d q : Nat} {cs : Array Value} (h : ElemS w lo d cs q) (r : Rws lo w w') : ElemS w' lo d cs q := by
  obtain ⟨k0, i, s, x, y, c0, c1, c2, c3, c4, hv⟩ := h
  exact ⟨k0, i, s, x, y, c0, c1, c2, c3, c4, hv.kept r⟩
theorem ElemS.weak {w : World} {lo lo' d q : Nat} {cs : Array Value} (h : ElemS w lo d cs q) (h1 : lo' ≤ lo) : ElemS w lo' d cs q := by
  obtain ⟨k0, i, s, x, y, c0, c1, c2, c3, c4, hv⟩ := h
  exact ⟨k0, i, s, x, y, c0, c1, c2, c3, c4, hv.weak h1⟩
theorem ElemS.same {w : World} {lo d q : Nat} {cs cs' : Array Value} (h : ElemS w lo d cs q) (he : ∀ i, q * 5 ≤ i → i < q * 5 + 5 → cs'[i]? = cs[i]?) : ElemS w lo d cs' q := by
  obtain ⟨k0, i, s, x, y, c0, c1, c2, c3, c4, hv⟩ := h
  exact ⟨k0, i, s, x, y, (he _ (by omega) (by omega)).trans c0, (he _ (by omega) (by omega)).trans c1, (he _ (by omega) (by omega)).trans c2, (he _ (by omega) (by omega)).trans c3, (he _ (by omega) (by omega)).trans c4, hv⟩
/-- What may be written over of a slice of values. -/
def SI (w : World) (lo d : Nat) (A : Option Addr) (n : Nat) : Prop := 0 < n → ∃ (b off : Nat) (cs : Array Value) (T : TypeId), A = some ⟨b, off, none⟩ ∧ lo ≤ b ∧ w.heap[b]? = some (.cells cs T (0, 0)) ∧ ∀ j, j < n → ∃ (k i : Int) (s : ByteArray) (x y : Value),
        cs[off + j * 5]? = some (.int .i64 k) ∧ cs[off + j * 5 + 1]? = some (.int .i64 i) ∧ cs[off + j * 5 + 2]? = some (.string s) ∧ cs[off + j * 5 + 3]? = some x ∧ cs[off + j * 5 + 4]? = some y ∧ SB w lo d (.agg #[.int .i64 k, .int .i64 i, .string s, x, y])
def SK (w : World) (lo : Nat) (B : Option Addr) (m : Nat) : Prop := 0 < m → ∃ (b off : Nat) (cs : Array Value) (T : TypeId), B = some ⟨b, off, none⟩ ∧ lo ≤ b ∧ w.heap[b]? = some (.cells cs T (0, 0)) ∧ ∀ j, j < m → ∃ s : ByteArray, cs[off + j]? = some (.string s)
theorem SI.row {w : World} {lo d g n : Nat} {cs : Array Value} {T : TypeId} (h : w.heap[g]? = some (.cells cs T (0, 0))) (hlo : lo ≤ g) (he : ∀ q, q < n → ElemS w lo d cs q) : SI w lo d (some ⟨g, 0, none⟩) n := fun _ => ⟨g, 0, cs, T, rfl, hlo, h, fun j hj => by
  obtain ⟨k0, i, s, x, y, c0, c1, c2, c3, c4, hv⟩ := he j hj
  exact ⟨k0, i, s, x, y, by rw [Nat.zero_add]; exact c0, by rw [Nat.zero_add]; exact c1, by rw [Nat.zero_add]; exact c2, by rw [Nat.zero_add]; exact c3, by rw [Nat.zero_add]; exact c4, hv⟩⟩
theorem SI.kept {w w' : World} {lo d n : Nat} {A : Option Addr} (h : SI w lo d A n) (r : Rws lo w w') : SI w' lo d A n := fun hn => by
  obtain ⟨b, off, cs, T, ha, hb, hc, hj⟩ := h hn
  obtain ⟨cs', hc', hs⟩ := r b cs T hb hc
  refine ⟨b, off, cs', T, ha, hb, hc', fun j hlt => ?_⟩
  obtain ⟨k, i, s, x, y, c0, c1, c2, c3, c4, hv⟩ := hj j hlt
  obtain ⟨y0, e0, s0⟩ := hs _ _ c0
  obtain ⟨y1, e1, s1⟩ := hs _ _ c1
  obtain ⟨y2, e2, s2⟩ := hs _ _ c2
  obtain ⟨y3, e3, s3⟩ := hs _ _ c3
  obtain ⟨y4, e4, s4⟩ := hs _ _ c4
  obtain ⟨k', rfl⟩ := s0.int
  obtain ⟨i', rfl⟩ := s1.int
  obtain ⟨s', rfl⟩ := s2.str
  obtain ⟨_, _, _, A1, n1, c1', B1, m1, e1', hxy⟩ := hv.form
  simp only [Value.agg.injEq, Array.mk.injEq, List.cons.injEq, and_true] at hxy
  obtain ⟨-, -, -, rfl, rfl⟩ := hxy
  obtain rfl := s3.slice
  obtain rfl := s4.slice
  exact ⟨k', i', s', _, _, e0, e1, e2, e3, e4, (SB.kept r hv).recast⟩
theorem SK.kept {w w' : World} {lo m : Nat} {B : Option Addr} (h : SK w lo B m) (r : Rws lo w w') : SK w' lo B m := fun hm => by
  obtain ⟨b, off, cs, T, ha, hb, hc, hj⟩ := h hm
  obtain ⟨cs', hc', hs⟩ := r b cs T hb hc
  refine ⟨b, off, cs', T, ha, hb, hc', fun j hlt => ?_⟩
  obtain ⟨s, c0⟩ := hj j hlt
  obtain ⟨y0, e0, s0⟩ := hs _ _ c0
  obtain ⟨s', rfl⟩ := s0.str
  exact ⟨s', e0⟩
theorem SI.weak {w : World} {lo lo' d n : Nat} {A : Option Addr} (h : SI w lo d A n) (hl : lo' ≤ lo) : SI w lo' d A n := fun hn => by
  obtain ⟨b, off, cs, T, ha, hb, hc, hj⟩ := h hn
  refine ⟨b, off, cs, T, ha, by omega, hc, fun j hlt => ?_⟩
  obtain ⟨k, i, s, x, y, c0, c1, c2, c3, c4, hv⟩ := hj j hlt
  exact ⟨k, i, s, x, y, c0, c1, c2, c3, c4, SB.weak hl hv⟩
theorem SK.weak {w : World} {lo lo' m : Nat} {B : Option Addr} (h : SK w lo B m) (hl : lo' ≤ lo) : SK w lo' B m := fun hm => by
  obtain ⟨b, off, cs, T, ha, hb, hc, hj⟩ := h hm
  exact ⟨b, off, cs, T, ha, by omega, hc, hj⟩
theorem SB.of {w : World} {lo d : Nat} {k i : Int} {s : ByteArray} {A B : Option Addr} {n c m e : Nat} (h1 : n * 80 ≤ 140737488355328) (h2 : m * 16 ≤ 140737488355328) (h3 : n ≤ c) (h4 : m ≤ e) (h5 : SI w lo d A n) (h6 : SK w lo B m) :
    SB w lo (d + 1) (.agg #[.int .i64 k, .int .i64 i, .string s, .slice A n c, .slice B m e]) := ⟨k, i, s, A, n, c, B, m, e, rfl, h1, h2, h3, h4, h5, h6⟩
/-- Strings of the call's own may be written over. -/
theorem OS.own {w : World} {base : Nat} {A : Option Addr} {n c : Nat} {l : List ByteArray} (h : OS w base (.slice A n c) l) (hl : l.length = n) : SK w base A n := by
  subst hl
  intro hn
  have hh := h
  obtain ⟨h1, h2⟩ := h
  rcases h2 with ⟨e, h0⟩ | ⟨g, cap, cur, e, hg, hheap, h3, h4, h5, h6⟩
  · omega
  · injection e with e1 e2 e3
    subst e1; subst e3
    refine ⟨g, 0, cur, _, rfl, hg, hheap, fun j hj => ?_⟩
    refine ⟨l.getD j ByteArray.empty, ?_⟩
    have := World.ownsRow.cellAt hh j (by omega)
    rw [cell_of_row w g j cur _ (0, 0) hheap] at this
    rw [Nat.zero_add, this]
    simp [List.getD, hj]
end Go.Proofs.Ytfcbieiefdbbpaa
