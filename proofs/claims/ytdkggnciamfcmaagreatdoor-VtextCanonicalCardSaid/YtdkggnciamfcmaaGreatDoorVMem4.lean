/-
  Layer 2: rows of values that grow while new values are made; three boxes.
-/
import Derived.Test.YtdkggnciamfcmaaGreatDoorVMem3
import Derived.Deep.AppendLies
namespace Go.Proofs.YtdkggnciamfcmaaGreatDoor
set_option linter.unusedVariables false
open Go.RowKit
open M (V)

theorem own_below {w w' : World} {base e size n B : Nat} {v : Value} {xs : List Value} (h : w.ownsRow base e size v n xs) (hb : Below B w w') (hB : w.heap.size ≤ B) : w'.ownsRow base e size v n xs := by
  obtain ⟨h1, h2⟩ := h
  refine ⟨h1, ?_⟩
  rcases h2 with h2 | ⟨g, cap, cur, hv, hg, hh, r⟩
  · exact .inl h2
  · exact .inr ⟨g, cap, cur, hv, hg, by rw [hb.block g (by have := row_lt hh; omega)]; exact hh, r⟩
/-- A row of n values of the call's own, with its flat cells. -/
def OV (w : World) (base : Nat) (v : Value) (cs : List Value) (n : Nat) : Prop := w.ownsRow base 25 5 v n cs
theorem own_other {w w' : World} {base e e' s s' n n' : Nat} {v v' : Value} {xs xs' : List Value} (h : w.ownsRow base e s v n xs) (h' : w.ownsRow base e' s' v' n' xs') (hne : e ≠ e') : v.ownBlock = none ∨ v.ownBlock ≠ v'.ownBlock := by
  obtain ⟨_, h2⟩ := h
  obtain ⟨_, h2'⟩ := h'
  rcases h2 with ⟨rfl, _⟩ | ⟨g, cap, cur, rfl, _, hh, _⟩
  · exact .inl rfl
  · right
    rcases h2' with ⟨rfl, _⟩ | ⟨g', cap', cur', rfl, _, hh', _⟩
    · intro e; cases e
    · intro e
      injection e with e
      have e : g = g' := e
      subst e
      rw [hh] at hh'
      injection hh' with hh'
      injection hh' with _ h3
      exact hne h3
/-- Element q of a row that still grows: what it refers to lies beside the row. -/
def ElemA (w : World) (lo d : Nat) (row : Option Nat) (cs : Array Value) (q : Nat) (t : V) : Prop := ∃ a b, lo ≤ a ∧ b ≤ w.heap.size ∧ (∀ k, row = some k → k < a ∨ b ≤ k) ∧ Elem w a b d cs q t
theorem ElemA.below {w w' : World} {lo d q B : Nat} {row : Option Nat} {cs : Array Value} {t : V} (h : ElemA w lo d row cs q t) (hb : Below B w w') (hB : w.heap.size ≤ B) : ElemA w' lo d row cs q t := by
  obtain ⟨a, b, h1, h2, h3, h4⟩ := h
  exact ⟨a, b, h1, Nat.le_trans h2 hb.size, h3, h4.kept (Kept.of_below hb (by omega))⟩
theorem ElemA.grown {w w' : World} {lo d q g : Nat} {row : Option Nat} {cs : Array Value} {t : V} (h : ElemA w lo d row cs q t) (hg : w.grownBy w' row) (hrow : row = some g ∨ w.heap.size ≤ g) : ElemA w' lo d (some g) cs q t := by
  obtain ⟨a, b, h1, h2, h3, h4⟩ := h
  refine ⟨a, b, h1, Nat.le_trans h2 hg.size, fun k hk => ?_, h4.kept fun k k1 k2 => hg.block k (by omega) (fun e => ?_)⟩
  · injection hk with hk
    subst hk
    rcases hrow with h | h
    · exact h3 _ h
    · exact .inr (by omega)
  · rcases h3 k e.symm with h | h <;> omega
theorem ElemA.other {w w' : World} {lo d q m : Nat} {row : Option Nat} {cs : Array Value} {t : V} (h : ElemA w lo d row cs q t) (hk : ∀ k, lo ≤ k → k < w.heap.size → w'.heap[k]? = w.heap[k]?) (hs : w.heap.size ≤ w'.heap.size) : ElemA w' lo d row cs q t := by
  obtain ⟨a, b, h1, h2, h3, h4⟩ := h
  exact ⟨a, b, h1, by omega, h3, h4.kept fun k k1 k2 => hk k (by omega) (by omega)⟩
theorem ElemA.whole {w : World} {lo d q : Nat} {row : Option Nat} {cs : Array Value} {t : V} (h : ElemA w lo d row cs q t) : Elem w lo w.heap.size d cs q t := by
  obtain ⟨a, b, h1, h2, h3, h4⟩ := h
  exact h4.weak h1 h2
theorem ElemA.same {w : World} {lo d q : Nat} {row : Option Nat} {cs cs' : Array Value} {t : V} (h : ElemA w lo d row cs q t) (he : ∀ i, q * 5 ≤ i → i < q * 5 + 5 → cs'[i]? = cs[i]?) : ElemA w lo d row cs' q t := by
  obtain ⟨a, b, h1, h2, h3, h4⟩ := h
  exact ⟨a, b, h1, h2, h3, h4.same he⟩
/-- One more element. -/
theorem ElemA.snoc {W : World} {lo d j : Nat} {row : Option Nat} {cI : List Value} {f : Nat → V} {k i : Int} {s : ByteArray} {x y : Value} (hl : cI.length = j * 5) (he : ∀ q, q < j → ElemA W lo d row cI.toArray q (f q))
    (hv : ∃ a b, lo ≤ a ∧ b ≤ W.heap.size ∧ (∀ k, row = some k → k < a ∨ b ≤ k) ∧ VB W a b d (.agg #[.int .i64 k, .int .i64 i, .string s, x, y]) (f j)) :
    ∀ q, q < j + 1 → ElemA W lo d row (cI ++ [.int .i64 k, .int .i64 i, .string s, x, y]).toArray q (f q) := by
  intro q hq
  rcases Nat.lt_or_ge q j with h | h
  · refine (he q h).same fun i h1 h2 => ?_
    simp only [List.getElem?_toArray]
    exact List.getElem?_append_left (by omega)
  · obtain rfl : q = j := by omega
    have g : ∀ r, (cI ++ [Value.int .i64 k, .int .i64 i, .string s, x, y]).toArray[q * 5 + r]? = [Value.int .i64 k, .int .i64 i, .string s, x, y][r]? := fun r => by
      simp only [List.getElem?_toArray]
      rw [List.getElem?_append_right (by omega), hl]
      congr 1; omega
    obtain ⟨a, b, h1, h2, h3, h4⟩ := hv
    exact ⟨a, b, h1, h2, h3, k, i, s, x, y, g 0, g 1, g 2, g 3, g 4, h4⟩
theorem ovf {W : World} {base lo hi d n : Nat} {v : Value} {cI : List Value} {l : List V} (h : OV W base v cI n) (hb : n * 80 ≤ 140737488355328) (hl : l.length = n) (hlo : lo ≤ base) (hhi : hi = W.heap.size)
    (he : ∀ q, q < n → Elem W lo hi d cI.toArray q (l.getD q default)) : ∃ A c, v = .slice A n c ∧ IS W lo hi (VB W lo hi d) A n c l := by
  obtain ⟨_, h2⟩ := h
  rcases h2 with ⟨rfl, h0⟩ | ⟨g, cap, cur, rfl, hg, hheap, h3, h4, h5, h6⟩
  · subst h0
    obtain rfl := List.eq_nil_of_length_eq_zero hl
    exact ⟨none, 0, rfl, IS.nil_ _ _ _ _⟩
  · refine ⟨_, _, rfl, IS.row hheap hl h3 hb (by omega) (by rw [hhi]; exact row_lt hheap) fun q hq => (he q hq).same fun i h1 h2 => ?_⟩
    rw [← h6]
    simp only [List.getElem?_toArray]
    rw [List.getElem?_take_of_lt (by omega)]
    simp
theorem ovf_all {W : World} {base n d lo : Nat} {v : Value} {cI : List Value} {l : List V} (h : OV W base v cI n) (hb : n * 80 ≤ 140737488355328) (hl : l.length = n) (hlo : lo ≤ base)
    (he : ∀ q, q < n → ElemA W lo d v.ownBlock cI.toArray q (l.getD q default)) : ∃ A c, v = .slice A n c ∧ IS W lo W.heap.size (VB W lo W.heap.size d) A n c l :=
  ovf h hb hl hlo rfl fun q hq => (he q hq).whole

/-! ### Three boxes -/
section
variable {W w1 : World} {o o' o'' : Obj} {B : Nat}
theorem three_heap (hb : Below B (((W.alloc o).alloc o').alloc o'') w1) (hB : W.heap.size + 3 ≤ B) : w1.heap[W.heap.size]? = some o ∧ w1.heap[W.heap.size + 1]? = some o' ∧ w1.heap[W.heap.size + 2]? = some o'' := by
  have h1 := Below.heap_alloc (W.alloc o) o' W.heap.size (by simp)
  have h2 := Below.heap_alloc ((W.alloc o).alloc o') o'' W.heap.size (by simp; omega)
  have h3 := Below.heap_alloc ((W.alloc o).alloc o') o'' (W.heap.size + 1) (by simp)
  have n1 := heap_alloc_new W o
  have n2 := heap_alloc_new (W.alloc o) o'
  have n3 := heap_alloc_new ((W.alloc o).alloc o') o''
  simp only [World.size_alloc] at n2 n3
  refine ⟨?_, ?_, ?_⟩
  · rw [hb.block _ (by omega), h2, h1, n1]
  · rw [hb.block _ (by omega), h3, n2]
  · rw [hb.block _ (by omega)]; exact n3
theorem three_below (hb : Below (W.heap.size + 3) (((W.alloc o).alloc o').alloc o'') w1) : Below W.heap.size W w1 :=
  ((((Below.refl _ _).alloc (Nat.le_refl _) _).alloc (by simp) _).alloc (by simp; omega) _).trans (hb.mono (by omega))
theorem three_size (hb : Below (W.heap.size + 3) (((W.alloc o).alloc o').alloc o'') w1) : W.heap.size + 3 ≤ w1.heap.size := by have := hb.size; simpa using this
end
end Go.Proofs.YtdkggnciamfcmaaGreatDoor
