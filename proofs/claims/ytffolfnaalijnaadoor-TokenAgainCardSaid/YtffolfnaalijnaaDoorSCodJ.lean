/-
  Layer 7: Scan.
-/
import Derived.Test.YtffolfnaalijnaaDoorSCodH
import Derived.Test.YtffolfnaalijnaaDoorSCodI
import Derived.Deep.RegionLaw
import Derived.Deep.AppendLies
namespace Go.Proofs.YtffolfnaalijnaaDoor
set_option linter.unusedVariables false
open Go.RowKit

/-- The four cells of a token. -/
def tokCells (t : Z.Tok) : List Value := [.int .i64 t.k, .int .i64 t.pos, .string (bS t.t), .int .i64 t.v]
def rowCells (l : List Z.Tok) : List Value := l.flatMap tokCells
theorem rowCells_len (l : List Z.Tok) : (rowCells l).length = 4 * l.length := by
  unfold rowCells; induction l with
  | nil => rfl
  | cons a r ih => simp [List.flatMap_cons, tokCells, ih]; omega
theorem rowCells_snoc (l : List Z.Tok) (t : Z.Tok) : rowCells (l ++ [t]) = rowCells l ++ tokCells t := by
  unfold rowCells; simp [List.flatMap_append]
theorem tok_info : (Tryd.prog.info? 30).map (fun i => (i.zero, i.size, i.bytes)) = some (some (.agg #[.int .i64 0, .int .i64 0, .string ByteArray.empty, .int .i64 0]), 4, 40) := by kernel_rfl

section
variable {w : World} {ops : Array Oper} {rest : List Oper} {o : Oper} {a : Act} {Q : Exit → Act → World → Prop}
set_option maxRecDepth 100000 in
/-- 'append(l, t)'. -/
theorem wpList_push_tok (hgd : o.guard = none) (s x : Operand)
    (ho : o.op = .call { callee := .builtin .append, args := #[s, x], argTypes := #[23, 23] })
    (base n g : Nat) (v : Value) (xs : List Value) (k p z : Int) (t : ByteArray) (T : TypeId) (fr : Nat × Nat) (hs : a.eval s = v) (hown : w.ownsRow base 30 4 v n xs) (hx : a.eval x = .slice (some ⟨g, 0, none⟩) 1 1)
    (hg : w.heap[g]? = some (.cells #[.int .i64 k, .int .i64 p, .string t, .int .i64 z] T fr)) (hn : n ≤ 1000000) (hbase : base ≤ w.heap.size)
    (h : ∀ g1 cap w', w'.ownsRow base 30 4 (.slice (some ⟨g1, 0, none⟩) (n + 1) cap) (n + 1) (xs ++ [.int .i64 k, .int .i64 p, .string t, .int .i64 z]) → w.grownBy w' v.ownBlock → (v.ownBlock = some g1 ∨ w.heap.size ≤ g1) → g1 < w'.heap.size →
      wpList Tryd.prog ops Q rest (a.put o.dst (.slice (some ⟨g1, 0, none⟩) (n + 1) cap)) w') : wpList Tryd.prog ops Q (o :: rest) a w := by
  obtain ⟨i2, hi0, hz0, hz1, hz2⟩ := info_parts tok_info
  refine wpList_append_lies w hgd s x _ ho base 30 i2 _ 4 40 Tryd.underlying23 hi0 hz0 hz1 hz2 rfl (by decide) v n xs hs hown ⟨g, 0, none⟩ 1 1 [.int .i64 k, .int .i64 p, .string t, .int .i64 z] hx rfl (World.news_of_block hg) ?_ (by decide) (by unfold maxLen; omega) (by omega) hbase w.heap.size rfl ?_
  · intro u hu
    simp only [List.mem_cons, List.not_mem_nil, or_false] at hu
    rcases hu with rfl | rfl | rfl | rfl <;> rfl
  · intro g1 cap w' h1 h2 h3 h4
    exact h g1 cap w' h1 h2 (h3.imp id (fun e => by omega)) h4
end

/-- A list of tokens of the call's own. -/
def OT (w : World) (base : Nat) (v : Value) (l : List Z.Tok) : Prop := w.ownsRow base 30 4 v l.length (rowCells l)
theorem OT.empty (w : World) (base : Nat) : OT w base (.slice none 0 0) [] := World.ownsRow_nil _ _ _ _
theorem OT.kept {w w' : World} {base : Nat} {v : Value} {l : List Z.Tok} {row : Option Nat} (h : OT w base v l) (hg : w.grownBy w' row) (hne : v.ownBlock = none ∨ v.ownBlock ≠ row) : OT w' base v l := World.ownsRow.kept h hg hne
theorem OT.alloc {w : World} {base : Nat} {v : Value} {l : List Z.Tok} (h : OT w base v l) (o : Obj) : OT (w.alloc o) base v l := World.ownsRow.alloc h o
/-- A list of tokens that reads. -/
structure TR (w : World) (lo hi : Nat) (A : Option Addr) (n c : Nat) (l : List Z.Tok) : Prop where
  len : l.length = n
  cap : n ≤ c
  most : c ≤ maxLen
  nil : A = none → n = 0
  at_ : 0 < n → ∃ b off, A = some ⟨b, off, none⟩ ∧ lo ≤ b ∧ b < hi ∧ ∀ j, j < n → w.cell? ⟨b, off + j * 4, none⟩ = some (.int .i64 (l.getD j default).k) ∧ w.cell? ⟨b, off + j * 4 + 1, none⟩ = some (.int .i64 (l.getD j default).pos) ∧
    w.cell? ⟨b, off + j * 4 + 2, none⟩ = some (.string (bS (l.getD j default).t)) ∧ w.cell? ⟨b, off + j * 4 + 3, none⟩ = some (.int .i64 (l.getD j default).v)
theorem TR.nil_ (w : World) (lo hi : Nat) : TR w lo hi none 0 0 [] := ⟨rfl, Nat.le_refl _, Nat.zero_le _, fun _ => rfl, fun h => absurd h (by omega)⟩
theorem TR.below {w w' : World} {lo hi n c B : Nat} {A : Option Addr} {l : List Z.Tok} (h : TR w lo hi A n c l) (hb : Below B w w') (hB : hi ≤ B) : TR w' lo hi A n c l :=
  ⟨h.len, h.cap, h.most, h.nil, fun hn => by
    obtain ⟨b, off, e, h1, h2, h3⟩ := h.at_ hn
    have hc : ∀ q, w'.cell? ⟨b, q, none⟩ = w.cell? ⟨b, q, none⟩ := fun q => by unfold World.cell?; rw [hb.block b (by omega)]
    exact ⟨b, off, e, h1, h2, fun j hj => by rw [hc, hc, hc, hc]; exact h3 j hj⟩⟩
theorem TR.weak {w : World} {lo hi lo' hi' n c : Nat} {A : Option Addr} {l : List Z.Tok} (h : TR w lo hi A n c l) (h1 : lo' ≤ lo) (h2 : hi ≤ hi') : TR w lo' hi' A n c l :=
  ⟨h.len, h.cap, h.most, h.nil, fun hn => by obtain ⟨b, off, e, g1, g2, g3⟩ := h.at_ hn; exact ⟨b, off, e, by omega, by omega, g3⟩⟩
theorem rowCells_at (l : List Z.Tok) : ∀ j, j < l.length → (rowCells l)[j * 4]? = some (.int .i64 (l.getD j default).k) ∧ (rowCells l)[j * 4 + 1]? = some (.int .i64 (l.getD j default).pos) ∧ (rowCells l)[j * 4 + 2]? = some (.string (bS (l.getD j default).t)) ∧ (rowCells l)[j * 4 + 3]? = some (.int .i64 (l.getD j default).v) := by
  induction l with
  | nil => intro j hj; simp at hj
  | cons a r ih =>
    intro j hj
    have e : rowCells (a :: r) = tokCells a ++ rowCells r := by unfold rowCells; simp
    cases j with
    | zero => rw [e]; exact ⟨rfl, rfl, rfl, rfl⟩
    | succ j =>
      have := ih j (by simp at hj; omega)
      have g : ∀ q, (rowCells (a :: r))[(j + 1) * 4 + q]? = (rowCells r)[j * 4 + q]? := fun q => by
        rw [e, List.getElem?_append_right (by simp [tokCells]; omega)]
        congr 1
        simp [tokCells]; omega
      have g0 := g 0
      simp only [Nat.add_zero] at g0
      rw [g0, g 1, g 2, g 3]
      simpa [List.getD] using this
theorem TR.row {w : World} {lo hi g c : Nat} {cs : Array Value} {T : TypeId} {l : List Z.Tok} (h : w.heap[g]? = some (.cells cs T (0, 0))) (hc : l.length ≤ c) (hm : c ≤ maxLen) (hlo : lo ≤ g) (hhi : g < hi) (he : ∀ q, q < 4 * l.length → cs[q]? = (rowCells l)[q]?) :
    TR w lo hi (some ⟨g, 0, none⟩) l.length c l := by
  refine ⟨rfl, hc, hm, (fun e => by cases e), fun hn => ⟨g, 0, rfl, hlo, hhi, fun j hj => ?_⟩⟩
  obtain ⟨h0, h1, h2, h3⟩ := rowCells_at l j hj
  have hk := fun q => cell_of_row w g q cs T (0, 0) h
  simp only [Nat.zero_add]
  rw [hk, hk, hk, hk, he _ (by omega), he _ (by omega), he _ (by omega), he _ (by omega)]
  exact ⟨h0, h1, h2, h3⟩
theorem OT.form {w : World} {base : Nat} {v : Value} {l : List Z.Tok} (h : OT w base v l) : ∃ A c, v = .slice A l.length c ∧ TR w base w.heap.size A l.length c l := by
  obtain ⟨_, h2⟩ := h
  rcases h2 with ⟨rfl, h0⟩ | ⟨g, cap, cur, rfl, hg, hheap, h3, h4, h5, h6⟩
  · obtain rfl := List.eq_nil_of_length_eq_zero h0
    exact ⟨none, 0, rfl, TR.nil_ _ _ _⟩
  · refine ⟨_, _, rfl, TR.row hheap h3 h4 hg (row_lt7 hheap) fun q hq => ?_⟩
    rw [← h6, List.getElem?_take_of_lt (by omega)]
    simp
end Go.Proofs.YtffolfnaalijnaaDoor
