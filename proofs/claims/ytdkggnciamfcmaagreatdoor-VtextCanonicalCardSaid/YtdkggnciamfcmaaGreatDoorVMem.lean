/-
  Layer 2: values in memory: a value that reads as a tree, in blocks from lo on and below hi.
-/
import Derived.Test.YtdkggnciamfcmaaGreatDoorMem
import Derived.Test.YtdkggnciamfcmaaGreatDoorVal
namespace Go.Proofs.YtdkggnciamfcmaaGreatDoor
set_option linter.unusedVariables false
open Go.RowKit
open M (V)

/-- A slice of values that reads as l; each element reads by R. -/
structure IS (w : World) (lo hi : Nat) (R : Value → V → Prop) (A : Option Addr) (n c : Nat) (l : List V) : Prop where
  len : l.length = n
  cap : n ≤ c
  most : n * 80 ≤ 140737488355328
  nil : A = none → c = 0
  at_ : 0 < n → ∃ b off, A = some ⟨b, off, none⟩ ∧ lo ≤ b ∧ b < hi ∧ ∀ j, j < n → ∃ (k i : Int) (s : ByteArray) (x y : Value),
    w.cell? ⟨b, off + j * 5, none⟩ = some (.int .i64 k) ∧ w.cell? ⟨b, off + j * 5 + 1, none⟩ = some (.int .i64 i) ∧ w.cell? ⟨b, off + j * 5 + 2, none⟩ = some (.string s) ∧
    w.cell? ⟨b, off + j * 5 + 3, none⟩ = some x ∧ w.cell? ⟨b, off + j * 5 + 4, none⟩ = some y ∧ R (.agg #[.int .i64 k, .int .i64 i, .string s, x, y]) (l.getD j default)

/-- A slice of strings that reads as l. -/
structure KS (w : World) (lo hi : Nat) (A : Option Addr) (n c : Nat) (l : List ByteArray) : Prop where
  len : l.length = n
  cap : n ≤ c
  most : n * 16 ≤ 140737488355328
  nil : A = none → c = 0
  size : ∀ j, j < n → (l.getD j ByteArray.empty).size ≤ 140737488351232
  at_ : 0 < n → ∃ b off, A = some ⟨b, off, none⟩ ∧ lo ≤ b ∧ b < hi ∧ ∀ j, j < n → w.cell? ⟨b, off + j, none⟩ = some (.string (l.getD j ByteArray.empty))

/-- The value v reads as the tree t (d: more than its depth). -/
def VB (w : World) (lo hi : Nat) : Nat → Value → V → Prop
  | 0, _, _ => False
  | d + 1, v, t => ∃ A n c B m e, v = .agg #[.int .i64 t.k, .int .i64 t.n, .string t.s, .slice A n c, .slice B m e] ∧
      -9223372036854775808 ≤ t.k ∧ t.k ≤ 9223372036854775807 ∧ -9223372036854775808 ≤ t.n ∧ t.n ≤ 9223372036854775807 ∧ t.s.size ≤ 140737488351232 ∧
      IS w lo hi (VB w lo hi d) A n c t.its ∧ KS w lo hi B m e t.ks
/-- The value v reads as the tree t. -/
def VX (w : World) (lo hi : Nat) (v : Value) (t : V) : Prop := ∃ d, VB w lo hi d v t

section
variable {w w' : World} {lo hi lo' hi' n c d : Nat} {A : Option Addr} {R R' : Value → V → Prop} {l : List V} {ks : List ByteArray} {v : Value} {t : V}
theorem KS.kept (h : KS w lo hi A n c ks) (k : Kept lo hi w w') : KS w' lo hi A n c ks :=
  ⟨h.len, h.cap, h.most, h.nil, h.size, fun hn => by
    obtain ⟨b, off, e, h1, h2, h3⟩ := h.at_ hn
    exact ⟨b, off, e, h1, h2, fun j hj => (World.cell?_of_block (w := w) (k b h1 h2)).trans (h3 j hj)⟩⟩
theorem KS.weak (h : KS w lo hi A n c ks) (h1 : lo' ≤ lo) (h2 : hi ≤ hi') : KS w lo' hi' A n c ks :=
  ⟨h.len, h.cap, h.most, h.nil, h.size, fun hn => by
    obtain ⟨b, off, e, h3, h4, h5⟩ := h.at_ hn
    exact ⟨b, off, e, by omega, by omega, h5⟩⟩
theorem KS.nil_ (w : World) (lo hi : Nat) : KS w lo hi none 0 0 [] := ⟨rfl, Nat.le_refl _, Nat.zero_le _, fun _ => rfl, fun j h => absurd h (by omega), fun h => absurd h (by omega)⟩
theorem IS.kept (h : IS w lo hi R A n c l) (k : Kept lo hi w w') (hR : ∀ v t, R v t → R' v t) : IS w' lo hi R' A n c l :=
  ⟨h.len, h.cap, h.most, h.nil, fun hn => by
    obtain ⟨b, off, e, h1, h2, h3⟩ := h.at_ hn
    refine ⟨b, off, e, h1, h2, fun j hj => ?_⟩
    obtain ⟨k0, i, s, x, y, c0, c1, c2, c3, c4, r⟩ := h3 j hj
    have hk := fun p => World.cell?_of_block (w := w) (a := ⟨b, p, none⟩) (k b h1 h2)
    exact ⟨k0, i, s, x, y, (hk _).trans c0, (hk _).trans c1, (hk _).trans c2, (hk _).trans c3, (hk _).trans c4, hR _ _ r⟩⟩
theorem IS.weak (h : IS w lo hi R A n c l) (h1 : lo' ≤ lo) (h2 : hi ≤ hi') (hR : ∀ v t, R v t → R' v t) : IS w lo' hi' R' A n c l :=
  ⟨h.len, h.cap, h.most, h.nil, fun hn => by
    obtain ⟨b, off, e, h3, h4, h5⟩ := h.at_ hn
    refine ⟨b, off, e, by omega, by omega, fun j hj => ?_⟩
    obtain ⟨k0, i, s, x, y, c0, c1, c2, c3, c4, r⟩ := h5 j hj
    exact ⟨k0, i, s, x, y, c0, c1, c2, c3, c4, hR _ _ r⟩⟩
theorem IS.nil_ (w : World) (lo hi : Nat) (R : Value → V → Prop) : IS w lo hi R none 0 0 [] := ⟨rfl, Nat.le_refl _, Nat.zero_le _, fun _ => rfl, fun h => absurd h (by omega)⟩
theorem VB.kept (k : Kept lo hi w w') : ∀ {d : Nat} {v : Value} {t : V}, VB w lo hi d v t → VB w' lo hi d v t
  | 0, _, _, h => h.elim
  | d + 1, _, _, ⟨A, n, c, B, m, e, hv, h1, h2, h3, h4, h5, h6, h7⟩ => ⟨A, n, c, B, m, e, hv, h1, h2, h3, h4, h5, h6.kept k fun _ _ => VB.kept k, h7.kept k⟩
theorem VB.weak (g1 : lo' ≤ lo) (g2 : hi ≤ hi') : ∀ {d : Nat} {v : Value} {t : V}, VB w lo hi d v t → VB w lo' hi' d v t
  | 0, _, _, h => h.elim
  | d + 1, _, _, ⟨A, n, c, B, m, e, hv, h1, h2, h3, h4, h5, h6, h7⟩ => ⟨A, n, c, B, m, e, hv, h1, h2, h3, h4, h5, h6.weak g1 g2 fun _ _ => VB.weak g1 g2, h7.weak g1 g2⟩
theorem VB.up : ∀ {d d' : Nat} {v : Value} {t : V}, d ≤ d' → VB w lo hi d v t → VB w lo hi d' v t
  | 0, _, _, _, _, h => h.elim
  | d + 1, 0, _, _, hd, _ => absurd hd (by omega)
  | d + 1, d' + 1, _, _, hd, ⟨A, n, c, B, m, e, hv, h1, h2, h3, h4, h5, h6, h7⟩ => ⟨A, n, c, B, m, e, hv, h1, h2, h3, h4, h5, h6.weak (Nat.le_refl _) (Nat.le_refl _) fun _ _ => VB.up (by omega), h7⟩
theorem VX.kept (h : VX w lo hi v t) (k : Kept lo hi w w') : VX w' lo hi v t := by obtain ⟨d, h⟩ := h; exact ⟨d, h.kept k⟩
theorem VX.weak (h : VX w lo hi v t) (h1 : lo' ≤ lo) (h2 : hi ≤ hi') : VX w lo' hi' v t := by obtain ⟨d, h⟩ := h; exact ⟨d, h.weak h1 h2⟩
/-- An item, in a later world. -/
theorem IS.item {wr : World} {B j : Nat} (h : IS w lo hi (VB w lo hi d) A n c l) (hb : Below B w wr) (hB : hi ≤ B) (hj : j < n) : ∃ (b off : Nat) (k i : Int) (s : ByteArray) (x y : Value), A = some ⟨b, off, none⟩ ∧
    wr.cell? ⟨b, off + j * 5, none⟩ = some (.int .i64 k) ∧ wr.cell? ⟨b, off + j * 5 + 1, none⟩ = some (.int .i64 i) ∧ wr.cell? ⟨b, off + j * 5 + 2, none⟩ = some (.string s) ∧
    wr.cell? ⟨b, off + j * 5 + 3, none⟩ = some x ∧ wr.cell? ⟨b, off + j * 5 + 4, none⟩ = some y ∧ VB wr lo hi d (.agg #[.int .i64 k, .int .i64 i, .string s, x, y]) (l.getD j default) := by
  obtain ⟨b, off, e, h1, h2, h3⟩ := h.at_ (by omega)
  obtain ⟨k0, i, s, x, y, c0, c1, c2, c3, c4, r⟩ := h3 j hj
  have hk := fun p => hb.cell (p := ⟨b, p, none⟩) (by show b < B; omega)
  exact ⟨b, off, k0, i, s, x, y, e, (hk _).trans c0, (hk _).trans c1, (hk _).trans c2, (hk _).trans c3, (hk _).trans c4, r.kept (Kept.of_below hb hB)⟩
theorem KS.item {wr : World} {B j : Nat} (h : KS w lo hi A n c ks) (hb : Below B w wr) (hB : hi ≤ B) (hj : j < n) : ∃ (b off : Nat), A = some ⟨b, off, none⟩ ∧ wr.cell? ⟨b, off + j, none⟩ = some (.string (ks.getD j ByteArray.empty)) := by
  obtain ⟨b, off, e, h1, h2, h3⟩ := h.at_ (by omega)
  exact ⟨b, off, e, (hb.cell (p := ⟨b, off + j, none⟩) (by show b < B; omega)).trans (h3 j hj)⟩
end
/-- The cells of a box, in a later world. -/
theorem box_cell {W w1 : World} {o : Obj} {i : Nat} (hb : Below (W.heap.size + 1) (W.alloc o) w1) : w1.cell? ⟨W.heap.size, i, none⟩ = (W.alloc o).cell? ⟨W.heap.size, i, none⟩ := hb.cell (p := ⟨W.heap.size, i, none⟩) (Nat.lt_succ_self _)
theorem box_below {W w1 : World} {o : Obj} (hb : Below (W.heap.size + 1) (W.alloc o) w1) : Below W.heap.size W w1 := ((Below.refl _ _).alloc (Nat.le_refl _) _).trans (hb.mono (by omega))
theorem box_step {W w1 w2 : World} {o : Obj} (hb : Below (W.heap.size + 1) (W.alloc o) w1) (h2 : Below w1.heap.size w1 w2) : Below (W.heap.size + 1) (W.alloc o) w2 := hb.trans (h2.mono (by have := hb.size; simp at this; omega))
theorem box5 {W w1 : World} {x0 x1 x2 x3 x4 : Value} {T : TypeId} (hb : Below (W.heap.size + 1) (W.alloc (.cells #[x0, x1, x2, x3, x4] T)) w1) :
    w1.cell? ⟨W.heap.size, 0, none⟩ = some x0 ∧ w1.cell? ⟨W.heap.size, 1, none⟩ = some x1 ∧ w1.cell? ⟨W.heap.size, 2, none⟩ = some x2 ∧ w1.cell? ⟨W.heap.size, 3, none⟩ = some x3 ∧ w1.cell? ⟨W.heap.size, 4, none⟩ = some x4 := by
  refine ⟨(box_cell hb).trans ?_, (box_cell hb).trans ?_, (box_cell hb).trans ?_, (box_cell hb).trans ?_, (box_cell hb).trans ?_⟩ <;> (rw [World.cell?_alloc_at _ _ _ _ rfl]; rfl)
theorem box_size {W w1 : World} {o : Obj} (hb : Below (W.heap.size + 1) (W.alloc o) w1) : W.heap.size + 1 ≤ w1.heap.size := by have := hb.size; simpa using this
theorem box_refl (W : World) (o : Obj) : Below (W.heap.size + 1) (W.alloc o) (W.alloc o) := Below.refl _ _
/-- What was there before the box, in a later world. -/
theorem VX.later {W w1 : World} {lo hi : Nat} {v : Value} {t : V} {B : Nat} (h : VX W lo hi v t) (hb : Below B W w1) (hB : hi ≤ B) : VX w1 lo hi v t := h.kept (Kept.of_below hb hB)
theorem VX.form {w : World} {lo hi : Nat} {v : Value} {t : V} (h : VX w lo hi v t) : ∃ A n c B m e, v = .agg #[.int .i64 t.k, .int .i64 t.n, .string t.s, .slice A n c, .slice B m e] := by
  obtain ⟨d, h⟩ := h
  match d, h with
  | 0, h => exact h.elim
  | d + 1, ⟨A, n, c, B, m, e, hv, _⟩ => exact ⟨A, n, c, B, m, e, hv⟩
theorem below_step {a w1 w2 : World} (h : Below a.heap.size a w1) (h2 : Below w1.heap.size w1 w2) : Below a.heap.size a w2 := h.trans (h2.mono h.size)
/-! ### Two boxes -/
section
variable {W w1 w2 : World} {o o' : Obj} {x0 x1 x2 x3 x4 y0 y1 y2 y3 y4 : Value} {T T' : TypeId}
theorem two5 (hb : Below (W.heap.size + 2) ((W.alloc (.cells #[x0, x1, x2, x3, x4] T)).alloc (.cells #[y0, y1, y2, y3, y4] T')) w1) :
    (w1.cell? ⟨W.heap.size, 0, none⟩ = some x0 ∧ w1.cell? ⟨W.heap.size, 1, none⟩ = some x1 ∧ w1.cell? ⟨W.heap.size, 2, none⟩ = some x2 ∧ w1.cell? ⟨W.heap.size, 3, none⟩ = some x3 ∧ w1.cell? ⟨W.heap.size, 4, none⟩ = some x4) ∧
    w1.cell? ⟨W.heap.size + 1, 0, none⟩ = some y0 ∧ w1.cell? ⟨W.heap.size + 1, 1, none⟩ = some y1 ∧ w1.cell? ⟨W.heap.size + 1, 2, none⟩ = some y2 ∧ w1.cell? ⟨W.heap.size + 1, 3, none⟩ = some y3 ∧ w1.cell? ⟨W.heap.size + 1, 4, none⟩ = some y4 := by
  have e1 : ∀ i, w1.cell? ⟨W.heap.size, i, none⟩ = (W.alloc (.cells #[x0, x1, x2, x3, x4] T)).cell? ⟨W.heap.size, i, none⟩ := fun i => by
    rw [hb.cell (p := ⟨W.heap.size, i, none⟩) (by show W.heap.size < W.heap.size + 2; omega)]
    exact World.cell?_of_block (Below.heap_alloc _ _ _ (by simp))
  have e2 : ∀ i, w1.cell? ⟨W.heap.size + 1, i, none⟩ = ((W.alloc (.cells #[x0, x1, x2, x3, x4] T)).alloc (.cells #[y0, y1, y2, y3, y4] T')).cell? ⟨W.heap.size + 1, i, none⟩ := fun i =>
    hb.cell (p := ⟨W.heap.size + 1, i, none⟩) (by show W.heap.size + 1 < W.heap.size + 2; omega)
  refine ⟨⟨?_, ?_, ?_, ?_, ?_⟩, ?_, ?_, ?_, ?_, ?_⟩
  iterate 5 (rw [e1, World.cell?_alloc_at _ _ _ _ rfl]; rfl)
  all_goals (rw [e2, World.cell?_alloc_at _ _ _ _ (by simp)]; rfl)
theorem two_below (hb : Below (W.heap.size + 2) ((W.alloc o).alloc o') w1) : Below W.heap.size W w1 :=
  (((Below.refl _ _).alloc (Nat.le_refl _) _).alloc (by simp) _).trans (hb.mono (by omega))
theorem two_size (hb : Below (W.heap.size + 2) ((W.alloc o).alloc o') w1) : W.heap.size + 2 ≤ w1.heap.size := by have := hb.size; simpa using this
theorem two_step (hb : Below (W.heap.size + 2) ((W.alloc o).alloc o') w1) (h2 : Below w1.heap.size w1 w2) : Below (W.heap.size + 2) ((W.alloc o).alloc o') w2 := hb.trans (h2.mono (two_size hb))
theorem two_drewN (hb : Below (W.heap.size + 2) ((W.alloc o).alloc o') w1) (n : Nat) : Below (W.heap.size + 2) ((W.alloc o).alloc o') (w1.drewN n) := hb.trans ⟨rfl, rfl, rfl, Nat.le_refl _, fun _ _ => rfl⟩
theorem below_drewN {B : Nat} (hb : Below B W w1) (n : Nat) : Below B W (w1.drewN n) := hb.trans ⟨rfl, rfl, rfl, Nat.le_refl _, fun _ _ => rfl⟩
theorem below_drew {B : Nat} (hb : Below B W w1) : Below B W w1.drew := hb.trans ⟨rfl, rfl, rfl, Nat.le_refl _, fun _ _ => rfl⟩
end
end Go.Proofs.YtdkggnciamfcmaaGreatDoor
