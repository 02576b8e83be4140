/-
  Memory in words: a slice of bytes that reads as a list, a slice of bytes of the call's own, and the laws for append and make at slices of bytes.
-/
import Derived.Test.YtffolfnaalijnaaDoorArith
import Derived.Laws.OwnMore
import Derived.Laws.AppendOwnNone
import Derived.Lib.AppendStr
import Derived.Deep.Draws
import Derived.Laws.BytesArg
namespace Go.Proofs.YtffolfnaalijnaaDoor
open Go.RowKit

/-- The blocks from lo on and below hi are as they were. -/
def Kept (lo hi : Nat) (w w' : World) : Prop := ∀ b, lo ≤ b → b < hi → w'.heap[b]? = w.heap[b]?
theorem Kept.of_below {B lo hi : Nat} {w w' : World} (h : Below B w w') (hb : hi ≤ B) : Kept lo hi w w' := fun b _ h2 => h.block b (by omega)
theorem Kept.of_only {lo hi g : Nat} {w w' : World} (h : w.grownBy w' (some g)) (hs : hi ≤ w.heap.size) (hg : g < lo ∨ hi ≤ g) : Kept lo hi w w' :=
  fun b h1 h2 => h.block b (by omega) (fun e => by injection e; omega)

/-- The slice value '.slice A n c' reads as the bytes l; its cells lie in a block from lo on and below hi. -/
structure RB (w : World) (lo hi : Nat) (A : Option Addr) (n c : Nat) (l : List UInt8) : Prop where
  len : l.length = n
  cap : n ≤ c
  most : c ≤ maxLen
  nil : A = none → c = 0
  at_ : 0 < n → ∃ b off, A = some ⟨b, off, none⟩ ∧ lo ≤ b ∧ b < hi ∧ ∀ j, j < n → w.cell? ⟨b, off + j, none⟩ = some (.int .u8 ((l.getD j 0).toNat : Int))

section
variable {w w' : World} {lo hi n c : Nat} {A : Option Addr} {l : List UInt8}
theorem RB.kept (h : RB w lo hi A n c l) (k : Kept lo hi w w') : RB w' lo hi A n c l :=
  ⟨h.len, h.cap, h.most, h.nil, fun hn => by
    obtain ⟨b, off, e, h1, h2, h3⟩ := h.at_ hn
    exact ⟨b, off, e, h1, h2, fun j hj => (World.cell?_of_block (w := w) (k b h1 h2)).trans (h3 j hj)⟩⟩
theorem RB.weak (h : RB w lo hi A n c l) {lo' hi' : Nat} (h1 : lo' ≤ lo) (h2 : hi ≤ hi') : RB w lo' hi' A n c l :=
  ⟨h.len, h.cap, h.most, h.nil, fun hn => by
    obtain ⟨b, off, e, h3, h4, h5⟩ := h.at_ hn
    exact ⟨b, off, e, by omega, by omega, h5⟩⟩
theorem RB.drew (h : RB w lo hi A n c l) : RB w.drew lo hi A n c l := h.kept fun _ _ _ => rfl
theorem RB.drewN (h : RB w lo hi A n c l) (k : Nat) : RB (w.drewN k) lo hi A n c l := h.kept fun _ _ _ => rfl
theorem RB.alloc (h : RB w lo hi A n c l) (hs : hi ≤ w.heap.size) (o : Obj) : RB (w.alloc o) lo hi A n c l :=
  h.kept fun b _ h2 => Below.heap_alloc w o b (by omega)
theorem RB.setCell (h : RB w lo hi A n c l) {p : Addr} (hp : p.block < lo ∨ hi ≤ p.block) (u : Value) : RB (w.setCell p u) lo hi A n c l :=
  h.kept fun b h1 h2 => Below.heap_setCell w p u b (by omega)
theorem RB.nil_ (w : World) (lo hi : Nat) : RB w lo hi none 0 0 [] := ⟨rfl, Nat.le_refl _, Nat.zero_le _, fun _ => rfl, fun h => absurd h (by omega)⟩
/-- 's[k:]'. -/
theorem RB.cut (h : RB w lo hi A n c l) {k : Nat} (hk : k ≤ n) {A' : Option Addr} (hA : ¬ c = k → A' = A.map (·.add k)) (hA0 : A' = none → c - k = 0) : RB w lo hi A' (n - k) (c - k) (l.drop k) := by
  refine ⟨by rw [List.length_drop, h.len], by have := h.cap; omega, by have := h.most; omega, hA0, fun hn => ?_⟩
  obtain ⟨b, off, e, h1, h2, h3⟩ := h.at_ (by omega)
  have hc := h.cap
  refine ⟨b, off + k, ?_, h1, h2, fun j hj => ?_⟩
  · rw [hA (by omega), e, Option.map_some, Addr.add_lit]
  · rw [Nat.add_assoc, h3 (k + j) (by omega)]
    simp [List.getD, List.getElem?_drop]
/-- 's[:k]'. -/
theorem RB.front (h : RB w lo hi A n c l) {k : Nat} (hk : k ≤ n) : RB w lo hi A k c (l.take k) := by
  refine ⟨by rw [List.length_take, h.len]; omega, by have := h.cap; omega, h.most, h.nil, fun hn => ?_⟩
  obtain ⟨b, off, e, h1, h2, h3⟩ := h.at_ (by omega)
  refine ⟨b, off, e, h1, h2, fun j hj => ?_⟩
  rw [h3 j (by omega)]
  simp [List.getD, hj]
end

theorem u8_info : (Tryd.prog.info? 5).map (fun i => (i.zero, i.size, i.bytes)) = some (some (.int .u8 0), 1, 1) := by kernel_rfl

def bv (c : UInt8) : Value := .int .u8 (c.toNat : Int)

/-- The value v is a slice of bytes of the call's own, in a block from base on, that reads as l. -/
def OB (w : World) (base : Nat) (v : Value) (l : List UInt8) : Prop := w.ownsRow base 5 1 v l.length (l.map bv)

section
variable {w w' : World} {base : Nat} {v : Value} {l : List UInt8}
theorem OB.kept {row : Option Nat} (h : OB w base v l) (hg : w.grownBy w' row) (hne : v.ownBlock = none ∨ v.ownBlock ≠ row) : OB w' base v l := World.ownsRow.kept h hg hne
theorem OB.below (h : OB w base v l) {B : Nat} (hb : Below B w w') (hB : w.heap.size ≤ B) : OB w' base v l := by
  obtain ⟨h1, h2⟩ := h
  refine ⟨h1, ?_⟩
  rcases h2 with h2 | ⟨g, cap, cur, hv, hg, hh, r⟩
  · exact .inl h2
  · refine .inr ⟨g, cap, cur, hv, hg, ?_, r⟩
    have hlt : g < w.heap.size := by
      rcases Nat.lt_or_ge g w.heap.size with hlt | hge
      · exact hlt
      · rw [Array.getElem?_eq_none hge] at hh; cases hh
    rw [hb.block g (by omega)]; exact hh
theorem OB.alloc (h : OB w base v l) (o : Obj) : OB (w.alloc o) base v l := World.ownsRow.alloc h o
theorem OB.weak (h : OB w base v l) {b' : Nat} (hb : b' ≤ base) : OB w b' v l := by
  obtain ⟨h1, h2⟩ := h
  refine ⟨h1, ?_⟩
  rcases h2 with h2 | ⟨g, cap, cur, hv, hg, r⟩
  · exact .inl h2
  · exact .inr ⟨g, cap, cur, hv, by omega, r⟩
/-- What is owned reads. -/
theorem OB.form (h : OB w base v l) : ∃ A n c, v = .slice A n c ∧ RB w base w.heap.size A n c l := by
  have hh := h
  obtain ⟨h1, h2⟩ := h
  rcases h2 with ⟨rfl, h0⟩ | ⟨g, cap, cur, rfl, hg, hheap, h3, h4, h5, h6⟩
  · obtain rfl : l = [] := List.eq_nil_of_length_eq_zero h0
    exact ⟨none, 0, 0, rfl, RB.nil_ _ _ _⟩
  · refine ⟨some ⟨g, 0, none⟩, l.length, cap, rfl, ⟨rfl, h3, h4, (fun e => by cases e), fun hn => ⟨g, 0, rfl, hg, ?_, fun j hj => ?_⟩⟩⟩
    · rcases Nat.lt_or_ge g w.heap.size with hlt | hge
      · exact hlt
      · rw [Array.getElem?_eq_none hge] at hheap; cases hheap
    · rw [Nat.zero_add, World.ownsRow.cellAt hh j (by omega)]
      simp [List.getD, bv, hj]
theorem OB.empty (w : World) (base : Nat) : OB w base (.slice none 0 0) [] := World.ownsRow_nil _ _ _ _
end

/-- '[]byte{}'. -/
theorem OB.lit0 (w : World) : OB (w.alloc (.cells #[] 5)) w.heap.size (.slice (some ⟨w.heap.size, 0, none⟩) 0 0) [] :=
  World.ownsRow_lit (e := 5) (size := 1) w #[] 0 (Nat.le_refl _) (by unfold maxLen; omega) rfl

/-- A literal block of one byte. -/
theorem RB.one (w : World) {n : Int} {c : UInt8} (hc : n = (c.toNat : Int)) : RB (w.alloc (.cells #[.int .u8 n] 5)) w.heap.size (w.heap.size + 1) (some ⟨w.heap.size, 0, none⟩) 1 1 [c] := by
  subst hc
  refine ⟨rfl, Nat.le_refl _, (by unfold maxLen; omega), (fun e => by cases e), fun _ => ⟨w.heap.size, 0, rfl, Nat.le_refl _, by omega, fun j hj => ?_⟩⟩
  obtain rfl : j = 0 := by omega
  rw [World.cell?_alloc_at _ _ _ _ rfl]; rfl

section
variable {w : World} {ops : Array Oper} {rest : List Oper} {o : Oper} {a : Act} {Q : Exit → Act → World → Prop}
set_option maxRecDepth 100000 in
/-- 'append(s, x...)': s the call's own, x any slice of bytes that reads. -/
theorem wpList_append_rb (hgd : o.guard = none) (s x : Operand)
    (ho : o.op = .call { callee := .builtin .append, args := #[s, x], argTypes := #[48, 48] })
    (base : Nat) (v : Value) (l : List UInt8) (hs : a.eval s = v) (hown : OB w base v l)
    (lo hi : Nat) (A : Option Addr) (m c : Nat) (r : List UInt8) (hx : a.eval x = .slice A m c) (hr : RB w lo hi A m c r)
    (hbytes : l.length + m ≤ 140737488355328) (hbase : base ≤ w.heap.size)
    (h : ∀ v' w', OB w' base v' (l ++ r) → Below base w w' → wpList Tryd.prog ops Q rest (a.put o.dst v') w') : wpList Tryd.prog ops Q (o :: rest) a w := by
  obtain ⟨i, hi0, hz0, hz1, hz2⟩ := info_parts u8_info
  have hrow : ∀ k, v.ownBlock = some k → base ≤ k := fun k hk => (World.ownsRow.lt hown k hk).1
  rcases A with _ | ad
  · obtain rfl := hr.nil rfl
    obtain rfl : m = 0 := by have := hr.cap; omega
    obtain rfl : r = [] := List.eq_nil_of_length_eq_zero hr.len
    exact wpList_append_own_none hgd s x _ ho base 5 i 1 Tryd.underlying48 hi0 v l.length _ hs hown hx (h v w (by simpa using hown) (Below.refl _ _))
  · refine wpList_append_own w hgd s x _ ho base 5 i _ 1 1 Tryd.underlying48 hi0 hz0 hz1 hz2 rfl (by omega) v l.length (l.map bv) hs hown ad m c (r.map bv) hx (by rw [List.length_map, hr.len]; omega) ?_ ?_ (by unfold maxLen; omega) (by omega) hbase ?_
    · intro j u hu
      have hj : j < m := by
        have := (List.getElem?_eq_some_iff.1 hu).1
        rw [List.length_map, hr.len] at this; exact this
      obtain ⟨b, off, e, _, _, h3⟩ := hr.at_ (by omega)
      injection e with e
      subst e
      rw [Addr.add_lit, h3 j hj, ← hu]
      have hjl : j < r.length := by rw [hr.len]; exact hj
      simp [List.getD, bv, hjl]
    · intro u hu
      obtain ⟨_, _, rfl⟩ := List.mem_map.1 hu
      rfl
    · intro v' w' hown' hgrow _
      refine h v' w' ?_ ((Below.refl _ _).grown hgrow hbase hrow)
      unfold OB
      rw [List.length_append, hr.len, List.map_append]
      exact hown'

set_option maxRecDepth 100000 in
/-- 'append(s, x...)', x a string. -/
theorem wpList_append_str (hgd : o.guard = none) (s x : Operand)
    (ho : o.op = .call { callee := .builtin .append, args := #[s, x], argTypes := #[48, 9] })
    (base : Nat) (v : Value) (l : List UInt8) (hs : a.eval s = v) (hown : OB w base v l) (str : ByteArray) (hx : a.eval x = .string str)
    (hbytes : l.length + str.size ≤ 140737488355328) (hbase : base ≤ w.heap.size)
    (h : ∀ v' w', OB w' base v' (l ++ str.data.toList) → Below base w w' → wpList Tryd.prog ops Q rest (a.put o.dst v') w') : wpList Tryd.prog ops Q (o :: rest) a w := by
  obtain ⟨i, hi0, hz0, hz1, hz2⟩ := info_parts u8_info
  have hrow : ∀ k, v.ownBlock = some k → base ≤ k := fun k hk => (World.ownsRow.lt hown k hk).1
  refine Lib.wpList_append_own_string w hgd s x _ _ ho base 5 i Tryd.underlying48 Tryd.underlying9 hi0 hz0 hz1 hz2 v l.length (l.map bv) hs hown str hx (by unfold maxLen; omega) hbytes hbase ?_
  intro v' w' hown' hgrow _
  refine h v' w' ?_ ((Below.refl _ _).grown hgrow hbase hrow)
  unfold OB
  have e1 : str.data.toList.length = str.size := Array.length_toList
  rw [List.length_append, e1, List.map_append]
  have e2 : Lib.strCells str = str.data.toList.map bv := by
    simp [Lib.strCells, bv]
  rw [← e2]
  exact hown'

set_option maxRecDepth 100000 in
/-- 'make([]byte, 0, n)'. -/
theorem wpList_make_ob (hg : o.guard = none) (x y : Operand) (hop : o.op = Op.makeSlice 48 x y) (base : Nat) (C : Int) (n : Nat) (hl : a.eval x = .int .i64 0) (hc : a.eval y = .int .i64 C) (hC : C = (n : Int))
    (hb : n ≤ 281474976710656) (hbase : base ≤ w.heap.size)
    (hK : ∀ w', OB w' base (.slice (some ⟨w.heap.size, 0, none⟩) 0 n) [] → Below base w w' → wpList Tryd.prog ops Q rest (a.put o.dst (.slice (some ⟨w.heap.size, 0, none⟩) 0 n)) w') :
    wpList Tryd.prog ops Q (o :: rest) a w := by
  obtain ⟨i, hi0, hz0, hz1, hz2⟩ := info_parts u8_info
  refine wpList_make_own w hg x y _ hop base 5 i _ 1 Tryd.underlying48 hi0 hz0 hz1 _ _ C n hl hc hC (by rw [hz2]; omega) (by unfold maxLen; omega) hbase ?_
  intro w' h1 h2
  exact hK w' h1 ((Below.refl _ _).grown h2 hbase (fun k hk => by cases hk))
end

end Go.Proofs.YtffolfnaalijnaaDoor
