/-
  Layer 3: bytes appended to a slice of the call's own: what else is there stays, every block of it.
-/
import Derived.Test.YtdkggnciamfcmaaGreatDoorTCodC
import Derived.Test.YtdkggnciamfcmaaGreatDoorVPush
import Derived.Maps.AppendAt
import Derived.Lib.AppendStr
import Derived.Deep.RegionLaw
import Derived.Deep.AppendLies
namespace Go.Proofs.YtdkggnciamfcmaaGreatDoor
set_option linter.unusedVariables false
open Go.RowKit

/-- v' has the row of v, or one that is new since w. -/
def Nx (w : World) (v v' : Value) : Prop := ∀ k, v'.ownBlock = some k → v.ownBlock = some k ∨ w.heap.size ≤ k
section
variable {w w0 w1 w2 w' : World} {base G : Nat} {v v' v1 v2 : Value} {L l : List UInt8} {o : Obj}
theorem Nx.refl (w : World) (v : Value) : Nx w v v := fun _ h => .inl h
theorem Nx.mono (h : Nx w v v') (hs : w0.heap.size ≤ w.heap.size) : Nx w0 v v' := fun k hk => (h k hk).imp id (fun e => Nat.le_trans hs e)
theorem Nx.trans (h : Nx w v v1) (hs : w.heap.size ≤ w1.heap.size) (h2 : Nx w1 v1 v2) : Nx w v v2 := fun k hk => by
  rcases h2 k hk with e | e
  · exact h k e
  · exact .inr (Nat.le_trans hs e)
theorem Nx.of (h : v'.ownBlock = v.ownBlock ∨ v'.ownBlock = some w.heap.size) : Nx w v v' := fun k hk => by
  rcases h with e | e
  · exact .inl (e ▸ hk)
  · rw [e] at hk; injection hk with hk; exact .inr (by omega)
theorem Nx.ne (h : Nx w v v') (hG : G < w.heap.size) (hv : v.ownBlock ≠ some G) : v'.ownBlock ≠ some G := fun e => by
  rcases h G e with e | e
  · exact hv e
  · omega
theorem OB.ne (h : OB w base v L) (hG : w.heap.size ≤ G) : v.ownBlock ≠ some G := fun e => by have := (World.ownsRow.lt h _ e).2; omega
theorem grow2 (h1 : w.grownBy w1 v.ownBlock) (n1 : Nx w v v1) (h2 : w1.grownBy w2 v1.ownBlock) : w.grownBy w2 v.ownBlock :=
  h1.andThen h2 (fun k hk => (n1 k hk).symm.imp id (fun e => e))
theorem grow_alloc (h : (w.alloc o).grownBy w2 v.ownBlock) : w.grownBy w2 v.ownBlock := (World.grownBy_alloc w o v.ownBlock).trans h
theorem below_own (ho : OB w base v L) (hbase : base ≤ w.heap.size) (hg : w.grownBy w' v.ownBlock) : Below base w w' :=
  (Below.refl _ _).grown hg hbase (fun k hk => (World.ownsRow.lt ho k hk).1)
theorem kept_own (hg : w.grownBy w' v.ownBlock) (hne : v.ownBlock ≠ some G) (hX : w.heap[G]? = some o) : w'.heap[G]? = some o :=
  (hg.block G (row_lt hX) (fun e => hne e.symm)).trans hX
end

section
variable {w : World} {ops : Array Oper} {rest : List Oper} {o : Oper} {a : Act} {Q : Exit → Act → World → Prop}
set_option maxRecDepth 100000 in
/-- 'append(s, x...)': s the call's own, x a row of bytes that reads. -/
theorem wpList_append_rbx (hgd : o.guard = none) (s x : Operand)
    (ho : o.op = .call { callee := .builtin .append, args := #[s, x], argTypes := #[39, 39] })
    (base : Nat) (v : Value) (l : List UInt8) (hs : a.eval s = v) (hown : OB w base v l)
    (lo hi : Nat) (ad : Addr) (m c : Nat) (r : List UInt8) (hx : a.eval x = .slice (some ad) m c) (hr : RB w lo hi (some ad) m c r)
    (hbytes : l.length + m ≤ 140737488355328) (hbase : base ≤ w.heap.size)
    (h : ∀ v' w', OB w' base v' (l ++ r) → w.grownBy w' v.ownBlock → Nx w v v' → wpList Tryz.prog ops Q rest (a.put o.dst v') w') : wpList Tryz.prog ops Q (o :: rest) a w := by
  obtain ⟨i, hi0, hz0, hz1, hz2⟩ := info_parts u8_info
  refine wpList_append_own_at w hgd s x _ ho base 5 i _ 1 1 Tryz.underlying39 hi0 hz0 hz1 hz2 rfl (by omega) v l.length (l.map bv) hs hown ad m c (r.map bv) hx (by rw [List.length_map, hr.len]; omega) ?_ ?_ (by unfold maxLen; omega) (by omega) hbase ?_
  · intro j u hu
    have hj : j < m := by
      have := (List.getElem?_eq_some_iff.1 hu).1
      rw [List.length_map, hr.len] at this; exact this
    obtain ⟨b, off, e, _, _, h3⟩ := hr.at_ (by omega)
    injection e with e
    subst e
    rw [Addr.add_lit, h3 j hj, ← hu]
    have hjl : j < r.length := by rw [hr.len]; exact hj
    simp [List.getD, bv, hjl]
  · intro u hu
    obtain ⟨_, _, rfl⟩ := List.mem_map.1 hu
    rfl
  · intro v' w' hown' hgrow _ hat
    refine h v' w' ?_ hgrow (Nx.of hat)
    unfold OB
    rw [List.length_append, hr.len, List.map_append]
    exact hown'

/-- Where the row of an appended string lies. -/
theorem append_str_at (w : World) (ty : TypeId) (base : Nat) (v : Value) (l : List UInt8) (hown : OB w base v l) (str : ByteArray) (h0 : 0 < str.size) (hb : l.length + str.size ≤ 140737488355328) :
    ∃ v' w', (Builtin.append_ #[39, 9] ty #[v, .string str]).run Tryz.prog w = .ok v' w' ∧ (v'.ownBlock = v.ownBlock ∨ v'.ownBlock = some w.heap.size) := by
  obtain ⟨i, hi0, hz0, hz1, hz2⟩ := info_parts u8_info
  rcases hown.2 with ⟨rfl, _⟩ | ⟨g, cap, cur, rfl, hbg, hg, hnc, hcm, hcs, htake⟩
  · exact ⟨_, _, run_append_nil_string w 39 9 ty 5 i _ Tryz.underlying39 Tryz.underlying9 hi0 hz0 str h0 (by omega) (by rw [hz2]; omega), .inr rfl⟩
  · by_cases hroom : l.length + str.size ≤ cap
    · exact ⟨_, _, Lib.run_append_room_string w 39 9 ty 5 i Tryz.underlying39 Tryz.underlying9 hi0 hz1 g l.length cap cur hg str hroom (by omega), .inl rfl⟩
    · exact ⟨_, _, Lib.run_append_grow_string w 39 9 ty 5 i _ Tryz.underlying39 Tryz.underlying9 hi0 hz0 ⟨g, 0, none⟩ l.length cap (l.map bv) (by rw [hz1]; simp) (World.ownsRow.cells hown (g := g) rfl) str (by omega) (by omega) (by rw [hz2]; exact growslice_fits (by omega) (by omega)), .inr rfl⟩

set_option maxRecDepth 100000 in
/-- 'append(s, x...)', x a string that is not empty. -/
theorem wpList_append_strx (hgd : o.guard = none) (s x : Operand)
    (ho : o.op = .call { callee := .builtin .append, args := #[s, x], argTypes := #[39, 9] })
    (base : Nat) (v : Value) (l : List UInt8) (hs : a.eval s = v) (hown : OB w base v l) (str : ByteArray) (hx : a.eval x = .string str) (h0 : 0 < str.size)
    (hbytes : l.length + str.size ≤ 140737488355328) (hbase : base ≤ w.heap.size)
    (h : ∀ v' w', OB w' base v' (l ++ str.data.toList) → w.grownBy w' v.ownBlock → Nx w v v' → wpList Tryz.prog ops Q rest (a.put o.dst v') w') : wpList Tryz.prog ops Q (o :: rest) a w := by
  obtain ⟨i, hi0, hz0, hz1, hz2⟩ := info_parts u8_info
  refine wpList_plain hgd fun K hK => ?_
  obtain ⟨v1, w1, hr1, hat⟩ := append_str_at w o.type base v l hown str h0 hbytes
  obtain ⟨v', w', hr, hown', hgrow, _⟩ := Lib.run_append_own_string (P := Tryz.prog) w base 39 9 o.type 5 i Tryz.underlying39 Tryz.underlying9 hi0 hz0 hz1 hz2 v l.length (l.map bv) hown str (by unfold maxLen; omega) hbytes hbase
  rw [hr] at hr1
  injection hr1 with e1 e2
  subst e1 e2
  unfold Oper.wp execOp
  simp only [ho, resolve, invoke, builtin, Sem.run_bind, Sem.run_pure, Result.andThen_ok, List.map_toArray, List.map_cons, List.map_nil, hs, hx, hr]
  refine hK _ _ (h v' w' ?_ hgrow (Nx.of hat))
  unfold OB
  have e1 : str.data.toList.length = str.size := Array.length_toList
  rw [List.length_append, e1, List.map_append]
  have e2 : Lib.strCells str = str.data.toList.map bv := by
    simp [Lib.strCells, bv]
  rw [← e2]
  exact hown'
end

/-- A literal block of bytes. -/
theorem RB.lits (w : World) (l : List UInt8) {xs : List Value} (hx : xs = l.map bv) (hm : l.length ≤ 1000) : RB (w.alloc (.cells xs.toArray 5)) w.heap.size (w.heap.size + 1) (some ⟨w.heap.size, 0, none⟩) l.length l.length l := by
  subst hx
  refine ⟨rfl, Nat.le_refl _, (by unfold maxLen; omega), (fun e => by cases e), fun _ => ⟨w.heap.size, 0, rfl, Nat.le_refl _, by omega, fun j hj => ?_⟩⟩
  rw [World.cell?_alloc_at _ _ _ _ rfl]
  simp [List.getD, bv, hj]
theorem RB.two (w : World) {n m : Int} {a b : UInt8} (ha : n = (a.toNat : Int)) (hb : m = (b.toNat : Int)) : RB (w.alloc (.cells #[.int .u8 n, .int .u8 m] 5)) w.heap.size (w.heap.size + 1) (some ⟨w.heap.size, 0, none⟩) 2 2 [a, b] := by
  subst ha hb; exact RB.lits w [a, b] rfl (by simp)
section
variable {w : World} {ops : Array Oper} {o : Oper} {a : Act} {K : Act → World → Prop} {Q : Exit → Act → World → Prop} {E : Prop}
set_option maxRecDepth 100000 in
/-- 'append(s, x...)' at a step of a region that draws: s the call's own, x a literal block. -/
theorem step_append_rbx (hgd : o.guard = none) (s x : Operand)
    (ho : o.op = .call { callee := .builtin .append, args := #[s, x], argTypes := #[39, 39] })
    (base g m : Nat) (v : Value) (l r : List UInt8) (cs : Array Value) (T : TypeId) (fr : Nat × Nat) (hs : a.eval s = v) (hown : OB w base v l) (hx : a.eval x = .slice (some ⟨g, 0, none⟩) m m)
    (hg : w.heap[g]? = some (.cells cs T fr)) (hcs : cs = (r.map bv).toArray) (hm : r.length = m) (h0 : 0 < m) (hbytes : l.length + m ≤ 140737488355328) (hbase : base ≤ w.heap.size)
    (h : ∀ v' w', OB w' base v' (l ++ r) → w.grownBy w' v.ownBlock → Nx w v v' → K (a.put o.dst v') w') :
    if Region.wanted o (yielded ops a.tmps) = true then Oper.wp Tryz.prog o a w K Q else E := by
  obtain ⟨i2, hi0, hz0, hz1, hz2⟩ := info_parts u8_info
  subst hcs
  refine step_append_lies w hgd s x _ ho base 5 i2 _ 1 1 Tryz.underlying39 hi0 hz0 hz1 hz2 rfl (by decide) v l.length (l.map bv) hs hown ⟨g, 0, none⟩ m m (r.map bv) hx (by rw [List.length_map, hm]; omega) (World.news_of_block (by simpa using hg)) ?_ (by omega) (by unfold maxLen; omega) (by omega) hbase w.heap.size rfl ?_
  · intro u hu
    obtain ⟨_, _, rfl⟩ := List.mem_map.1 hu
    rfl
  · intro g1 cap w' h1 h2 h3 h4
    refine h _ w' ?_ h2 (Nx.of (h3.imp (fun e => e.symm) (fun e => by rw [e]; rfl)))
    unfold OB
    rw [List.length_append, hm, List.map_append]
    exact h1
end

/-- What an appending function gives. -/
def Adds (base : Nat) (L : List UInt8) (v : Value) (w : World) (e : Ending) (w' : World) : Prop := ∃ v', e = .returned v' ∧ OB w' base v' L ∧ w.grownBy w' v.ownBlock ∧ Nx w v v'
end Go.Proofs.YtdkggnciamfcmaaGreatDoor
