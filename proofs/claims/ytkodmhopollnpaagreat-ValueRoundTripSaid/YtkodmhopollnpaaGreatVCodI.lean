/-
  Layer 2: the code's Encode.
-/
import Derived.Test.YtkodmhopollnpaaGreatVCodH
import Derived.Test.YtkodmhopollnpaaGreatVal6
import Derived.Test.YtkodmhopollnpaaGreatPut
namespace Go.Proofs.YtkodmhopollnpaaGreat
set_option linter.unusedVariables false
open Go.RowKit
open M (V)

/-- All blocks but rows of bytes are kept. -/
def KB (w w' : World) : Prop := ∀ (k : Nat) (o : Obj), w.heap[k]? = some o → (∀ cs z, o ≠ Obj.cells cs 5 z) → w'.heap[k]? = some o
theorem KB.refl (w : World) : KB w w := fun _ _ h _ => h
theorem KB.trans {a b c : World} (h : KB a b) (h' : KB b c) : KB a c := fun k o h1 h2 => h' k o (h k o h1 h2) h2
theorem KB.below {w w' : World} {B : Nat} (h : Below B w w') (hB : w.heap.size ≤ B) : KB w w' := fun k o h1 _ => by
  rw [h.block k (Nat.lt_of_lt_of_le (row_lt h1) hB)]; exact h1
theorem KB.alloc (w : World) (o : Obj) : KB w (w.alloc o) := fun k o' h _ => by rw [Below.heap_alloc _ _ _ (row_lt h)]; exact h
theorem KB.grown {w w' : World} {base : Nat} {v : Value} {l : List UInt8} (hg : w.grownBy w' v.ownBlock) (h : OB w base v l) : KB w w' := fun k o h1 h2 => by
  rw [hg.block k (row_lt h1) ?_]
  · exact h1
  · intro e
    obtain ⟨_, h3⟩ := h
    rcases h3 with ⟨rfl, _⟩ | ⟨g, cap, cur, rfl, _, hh, _⟩
    · cases e
    · injection e with e
      subst e
      rw [h1] at hh
      injection hh with hh
      exact h2 _ _ hh

section
variable {w : World} {ops : Array Oper} {rest : List Oper} {o : Oper} {a : Act} {Q : Exit → Act → World → Prop}
set_option maxRecDepth 100000 in
/-- 'append(s, x...)': s the call's own, x any slice of bytes that reads; what else is kept. -/
theorem wpList_append_kb (hgd : o.guard = none) (s x : Operand)
    (ho : o.op = .call { callee := .builtin .append, args := #[s, x], argTypes := #[22, 22] })
    (base : Nat) (v : Value) (l : List UInt8) (hs : a.eval s = v) (hown : OB w base v l)
    (lo hi : Nat) (A : Option Addr) (m c : Nat) (r : List UInt8) (hx : a.eval x = .slice A m c) (hr : RB w lo hi A m c r)
    (hbytes : l.length + m ≤ 140737488355328) (hbase : base ≤ w.heap.size)
    (h : ∀ v' w', OB w' base v' (l ++ r) → Below base w w' → KB w w' → wpList Tryz.prog ops Q rest (a.put o.dst v') w') : wpList Tryz.prog ops Q (o :: rest) a w := by
  obtain ⟨i, hi0, hz0, hz1, hz2⟩ := info_parts u8_info
  have hrow : ∀ k, v.ownBlock = some k → base ≤ k := fun k hk => (World.ownsRow.lt hown k hk).1
  rcases A with _ | ad
  · obtain rfl := hr.nil rfl
    obtain rfl : m = 0 := by have := hr.cap; omega
    obtain rfl : r = [] := List.eq_nil_of_length_eq_zero hr.len
    exact wpList_append_own_none hgd s x _ ho base 5 i 1 Tryz.underlying22 hi0 v l.length _ hs hown hx (h v w (by simpa using hown) (Below.refl _ _) (KB.refl _))
  · refine wpList_append_own w hgd s x _ ho base 5 i _ 1 1 Tryz.underlying22 hi0 hz0 hz1 hz2 rfl (by omega) v l.length (l.map bv) hs hown ad m c (r.map bv) hx (by rw [List.length_map, hr.len]; omega) ?_ ?_ (by unfold maxLen; omega) (by omega) hbase ?_
    · intro j u hu
      have hj : j < m := by
        have := (List.getElem?_eq_some_iff.1 hu).1
        rw [List.length_map, hr.len] at this; exact this
      obtain ⟨b, off, e, _, _, h3⟩ := hr.at_ (by omega)
      injection e with e
      subst e
      rw [Addr.add_lit, h3 j hj, ← hu]
      have hjl : j < r.length := by rw [hr.len]; exact hj
      simp [List.getD, bv, hjl]
    · intro u hu
      obtain ⟨_, _, rfl⟩ := List.mem_map.1 hu
      rfl
    · intro v' w' hown' hgrow _
      refine h v' w' ?_ ((Below.refl _ _).grown hgrow hbase hrow) (KB.grown hgrow hown)
      unfold OB
      rw [List.length_append, hr.len, List.map_append]
      exact hown'
end

/-- Bytes are appended. -/
def Grew (base : Nat) (L : List UInt8) (w : World) (e : Ending) (w' : World) : Prop := ∃ v, e = .returned v ∧ OB w' base v L ∧ Below base w w' ∧ KB w w'

set_option maxRecDepth 100000 in
set_option maxHeartbeats 400000 in
theorem valInt_any (base : Nat) (v : Value) (l : List UInt8) (n : Int) (w : World) (h : OB w base v l) (hbase : base ≤ w.heap.size) (h1 : -9223372036854775808 ≤ n) (h2 : n ≤ 9223372036854775807) (hb : (l ++ M.enc (M.zig n)).length ≤ 140737488355000) :
    Calls Tryz.prog 64 #[v, .int .i64 n] w (Grew base (l ++ M.enc (M.zig n)) w) := by
  have HB := Lib.hid hb
  clear hb
  go_enter Tryz.func64, Tryz.ntmps64
  go_wp2_with fail
  refine (putInt_any none 0 0 [] 0 0 n w (RB.nil_ _ _ _) (Nat.zero_le _) h1 h2 (by omega)).mono ?_
  rintro e w1 ⟨v1, rfl, ho1, hb1⟩
  have ho2 : OB w1 w.heap.size v1 (M.enc (M.zig n)) := ho1
  obtain ⟨A1, n1, c1, rfl, hr1⟩ := ho2.form
  have hbb := hb1.mono hbase
  have ho3 := h.below hb1 (Nat.le_refl _)
  have hl1 := hr1.len
  have HL1 := Lib.hid hl1
  clear hl1
  have hs1 := hb1.size
  go_wp2_with (at_builtin; refine wpList_append_kb rfl _ _ rfl base v l rfl ho3 _ _ A1 n1 c1 _ rfl hr1 ?c1 ?c2 ?_)
  case c1 => have := HB.out; rw [List.length_append, HL1.out] at this; omega
  case c2 => omega
  intro v2 w2 ho4 hb2 hk2
  go_wp2
  go_ret
  exact ⟨_, rfl, ho4, hbb.trans hb2, (KB.below hb1 (Nat.le_refl _)).trans hk2⟩

set_option maxRecDepth 100000 in
set_option maxHeartbeats 400000 in
theorem valText_any (base : Nat) (v : Value) (l : List UInt8) (s : ByteArray) (w : World) (h : OB w base v l) (hbase : base ≤ w.heap.size) (hb : (l ++ M.sby s).length ≤ 140737488355000) :
    Calls Tryz.prog 65 #[v, .string s] w (Grew base (l ++ M.sby s) w) := by
  have hs : s.size ≤ 140737488355000 := by
    have e : s.data.toList.length = s.size := Array.length_toList
    simp only [M.sby, List.length_append] at hb; omega
  have HB := Lib.hid hb
  clear hb
  go_enter Tryz.func65, Tryz.ntmps65
  go_wp2_with fail
  refine (putText_any none 0 0 [] 0 0 s w (RB.nil_ _ _ _) (Nat.zero_le _) (by omega)).mono ?_
  rintro e w1 ⟨v1, rfl, ho1, hb1⟩
  have ho2 : OB w1 w.heap.size v1 (M.sby s) := ho1
  obtain ⟨A1, n1, c1, rfl, hr1⟩ := ho2.form
  have hbb := hb1.mono hbase
  have ho3 := h.below hb1 (Nat.le_refl _)
  have hl1 := hr1.len
  have HL1 := Lib.hid hl1
  clear hl1
  have hs1 := hb1.size
  go_wp2_with (at_builtin; refine wpList_append_kb rfl _ _ rfl base v l rfl ho3 _ _ A1 n1 c1 _ rfl hr1 ?c1 ?c2 ?_)
  case c1 => have := HB.out; rw [List.length_append, HL1.out] at this; omega
  case c2 => omega
  intro v2 w2 ho4 hb2 hk2
  go_wp2
  go_ret
  exact ⟨_, rfl, ho4, hbb.trans hb2, (KB.below hb1 (Nat.le_refl _)).trans hk2⟩

def encAt (d : Nat) : Prop := ∀ (vb : Value) (l : List UInt8) (base : Nat) (v : Value) (t : V) (lo hi : Nat) (w : World), OB w base vb l → VB w lo hi d v t → hi ≤ base → base ≤ w.heap.size → t.wf = true → (l ++ t.encv).length ≤ 140737488355000 →
  Calls Tryz.prog 37 #[vb, v] w (Grew base (l ++ t.encv) w)

set_option maxRecDepth 100000 in
set_option maxHeartbeats 2000000 in
theorem encItems_any {d : Nat} (ih : encAt d) (vb : Value) (l : List UInt8) (base : Nat) (v : Value) (t : V) (lo hi : Nat) (w : World) (hob : OB w base vb l) (h : VB w lo hi (d + 1) v t) (hhi : hi ≤ base) (hbase : base ≤ w.heap.size) (hw : t.wf = true) (hk : t.k = 4 ∨ t.k = 5)
    (hb : (l ++ (M.enc (M.zig (t.its.length : Int)) ++ V.encs (t.k == 5) t.its t.ks)).length ≤ 140737488355000) :
    Calls Tryz.prog 66 #[vb, v] w (Grew base (l ++ (M.enc (M.zig (t.its.length : Int)) ++ V.encs (t.k == 5) t.its t.ks)) w) := by
  obtain ⟨k, n, s, its, ks⟩ := t
  obtain ⟨A, m, c, B, p, e, rfl, k1, k2, n1, n2, s1, hI, hK⟩ := h
  have hmap := M.wf_map hw
  have HWI : Hid (V.wfs its = true) := Lib.hid (M.wf_items hw)
  simp only [V.k, V.n, V.s, V.its, V.ks] at hI hK k1 k2 n1 n2 s1 hb hk ⊢
  have hcap := hI.cap
  have hmost := hI.most
  have hcap2 := hK.cap
  have hmost2 := hK.most
  have HL := Lib.hid hI.len
  have HL2 := Lib.hid hK.len
  have HI := Lib.hid hI
  have HK := Lib.hid hK
  have IH := Lib.hid ih
  rw [HL.out, HL2.out] at hmap
  have HM := Lib.hid hmap
  clear hI hK ih hmap hw
  rw [HL.out] at hb ⊢
  obtain ⟨L, hL⟩ : ∃ L, L = l ++ (M.enc (M.zig (m : Int)) ++ V.encs (k == 5) its ks) := ⟨_, rfl⟩
  rw [← hL] at hb ⊢
  have hlen1 : (l ++ M.enc (M.zig (m : Int))).length ≤ 140737488355000 := by rw [hL, ← List.append_assoc, List.length_append] at hb; omega
  have HLL := Lib.hid hL; have HB := Lib.hid hb
  have HN1 := Lib.hid hlen1
  clear hL hb hlen1
  have hb0 : Below base w (w.alloc (.cells #[.int .i64 k, .int .i64 n, .string s, .slice A m c, .slice B p e] 31)) := (Below.refl _ _).alloc hbase _
  go_enter Tryz.func66, Tryz.ntmps66
  go_wp2_with fail
  refine (valInt_any base vb l (m : Int) _ (hob.alloc _) (by simp; omega) (by omega) (by omega) HN1.out).mono ?_
  rintro e w1 ⟨v1, rfl, ho1, hb1, hk1⟩
  have hbx : w1.heap[w.heap.size]? = some (.cells #[.int .i64 k, .int .i64 n, .string s, .slice A m c, .slice B p e] 31 (0, 0)) := hk1 _ _ (heap_alloc_new _ _) (fun cs z e => by injection e with _ e; revert e; decide)
  have hbb := hb0.trans hb1
  have hz1 := hb1.size
  simp only [World.size_alloc] at hz1
  obtain ⟨b0, b1, b2, b3, b4, f0, f1, f2, f3, f4⟩ := lit5 hbx
  have HBX := Lib.hid hbx
  have HK1 := Lib.hid ((KB.alloc w (.cells #[.int .i64 k, .int .i64 n, .string s, .slice A m c, .slice B p e] 31)).trans hk1)
  clear hbx hb1 hk1
  go_wp2_with fail
  go_loopw [0, 15] (fun x y wr => ∃ (j : Nat) (l' : List UInt8), y = .int .i64 j ∧ j ≤ m ∧ OB wr base x l' ∧ Hid (l' ++ V.encs (k == 5) (its.drop j) (ks.drop j) = L) ∧ Hid (wr.heap[w.heap.size]? = some (.cells #[.int .i64 k, .int .i64 n, .string s, .slice A m c, .slice B p e] 31 (0, 0))) ∧ Below base w wr ∧ w.heap.size < wr.heap.size ∧ Hid (KB w wr)) (fun _ y _ => m - (intOf y).toNat)
  case atStart => exact ⟨0, _, rfl, by omega, ho1, Lib.hid (by rw [HLL.out, List.append_assoc]; rfl), HBX, hbb, by omega, HK1⟩
  case round =>
    clear ho1 HBX hbb hz1 b0 b1 b2 b3 b4 f0 f1 f2 f3 f4
    obtain ⟨j, l', rfl, hj, hob', HE, HBX, hb, hz1, HKB⟩ := hrel
    by_cases hlt : j < m
    · rcases hk with rfl | rfl
      · -- a list
        obtain ⟨b, off, kk, ii, ss, x, y, rfl, c0, c1, c2, c3, c4, hv⟩ := HI.out.item hb (by omega) hlt
        obtain ⟨A1, n1', cc1, B1, m1', e1', rfl, rfl⟩ := hv.cells
        obtain ⟨b0, b1, b2, b3, b4, f0, f1, f2, f3, f4⟩ := lit5 HBX.out
        have hbo := hb.size
        have hstep := V.encs_step (m := (4 : Int) == 5) (its := its) (ks := ks) (i := j) (by rw [HL.out]; exact hlt)
        have hwj := V.wfs_get HWI.out j (by rw [HL.out]; exact hlt)
        generalize hq : its.getD j default = q at *
        have HQ := Lib.hid hq; have HS := Lib.hid hstep; have HWJ := Lib.hid hwj
        clear hq hstep hwj
        have hS2 : V.encs ((4 : Int) == 5) (its.drop j) (ks.drop j) = q.encv ++ V.encs ((4 : Int) == 5) (its.drop (j + 1)) (ks.drop (j + 1)) := by rw [HS.out]; rfl
        have HS2 := Lib.hid hS2
        clear hS2
        go_wp2_with fail
        refine (IH.out _ l' base _ _ _ _ _ (hob'.alloc _) (hv.alloc (by omega) _) hhi (by simp; omega) HWJ.out ?_).mono ?_
        · have := congrArg List.length HE.out
          have := HB.out
          rw [HS2.out] at *
          simp only [List.length_append] at *
          omega
        rintro e w2 ⟨v2, rfl, ho2, hb2, hk2⟩
        have hb3 := (hb.alloc (by omega) (.cells #[.int .i64 kk, .int .i64 ii, .string ss, .slice A1 n1' cc1, .slice B1 m1' e1'] 31)).trans hb2
        have hz2 := hb2.size
        simp only [World.size_alloc] at hz2
        have HBX2 := Lib.hid (hk2 w.heap.size _ (by rw [Below.heap_alloc _ _ _ (by omega)]; exact HBX.out) (fun cs z e => by injection e with _ e; revert e; decide))
        have HKB2 := Lib.hid ((HKB.out.trans (KB.alloc wr _)).trans hk2)
        clear c0 c1 c2 c3 c4 hv b0 b1 b2 b3 b4 f0 f1 f2 f3 f4 hk2 hb2
        go_wp2_with fail
        go_roundw
        case rel => exact ⟨j + 1, _, by go_num, by omega, ho2, Lib.hid (by rw [List.append_assoc, ← HS2.out]; exact HE.out), HBX2, hb3, by omega, HKB2⟩
        case measure => simp [intOf]; omega
      · -- a map
        have hpm : p = m := HM.out rfl
        subst hpm
        obtain ⟨b9, off9, rfl, c9⟩ := HK.out.item hb (by omega) hlt
        have hlt9 := World.block_lt_of_cell? wr _ c9
        simp only at hlt9
        obtain ⟨b, off, kk, ii, ss, x, y, rfl, c0, c1, c2, c3, c4, hv⟩ := HI.out.item hb (by omega) hlt
        obtain ⟨A1, n1', cc1, B1, m1', e1', rfl, rfl⟩ := hv.cells
        obtain ⟨b0, b1, b2, b3, b4, f0, f1, f2, f3, f4⟩ := lit5 HBX.out
        have hbo := hb.size
        have hstep := V.encs_step (m := (5 : Int) == 5) (its := its) (ks := ks) (i := j) (by rw [HL.out]; exact hlt)
        have hwj := V.wfs_get HWI.out j (by rw [HL.out]; exact hlt)
        generalize hq : its.getD j default = q at *
        have HQ := Lib.hid hq; have HS := Lib.hid hstep; have HWJ := Lib.hid hwj
        clear hq hstep hwj
        generalize hx : ks.getD j ByteArray.empty = kx at *
        have HX := Lib.hid hx
        clear hx
        have hS2 : V.encs ((5 : Int) == 5) (its.drop j) (ks.drop j) = M.sby kx ++ (q.encv ++ V.encs ((5 : Int) == 5) (its.drop (j + 1)) (ks.drop (j + 1))) := by rw [HS.out]; rfl
        have HS2 := Lib.hid hS2
        clear hS2
        have hLn : (l' ++ M.sby kx).length ≤ 140737488355000 ∧ ((l' ++ M.sby kx) ++ q.encv).length ≤ 140737488355000 := by
          have e1 := congrArg List.length HE.out
          have e2 := HB.out
          rw [HS2.out] at e1
          simp only [List.length_append] at *
          omega
        have HLn := Lib.hid hLn
        clear hLn
        go_wp2_with fail
        refine (valText_any base _ l' kx _ (hob'.alloc _) (by simp; omega) HLn.out.1).mono ?_
        rintro e w1 ⟨v1, rfl, ho1, hb1, hk1⟩
        have hb1' := (hb.alloc (by omega) (.cells #[.int .i64 kk, .int .i64 ii, .string ss, .slice A1 n1' cc1, .slice B1 m1' e1'] 31)).trans hb1
        have hz3 := hb1.size
        simp only [World.size_alloc] at hz3
        have hX : w1.heap[wr.heap.size]? = some (.cells #[.int .i64 kk, .int .i64 ii, .string ss, .slice A1 n1' cc1, .slice B1 m1' e1'] 31 (0, 0)) := hk1 _ _ (heap_alloc_new _ _) (fun cs z e => by injection e with _ e; revert e; decide)
        have hBX1 := hk1 w.heap.size _ (by rw [Below.heap_alloc _ _ _ (by omega)]; exact HBX.out) (fun cs z e => by injection e with _ e; revert e; decide)
        have HKB1 := Lib.hid ((HKB.out.trans (KB.alloc wr _)).trans hk1)
        have hv1 := (hv.alloc (by omega) (.cells #[.int .i64 kk, .int .i64 ii, .string ss, .slice A1 n1' cc1, .slice B1 m1' e1'] 31)).later hb1 (by omega)
        clear c0 c1 c2 c3 c4 hv b0 b1 b2 b3 b4 f0 f1 f2 f3 f4 hk1 hb1 c9
        obtain ⟨c0, c1, c2, c3, c4, _⟩ := lit5 hX
        have HXX := Lib.hid hX; have HBX1 := Lib.hid hBX1
        clear hX hBX1
        go_wp2_with fail
        refine (IH.out _ _ base _ _ _ _ _ ho1 hv1 hhi (by omega) HWJ.out HLn.out.2).mono ?_
        rintro e w2 ⟨v2, rfl, ho2, hb2, hk2⟩
        have hb3 := hb1'.trans hb2
        have hz2 := hb2.size
        have HKB2 := Lib.hid (HKB1.out.trans hk2)
        have HBX2 := Lib.hid (hk2 w.heap.size _ HBX1.out (fun cs z e => by injection e with _ e; revert e; decide))
        clear c0 c1 c2 c3 c4 hv1 hk2 hb2 hb1'
        go_wp2_with fail
        go_roundw
        case rel => exact ⟨j + 1, _, by go_num, by omega, ho2, Lib.hid (by rw [List.append_assoc, List.append_assoc, ← HS2.out]; exact HE.out), HBX2, hb3, by omega, HKB2⟩
        case measure => simp [intOf]; omega
    · go_wp2_with fail
      go_ret
      have he := HE.out
      rw [V.encs_end (by rw [HL.out]; omega), List.append_nil] at he
      subst he
      exact ⟨_, rfl, hob', hb, HKB.out⟩


set_option maxRecDepth 100000 in
set_option maxHeartbeats 2000000 in
theorem enc_step (d : Nat) (ih : encAt d) : encAt (d + 1) := by
  intro vb l base v t lo hi w hob h hhi hbase hw hb
  have HIT := Lib.hid (encItems_any ih)
  obtain ⟨k, n, s, its, ks⟩ := t
  have h0 := h
  obtain ⟨A, m, c, B, p, e, rfl, k1, k2, n1, n2, s1, hI, hK⟩ := h
  simp only [V.k, V.n, V.s, V.its, V.ks] at hI hK k1 k2 n1 n2 s1 h0 ⊢
  have H0 := Lib.hid h0
  have HW := Lib.hid hw
  have hb0 : Below base w (w.alloc (.cells #[.int .i64 k, .int .i64 n, .string s, .slice A m c, .slice B p e] 31)) := (Below.refl _ _).alloc hbase _
  clear hI hK h0 hw ih
  obtain ⟨L, hL⟩ : ∃ L, L = V.encv (.mk k n s its ks) := ⟨_, rfl⟩
  rw [← hL] at hb ⊢
  have hn1 : (l ++ M.enc (M.zig k)).length ≤ 140737488355000 := by
    rw [hL, V.encv, ← List.append_assoc, List.length_append] at hb; omega
  have HL := Lib.hid hL; have HB := Lib.hid hb; have HN1 := Lib.hid hn1
  clear hL hb hn1
  by_cases c1 : k = 1 ∨ k = 2 ∨ k = 6
  · have HE : Hid (L = M.enc (M.zig k) ++ M.enc (M.zig n)) := Lib.hid (by rw [HL.out, V.enc_int c1])
    have HN2 : Hid (((l ++ M.enc (M.zig k)) ++ M.enc (M.zig n)).length ≤ 140737488355000) := Lib.hid (by rw [List.append_assoc, ← HE.out]; exact HB.out)
    rcases c1 with rfl | rfl | rfl
    all_goals
      go_enter Tryz.func37, Tryz.ntmps37
      go_wp2_with fail
      refine (valInt_any base vb l _ _ (hob.alloc _) (by simp; omega) k1 k2 HN1.out).mono ?_
      rintro e w1 ⟨v1, rfl, ho1, hb1, hk1⟩
      have hbx := hk1 _ _ (heap_alloc_new _ _) (fun cs z e => by injection e with _ e; revert e; decide)
      have hbb := hb0.trans hb1
      have hz1 := hb1.size
      simp only [World.size_alloc] at hz1
      obtain ⟨b0, b1, b2, b3, b4, f0, f1, f2, f3, f4⟩ := lit5 hbx
      have HBX := Lib.hid hbx; have HKB := Lib.hid ((KB.alloc w _).trans hk1)
      clear hbx hk1 hb1
      go_wp2_with fail
      refine (valInt_any base v1 _ n _ ho1 (by omega) n1 n2 HN2.out).mono ?_
      rintro e w2 ⟨v2, rfl, ho2, hb2, hk2⟩
      go_wp2_with fail
      go_ret
      exact ⟨_, rfl, by rw [HE.out, ← List.append_assoc]; exact ho2, hbb.trans hb2, HKB.out.trans hk2⟩
  by_cases c3 : k = 3
  · subst c3
    have HE : Hid (L = M.enc (M.zig 3) ++ M.sby s) := Lib.hid (by rw [HL.out, V.enc_text])
    have HN2 : Hid (((l ++ M.enc (M.zig 3)) ++ M.sby s).length ≤ 140737488355000) := Lib.hid (by rw [List.append_assoc, ← HE.out]; exact HB.out)
    clear c1
    go_enter Tryz.func37, Tryz.ntmps37
    go_wp2_with fail
    refine (valInt_any base vb l _ _ (hob.alloc _) (by simp; omega) k1 k2 HN1.out).mono ?_
    rintro e w1 ⟨v1, rfl, ho1, hb1, hk1⟩
    have hbx := hk1 _ _ (heap_alloc_new _ _) (fun cs z e => by injection e with _ e; revert e; decide)
    have hbb := hb0.trans hb1
    have hz1 := hb1.size
    simp only [World.size_alloc] at hz1
    obtain ⟨b0, b1, b2, b3, b4, f0, f1, f2, f3, f4⟩ := lit5 hbx
    have HBX := Lib.hid hbx; have HKB := Lib.hid ((KB.alloc w _).trans hk1)
    clear hbx hk1 hb1
    go_wp2_with fail
    refine (valText_any base v1 _ s _ ho1 (by omega) HN2.out).mono ?_
    rintro e w2 ⟨v2, rfl, ho2, hb2, hk2⟩
    go_wp2_with fail
    go_ret
    exact ⟨_, rfl, by rw [HE.out, ← List.append_assoc]; exact ho2, hbb.trans hb2, HKB.out.trans hk2⟩
  by_cases c4 : k = 4 ∨ k = 5
  · have HE : Hid (L = M.enc (M.zig k) ++ (M.enc (M.zig (its.length : Int)) ++ V.encs (k == 5) its ks)) := Lib.hid (by rw [HL.out, V.enc_items c4])
    have HN2 : Hid (((l ++ M.enc (M.zig k)) ++ (M.enc (M.zig (its.length : Int)) ++ V.encs (k == 5) its ks)).length ≤ 140737488355000) := Lib.hid (by rw [List.append_assoc, ← HE.out]; exact HB.out)
    clear c1 c3
    have HC := Lib.hid c4
    rcases c4 with rfl | rfl
    all_goals
      go_enter Tryz.func37, Tryz.ntmps37
      go_wp2_with fail
      refine (valInt_any base vb l _ _ (hob.alloc _) (by simp; omega) k1 k2 HN1.out).mono ?_
      rintro e w1 ⟨v1, rfl, ho1, hb1, hk1⟩
      have hbx := hk1 _ _ (heap_alloc_new _ _) (fun cs z e => by injection e with _ e; revert e; decide)
      have hbb := hb0.trans hb1
      have hz1 := hb1.size
      simp only [World.size_alloc] at hz1
      obtain ⟨b0, b1, b2, b3, b4, f0, f1, f2, f3, f4⟩ := lit5 hbx
      have HBX := Lib.hid hbx; have HKB := Lib.hid ((KB.alloc w _).trans hk1)
      clear hbx hk1 hb1
      go_wp2_with fail
      refine (HIT.out v1 _ base _ _ _ _ _ ho1 (H0.out.later hbb hhi) hhi (by omega) HW.out (by simp [V.k]) HN2.out).mono ?_
      rintro e w2 ⟨v2, rfl, ho2, hb2, hk2⟩
      go_wp2_with fail
      go_ret
      exact ⟨_, rfl, by rw [HE.out, ← List.append_assoc]; exact ho2, hbb.trans hb2, HKB.out.trans hk2⟩
  · have e1 : (k == 1) = false := by rw [beq_eq_false_iff_ne]; omega
    have e2 : (k == 2) = false := by rw [beq_eq_false_iff_ne]; omega
    have e3 : (k == 3) = false := by rw [beq_eq_false_iff_ne]; omega
    have e4 : (k == 4) = false := by rw [beq_eq_false_iff_ne]; omega
    have e5 : (k == 5) = false := by rw [beq_eq_false_iff_ne]; omega
    have e6 : (k == 6) = false := by rw [beq_eq_false_iff_ne]; omega
    have HE : Hid (L = M.enc (M.zig k)) := Lib.hid (by rw [HL.out, V.enc_none (by omega) (by omega) c3 (by omega) (by omega) (by omega)])
    clear c1 c3 c4
    go_enter Tryz.func37, Tryz.ntmps37
    go_wp2_with fail
    refine (valInt_any base vb l _ _ (hob.alloc _) (by simp; omega) k1 k2 HN1.out).mono ?_
    rintro e w1 ⟨v1, rfl, ho1, hb1, hk1⟩
    have hbx := hk1 _ _ (heap_alloc_new _ _) (fun cs z e => by injection e with _ e; revert e; decide)
    have hbb := hb0.trans hb1
    have hz1 := hb1.size
    simp only [World.size_alloc] at hz1
    obtain ⟨b0, b1, b2, b3, b4, f0, f1, f2, f3, f4⟩ := lit5 hbx
    have HBX := Lib.hid hbx; have HKB := Lib.hid ((KB.alloc w _).trans hk1)
    clear hbx hk1 hb1
    go_wp2_with fail
    go_ret
    exact ⟨_, rfl, by rw [HE.out]; exact ho1, hbb, HKB.out⟩

theorem enc_at : ∀ d, encAt d
  | 0 => fun _ _ _ _ _ _ _ _ _ h _ _ _ _ => h.elim
  | d + 1 => enc_step d (enc_at d)

/-- What Encode appends. -/
noncomputable def V.code (t : V) : List UInt8 := if t.wf = true then t.encv else []

set_option maxRecDepth 100000 in
set_option maxHeartbeats 1000000 in
theorem encodeX {A' : Option Addr} {n' c' lo' hi' : Nat} {l : List UInt8} {v : Value} {t : V} {lo hi : Nat} {w : World} (hr : RB w lo' hi' A' n' c' l) (hhi' : hi' ≤ w.heap.size) (h : VX w lo hi v t) (hhi : hi ≤ w.heap.size) (hb : (l ++ V.code t).length ≤ 140737488355000) :
    Calls Tryz.prog 17 #[.slice A' n' c', v] w fun e w' => ∃ v', e = .returned v' ∧ OB w' w.heap.size v' (l ++ V.code t) ∧ Below w.heap.size w w' := by
  obtain ⟨A, m, c, B, p, e, rfl⟩ := h.form
  have hl := hr.len
  have hln : n' ≤ 140737488355000 := by rw [List.length_append] at hb; omega
  have HLn := Lib.hid hl
  clear hl
  have HB := Lib.hid hb
  clear hb
  have hb0 := box_refl w (.cells #[.int .i64 t.k, .int .i64 t.n, .string t.s, .slice A m c, .slice B p e] 31)
  go_enter Tryz.func17, Tryz.ntmps17
  go_wp2_with (at_builtin; refine wpList_append_kb rfl _ _ rfl (w.heap.size + 1) _ [] rfl (OB.empty _ _) lo' hi' A' n' c' l rfl (hr.alloc hhi' _) ?c1 ?c2 ?_)
  case c1 => simp; omega
  case c2 => simp
  intro v1 w1 ho1 hb1 hk1
  have hb2 := hb0.trans hb1
  have hz1 := box_size hb2
  obtain ⟨b0, b1, b2, b3, b4⟩ := box5 hb2
  go_wp2_with fail
  refine (wfX (h.later (box_below hb2) hhi) (by omega)).mono ?_
  rintro e w2 ⟨rfl, hb3⟩
  have hb4 := box_step hb2 hb3
  have hz2 := box_size hb4
  have ho2 := ho1.below hb3 (Nat.le_refl _)
  clear b0 b1 b2 b3 b4
  obtain ⟨b0, b1, b2, b3, b4⟩ := box5 hb4
  cases hw : t.wf with
  | false =>
    have HW := Lib.hid hw
    clear hw
    go_wp2_with fail
    go_ret
    exact ⟨_, rfl, by unfold V.code; rw [HW.out]; simpa using ho2.weak (Nat.le_succ _), box_below hb4⟩
  | true =>
    have HW := Lib.hid hw
    clear hw
    obtain ⟨d, hd⟩ := h.later (box_below hb4) hhi
    have hcd : V.code t = t.encv := by unfold V.code; rw [HW.out]; simp
    have HB2 : Hid ((l ++ t.encv).length ≤ 140737488355000) := Lib.hid (by rw [← hcd]; exact HB.out)
    have HCD := Lib.hid hcd
    clear hcd
    go_wp2_with fail
    refine (enc_at d v1 l w.heap.size _ t lo hi _ (ho2.weak (Nat.le_succ _)) hd hhi (by omega) HW.out HB2.out).mono ?_
    rintro e w3 ⟨v3, rfl, ho3, hb5, hk5⟩
    go_wp2_with fail
    go_ret
    exact ⟨_, rfl, by rw [HCD.out]; exact ho3, (box_below hb4).trans hb5⟩
end Go.Proofs.YtkodmhopollnpaaGreat
