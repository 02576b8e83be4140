/-
  What came in, read: a value of the chapter, and how long its encoding can be.
-/
import Derived.Test.YthmlpogflllcnaaVMem3
import Derived.Test.YthmlpogflllcnaaVal6
import Derived.Test.YthmlpogflllcnaaRows
import Derived.Test.YthmlpogflllcnaaVOpen
import Derived.ProofKit
import Derived.SizedLaws
import Derived.Deep.Slices
import Derived.OpenShut
namespace Go.Proofs.Ythmlpogflllcnaa
set_option linter.unusedVariables false
set_option linter.constructorNameAsVariable false
open Go.RowKit Go.ChangeShapes Go.WideShapes
open M (V)


/-- What a list of keys takes at the most. -/
def ksum (ks : List ByteArray) : Nat := (ks.map fun k => (M.sby k).length).sum
def isum (its : List V) : Nat := (its.map fun x => x.encv.length + 1).sum
theorem encs_len (m : Bool) : ∀ (its : List V) (ks : List ByteArray), (V.encs m its ks).length ≤ isum its + ksum ks
  | [], ks => by rw [V.encs]; exact Nat.zero_le _
  | x :: r, [] => by
    rw [V.encs]
    have h := encs_len m r []
    have e : (M.sby ([].headD ByteArray.empty)).length = 1 := by
      have e0 : M.enc 0 = [UInt8.ofNat 0] := by rw [M.enc, if_pos (by decide)]
      simp [M.sby, M.zig, e0]
    simp only [isum, List.map_cons, List.sum_cons, List.length_append, List.tail_nil] at h ⊢
    split
    · omega
    · simp only [List.length_nil]; omega
  | x :: r, k :: ks => by
    rw [V.encs]
    have h := encs_len m r ks
    simp only [isum, ksum, List.map_cons, List.sum_cons, List.length_append, List.tail_cons, List.headD_cons] at h ⊢
    split
    · omega
    · simp only [List.length_nil]; omega
theorem enc10 (n : Int) (h1 : -9223372036854775808 ≤ n) (h2 : n ≤ 9223372036854775807) : (M.enc (M.zig n)).length ≤ 10 := (M.enc_len _ (M.zig_lt n h1 h2)).2
theorem sby_len (s : ByteArray) (h : s.size ≤ 140737488351232) : (M.sby s).length ≤ 10 + s.data.toList.length := by
  have e : s.data.toList.length = s.size := Array.length_toList
  have := enc10 (s.data.toList.length : Int) (by omega) (by omega)
  simp only [M.sby, List.length_append]; omega
theorem encv_len (k n : Int) (s : ByteArray) (its : List V) (ks : List ByteArray) (k1 : -9223372036854775808 ≤ k) (k2 : k ≤ 9223372036854775807) (n1 : -9223372036854775808 ≤ n) (n2 : n ≤ 9223372036854775807) (hs : s.size ≤ 140737488351232) (hi : its.length ≤ 9223372036854775807) :
    (V.encv (.mk k n s its ks)).length ≤ 30 + s.data.toList.length + isum its + ksum ks := by
  rw [V.encv]
  have a1 := enc10 k k1 k2
  have a2 := enc10 n n1 n2
  have a3 := sby_len s hs
  have a4 := enc10 (its.length : Int) (by omega) (by omega)
  have a5 := encs_len (k == 5) its ks
  rw [List.length_append]
  split
  · omega
  · split
    · omega
    · split
      · rw [List.length_append]; omega
      · simp only [List.length_nil]; omega
theorem isum_le {H : Type} : ∀ (l : List V) (ds : List (DataW H)), l.length = ds.length → (∀ i d, ds[i]? = some d → (l.getD i default).encv.length + 1 ≤ 60 * Rows.uptoBulk d) → isum l ≤ 60 * Rows.uptoBulkAll ds
  | [], ds, _, _ => Nat.zero_le _
  | x :: l, [], h, _ => by simp at h
  | x :: l, d :: ds, h, h2 => by
    have h3 := h2 0 d rfl
    have h4 := isum_le l ds (by simpa using h) (fun i d hd => by simpa using h2 (i + 1) d (by simpa using hd))
    simp only [isum, List.map_cons, List.sum_cons, Rows.uptoBulkAll] at h4 ⊢
    simp only [List.getD_cons_zero] at h3
    omega
theorem ksum_le {H : Type} : ∀ (l : List ByteArray) (ds : List (DataW H)), l.length = ds.length → (∀ i d, ds[i]? = some d → (M.sby (l.getD i ByteArray.empty)).length ≤ 60 * Rows.uptoBulk d) → ksum l ≤ 60 * Rows.uptoBulkAll ds
  | [], ds, _, _ => Nat.zero_le _
  | x :: l, [], h, _ => by simp at h
  | x :: l, d :: ds, h, h2 => by
    have h3 := h2 0 d rfl
    have h4 := ksum_le l ds (by simpa using h) (fun i d hd => by simpa using h2 (i + 1) d (by simpa using hd))
    simp only [ksum, List.map_cons, List.sum_cons, Rows.uptoBulkAll] at h4 ⊢
    simp only [List.getD_cons_zero] at h3
    omega

section
variable {H : Type} {enc : TypeId × Value → H} {P : Program} {W : World} {sp : Nat → Bool} {hd : Bool} {fuel : Nat}
theorem open_sl2 {t e : TypeId} {cs : List Value} {x : DataW H × List MemPlace} (ht : P.underlying t = some (.slice e)) (h : DataW.trod enc P W 0 sp hd fuel t cs = some x) (hz : Sz P t x.1) :
    cs = [.slice none 0 0] ∨ ∃ (a : Addr) (len cap n : Nat) (ds rest : List (DataW H)), fuel = n + 1 ∧ cs = [.slice (some a) len cap] ∧ x.1 = .slice ds rest ∧ ds.length = len ∧ len ≤ cap ∧ len * P.bytesOf e ≤ reachBytes ∧
      ∀ i, i < len → ∃ cs' y, W.cells? 0 (a.add (i * P.cellsOf e)) (P.cellsOf e) = some cs' ∧ DataW.trod enc P W 0 sp hd n e cs' = some y ∧ Sz P e y.1 ∧ ds[i]? = some y.1 := by
  rcases DataW.trod_slice ht h with ⟨h0, _⟩ | ⟨a, len, cap, elems, rest, n, rfl, rfl, rfl, _, hl, _, hlen, hel, _, _⟩
  · exact .inl h0
  right
  refine ⟨a, len, cap, n, _, _, rfl, rfl, rfl, by simpa using hlen, hl, ?_, fun i hi => ?_⟩
  · have := hz _ (by simp only [DataW.weights, ht]; exact List.mem_cons_self ..)
    refine Nat.le_trans (Nat.mul_le_mul_right _ ?_) this
    simp only [List.length_map]
    omega
  · have h1 := hel i hi
    have hil : i < elems.length := by omega
    rw [List.getElem?_eq_getElem hil] at h1
    obtain ⟨cs', hc, hy⟩ := Option.bind_eq_some_iff.1 h1
    refine ⟨cs', _, hc, hy, fun m hm => hz m ?_, by simp [List.getElem?_eq_getElem hil]⟩
    simp only [DataW.weights, ht, List.mem_cons, List.mem_append]
    exact .inr (.inl (all_mem (i := i) (by simp [List.getElem?_eq_getElem hil]) m hm))
end

section
variable {H : Type} {enc : TypeId × Value → H} {W : World} {sp : Nat → Bool} {hd : Bool}
theorem bulk_one (d : DataW H) : 1 ≤ Rows.uptoBulk d := by cases d with
  | lit l => cases l <;> simp [Rows.uptoBulk]
  | _ => simp [Rows.uptoBulk]
theorem ks_open2 {fuel : Nat} {cs : List Value} {x : DataW H × List MemPlace} (h : DataW.trod enc Try.prog W 0 sp hd fuel 22 cs = some x) (hz : Sz Try.prog 22 x.1) :
    ∃ A n c l, cs = [.slice A n c] ∧ KS W 0 W.heap.size A n c l ∧ ksum l ≤ 60 * Rows.uptoBulk x.1 := by
  rcases open_sl2 Try.underlying22 h hz with rfl | ⟨a, len, cap, n, ds, rest, _, rfl, hx, hds, hl, hb, hi⟩
  · exact ⟨none, 0, 0, [], rfl, KS.nil_ _ _ _, Nat.zero_le _⟩
  · rw [size_str] at hi
    rw [bytes_str, reach_n] at hb
    have one : ∀ i, ∃ s : ByteArray, i < len → W.cell? (a.add i) = some (.string s) ∧ s.size ≤ 140737488351232 ∧ ∀ d, ds[i]? = some d → (M.sby s).length ≤ 60 * Rows.uptoBulk d := fun i => by
      by_cases hil : i < len
      · obtain ⟨cs', y, hc, hy, hs, hsd⟩ := hi i hil
        obtain ⟨s, rfl, hy1, _⟩ := DataW.trod_string Try.underlying9 hy
        obtain ⟨_, _, hat⟩ := World.cells?_some hc
        have h0 := hat 0 (by omega)
        rw [Nat.mul_one, Go.Deep.add_add, Nat.add_zero] at h0
        have h2 : s.size ≤ 140737488351232 := by
          have := hs s.data.toList.length (by rw [hy1]; simp [DataW.weights])
          rw [reach_n] at this
          simpa using this
        refine ⟨s, fun _ => ⟨h0, h2, fun d hd => ?_⟩⟩
        rw [hsd] at hd
        injection hd with hd
        subst hd
        have h3 := sby_len s h2
        rw [hy1]
        simp only [Rows.uptoBulk]
        omega
      · exact ⟨ByteArray.empty, fun h => absurd h hil⟩
    obtain ⟨f, hf⟩ := Classical.axiomOfChoice one
    have hg : ∀ j, j < len → ((List.range len).map f).getD j ByteArray.empty = f j := fun j hj => by simp [List.getD, hj]
    obtain ⟨b, off, spot⟩ := a
    have hbk : ksum ((List.range len).map f) ≤ 60 * Rows.uptoBulk x.1 := by
      have := ksum_le ((List.range len).map f) ds (by simpa using hds.symm) (fun i d hd => by
        have hi' : i < len := by rw [← hds]; exact (List.getElem?_eq_some_iff.1 hd).1
        rw [hg i hi']; exact (hf i hi').2.2 d hd)
      rw [hx]; simp only [Rows.uptoBulk]; omega
    refine ⟨_, _, _, (List.range len).map f, rfl, ⟨by simp, hl, by omega, (fun e => by cases e), fun j hj => ?_, fun hn => ?_⟩, hbk⟩
    · rw [hg j hj]; exact (hf j hj).2.1
    · have h00 := (hf 0 hn).1
      have hs : spot = none := by simpa [Addr.add] using World.cell?_spot h00
      subst hs
      refine ⟨b, off, rfl, Nat.zero_le _, World.block_lt_of_cell? W _ h00, fun j hj => ?_⟩
      rw [hg j hj, ← (hf j hj).1, Addr.add_lit]

def OpenV2 (enc : TypeId × Value → H) (W : World) (sp : Nat → Bool) (hd : Bool) (fuel : Nat) : Prop := ∀ (cs : List Value) (x : DataW H × List MemPlace), DataW.trod enc Try.prog W 0 sp hd fuel 26 cs = some x → Sz Try.prog 26 x.1 →
  ∃ (k n : Int) (s : ByteArray) (A : Option Addr) (m c : Nat) (B : Option Addr) (p e : Nat) (t : V), cs = [.int .i64 k, .int .i64 n, .string s, .slice A m c, .slice B p e] ∧ VB W 0 W.heap.size fuel (.agg #[.int .i64 k, .int .i64 n, .string s, .slice A m c, .slice B p e]) t ∧ t.encv.length + 1 ≤ 60 * Rows.uptoBulk x.1

theorem is_open2 {fuel : Nat} (IH : ∀ n, n < fuel → OpenV2 enc W sp hd n) {cs : List Value} {x : DataW H × List MemPlace} (h : DataW.trod enc Try.prog W 0 sp hd fuel 23 cs = some x) (hz : Sz Try.prog 23 x.1) :
    ∃ A n c l, cs = [.slice A n c] ∧ IS W 0 W.heap.size (VB W 0 W.heap.size fuel) A n c l ∧ isum l ≤ 60 * Rows.uptoBulk x.1 := by
  rcases open_sl2 Try.underlying23 h hz with rfl | ⟨a, len, cap, n, ds, rest, rfl, rfl, hx, hds, hl, hb, hi⟩
  · exact ⟨none, 0, 0, [], rfl, IS.nil_ _ _ _ _, Nat.zero_le _⟩
  · rw [size_val] at hi
    rw [bytes_val, reach_n] at hb
    have one : ∀ i, ∃ t : V, i < len → ∃ (k n' : Int) (s : ByteArray) (x y : Value), W.cell? (a.add (i * 5)) = some (.int .i64 k) ∧ W.cell? (a.add (i * 5 + 1)) = some (.int .i64 n') ∧ W.cell? (a.add (i * 5 + 2)) = some (.string s) ∧
        W.cell? (a.add (i * 5 + 3)) = some x ∧ W.cell? (a.add (i * 5 + 4)) = some y ∧ VB W 0 W.heap.size (n + 1) (.agg #[.int .i64 k, .int .i64 n', .string s, x, y]) t ∧ ∀ d, ds[i]? = some d → t.encv.length + 1 ≤ 60 * Rows.uptoBulk d := fun i => by
      by_cases hil : i < len
      · obtain ⟨cs', y, hc, hy, hs, hsd⟩ := hi i hil
        obtain ⟨k, n', s, A, m, c, B, p, e, t, rfl, hv, hbk⟩ := IH n (Nat.lt_succ_self _) _ _ hy hs
        obtain ⟨_, _, hat⟩ := World.cells?_some hc
        have a0 := hat 0 (by omega)
        have a1 := hat 1 (by omega)
        have a2 := hat 2 (by omega)
        have a3 := hat 3 (by omega)
        have a4 := hat 4 (by omega)
        rw [Go.Deep.add_add] at a0 a1 a2 a3 a4
        exact ⟨t, fun _ => ⟨k, n', s, _, _, a0, a1, a2, a3, a4, hv.up (Nat.le_succ _), fun d hd => by rw [hsd] at hd; injection hd with hd; subst hd; exact hbk⟩⟩
      · exact ⟨default, fun h => absurd h hil⟩
    obtain ⟨f, hf⟩ := Classical.axiomOfChoice one
    have hg : ∀ j, j < len → ((List.range len).map f).getD j default = f j := fun j hj => by simp [List.getD, hj]
    obtain ⟨b, off, spot⟩ := a
    have hbk : isum ((List.range len).map f) ≤ 60 * Rows.uptoBulk x.1 := by
      have := isum_le ((List.range len).map f) ds (by simpa using hds.symm) (fun i d hd => by
        have hi' : i < len := by rw [← hds]; exact (List.getElem?_eq_some_iff.1 hd).1
        obtain ⟨_, _, _, _, _, _, _, _, _, _, _, h9⟩ := hf i hi'
        rw [hg i hi']; exact h9 d hd)
      rw [hx]; simp only [Rows.uptoBulk]; omega
    refine ⟨_, _, _, (List.range len).map f, rfl, ⟨by simp, hl, by omega, (fun e => by cases e), fun hn => ?_⟩, hbk⟩
    obtain ⟨k, n', s, x, y, h00, _⟩ := hf 0 hn
    have hs : spot = none := by simpa [Addr.add] using World.cell?_spot h00
    subst hs
    refine ⟨b, off, rfl, Nat.zero_le _, World.block_lt_of_cell? W _ h00, fun j hj => ?_⟩
    obtain ⟨k, n', s, x, y, q0, q1, q2, q3, q4, hv, _⟩ := hf j hj
    rw [Addr.add_lit] at q0 q1 q2 q3 q4
    rw [hg j hj]
    exact ⟨k, n', s, x, y, q0, by rw [Nat.add_assoc]; exact q1, by rw [Nat.add_assoc]; exact q2, by rw [Nat.add_assoc]; exact q3, by rw [Nat.add_assoc]; exact q4, hv⟩

set_option maxRecDepth 100000 in
theorem openV2 : ∀ fuel, OpenV2 enc W sp hd fuel := by
  intro fuel
  induction fuel using Nat.strongRecOn with
  | _ fuel IH =>
  intro cs x h hz
  obtain ⟨xs, n, rfl, hx, hlen, hxl, hg⟩ := DataW.trod_struct Try.underlying26 h
  rw [size_val] at hlen
  match cs, hlen with
  | [c0, c1, c2, c3, c4], _ =>
    match xs, hxl with
    | [y0, y1, y2, y3, y4], _ =>
      have g0 : DataW.trod enc Try.prog W 0 sp hd n 3 [c0] = some y0 := by simpa [size_int] using hg 0 _ rfl
      have g1 : DataW.trod enc Try.prog W 0 sp hd n 3 [c1] = some y1 := by simpa [size_int] using hg 1 _ rfl
      have g2 : DataW.trod enc Try.prog W 0 sp hd n 9 [c2] = some y2 := by simpa [size_str] using hg 2 _ rfl
      have g3 : DataW.trod enc Try.prog W 0 sp hd n 23 [c3] = some y3 := by simpa [size_vs] using hg 3 _ rfl
      have g4 : DataW.trod enc Try.prog W 0 sp hd n 22 [c4] = some y4 := by simpa [size_ss] using hg 4 _ rfl
      have hw : x.1.weights Try.prog 26 = DataW.weightsEach Try.prog [3, 3, 9, 23, 22] [y0.1, y1.1, y2.1, y3.1, y4.1] := by
        rw [hx]
        simp only [DataW.weights, Try.underlying26]
        rfl
      have z2 : Sz Try.prog 9 y2.1 := fun m hm => hz m (by rw [hw]; exact DataW.weights_mem_each (j := 2) rfl rfl m hm)
      have z3 : Sz Try.prog 23 y3.1 := fun m hm => hz m (by rw [hw]; exact DataW.weights_mem_each (j := 3) rfl rfl m hm)
      have z4 : Sz Try.prog 22 y4.1 := fun m hm => hz m (by rw [hw]; exact DataW.weights_mem_each (j := 4) rfl rfl m hm)
      obtain ⟨k, e0, _, w0⟩ := DataW.trod_int Try.underlying3 g0
      obtain ⟨i, e1, _, w1⟩ := DataW.trod_int Try.underlying3 g1
      obtain ⟨s, e2, hs, _⟩ := DataW.trod_string Try.underlying9 g2
      obtain ⟨A, m, c, its, e3, hI, bI⟩ := is_open2 (fun j hj => IH j (by omega)) g3 z3
      obtain ⟨B, p, e, ks, e4, hK, bK⟩ := ks_open2 g4 z4
      simp only [List.cons.injEq, and_true] at e0 e1 e2 e3 e4
      subst e0; subst e1; subst e2; subst e3; subst e4
      have hsz : s.size ≤ 140737488351232 := by
        have := z2 s.data.toList.length (by rw [hs]; simp [DataW.weights])
        rw [reach_n] at this
        simpa using this
      have b0 := bounds_i64 w0
      have b1 := bounds_i64 w1
      have hil : its.length ≤ 9223372036854775807 := by have := hI.len; have := hI.most; omega
      have hlen := encv_len k i s its ks b0.1 b0.2 b1.1 b1.2 hsz hil
      have u0 := bulk_one y0.1
      have u1 := bulk_one y1.1
      have hbb : (V.encv (.mk k i s its ks)).length + 1 ≤ 60 * Rows.uptoBulk x.1 := by
        rw [hx]
        simp only [List.map_cons, List.map_nil, Rows.uptoBulk, Rows.uptoBulkAll]
        rw [hs]
        simp only [Rows.uptoBulk]
        omega
      exact ⟨k, i, s, A, m, c, B, p, e, .mk k i s its ks, rfl, ⟨A, m, c, B, p, e, rfl, b0.1, b0.2, b1.1, b1.2, hsz, hI, hK⟩, hbb⟩

set_option maxRecDepth 100000 in
/-- An argument of the chapter's type reads as a tree. -/
theorem val_open2 {base : Nat} {v : Value} {d : DataW H} {ps : List MemPlace} (hv : Value.okWide Try.prog W .any base 26 v) (h : DataW.Trod enc Try.prog W 0 sp hd 26 v d ps) (hz : Sz Try.prog 26 d) : ∃ t, VX W 0 W.heap.size v t ∧ t.encv.length + 1 ≤ 60 * Rows.uptoBulk d := by
  obtain ⟨cs, rfl, _⟩ := okWide_struct Try.underlying26 hv
  obtain ⟨fuel, hf⟩ := h
  obtain ⟨k, n, s, A, m, c, B, p, e, t, hcs, ht, hbk⟩ := openV2 fuel _ _ hf hz
  obtain ⟨l⟩ := cs
  have hl : l = [.int .i64 k, .int .i64 n, .string s, .slice A m c, .slice B p e] := by simpa [Value.cells] using hcs
  subst hl
  exact ⟨t, ⟨_, ht⟩, hbk⟩
end
end Go.Proofs.Ythmlpogflllcnaa
