/-
  What came in, read: a value of the chapter.
-/
import Derived.Test.YtdkggnciamfcmaaGreatDoorVMem3
import Derived.ProofKit
import Derived.SizedLaws
import Derived.Deep.Slices
import Derived.OpenShut
namespace Go.Proofs.YtdkggnciamfcmaaGreatDoor
set_option linter.unusedVariables false
set_option linter.constructorNameAsVariable false
open Go.RowKit Go.ChangeShapes Go.WideShapes
open M (V)

/-- Every slice and string of a datum keeps the reach. -/
def Sz {H : Type} (P : Program) (t : TypeId) (d : DataW H) : Prop := ∀ n ∈ d.weights P t, n ≤ reachBytes

section
variable {H : Type} {enc : TypeId × Value → H} {P : Program} {W : World} {sp : Nat → Bool} {hd : Bool} {fuel : Nat}
theorem all_mem {e : TypeId} : ∀ {ds : List (DataW H)} {i : Nat} {d : DataW H}, ds[i]? = some d → ∀ n ∈ d.weights P e, n ∈ DataW.weightsAll P e ds
  | d0 :: ds, 0, d, h, n, hn => by
    simp only [List.getElem?_cons_zero, Option.some.injEq] at h
    subst h
    simp only [DataW.weightsAll, List.mem_append]
    exact .inl hn
  | d0 :: ds, i + 1, d, h, n, hn => by
    simp only [List.getElem?_cons_succ] at h
    simp only [DataW.weightsAll, List.mem_append]
    exact .inr (all_mem h n hn)
  | [], _, _, h, _, _ => by simp at h
theorem open_sl {t e : TypeId} {cs : List Value} {x : DataW H × List MemPlace} (ht : P.underlying t = some (.slice e)) (h : DataW.trod enc P W 0 sp hd fuel t cs = some x) (hz : Sz P t x.1) :
    cs = [.slice none 0 0] ∨ ∃ (a : Addr) (len cap n : Nat), fuel = n + 1 ∧ cs = [.slice (some a) len cap] ∧ len ≤ cap ∧ len * P.bytesOf e ≤ reachBytes ∧
      ∀ i, i < len → ∃ cs' y, W.cells? 0 (a.add (i * P.cellsOf e)) (P.cellsOf e) = some cs' ∧ DataW.trod enc P W 0 sp hd n e cs' = some y ∧ Sz P e y.1 := by
  rcases DataW.trod_slice ht h with ⟨h0, _⟩ | ⟨a, len, cap, elems, rest, n, rfl, rfl, rfl, _, hl, _, hlen, hel, _, _⟩
  · exact .inl h0
  right
  refine ⟨a, len, cap, n, rfl, rfl, hl, ?_, fun i hi => ?_⟩
  · have := hz _ (by simp only [DataW.weights, ht]; exact List.mem_cons_self ..)
    refine Nat.le_trans (Nat.mul_le_mul_right _ ?_) this
    simp only [List.length_map]
    omega
  · have h1 := hel i hi
    have hil : i < elems.length := by omega
    rw [List.getElem?_eq_getElem hil] at h1
    obtain ⟨cs', hc, hy⟩ := Option.bind_eq_some_iff.1 h1
    refine ⟨cs', _, hc, hy, fun m hm => hz m ?_⟩
    simp only [DataW.weights, ht, List.mem_cons, List.mem_append]
    exact .inr (.inl (all_mem (i := i) (by simp [List.getElem?_eq_getElem hil]) m hm))
end

section
variable {H : Type} {enc : TypeId × Value → H} {W : World} {sp : Nat → Bool} {hd : Bool}
theorem size_val : Tryz.prog.cellsOf 25 = 5 := by kernel_rfl
theorem bytes_val : Tryz.prog.bytesOf 25 = 80 := by kernel_rfl
theorem size_str : Tryz.prog.cellsOf 9 = 1 := by kernel_rfl
theorem bytes_str : Tryz.prog.bytesOf 9 = 16 := by kernel_rfl
theorem size_int : Tryz.prog.cellsOf 3 = 1 := by kernel_rfl
theorem size_vs : Tryz.prog.cellsOf 22 = 1 := by kernel_rfl
theorem size_ss : Tryz.prog.cellsOf 23 = 1 := by kernel_rfl
theorem reach_n : reachBytes = 140737488351232 := rfl

theorem ks_open {fuel : Nat} {cs : List Value} {x : DataW H × List MemPlace} (h : DataW.trod enc Tryz.prog W 0 sp hd fuel 23 cs = some x) (hz : Sz Tryz.prog 23 x.1) :
    ∃ A n c l, cs = [.slice A n c] ∧ KS W 0 W.heap.size A n c l := by
  rcases open_sl Tryz.underlying23 h hz with rfl | ⟨a, len, cap, n, _, rfl, hl, hb, hi⟩
  · exact ⟨none, 0, 0, [], rfl, KS.nil_ _ _ _⟩
  · rw [size_str] at hi
    rw [bytes_str, reach_n] at hb
    have one : ∀ i, ∃ s : ByteArray, i < len → W.cell? (a.add i) = some (.string s) ∧ s.size ≤ 140737488351232 := fun i => by
      by_cases hil : i < len
      · obtain ⟨cs', y, hc, hy, hs⟩ := hi i hil
        obtain ⟨s, rfl, hy1, _⟩ := DataW.trod_string Tryz.underlying9 hy
        obtain ⟨_, _, hat⟩ := World.cells?_some hc
        have h0 := hat 0 (by omega)
        rw [Nat.mul_one, Go.Deep.add_add, Nat.add_zero] at h0
        refine ⟨s, fun _ => ⟨h0, ?_⟩⟩
        have := hs s.data.toList.length (by rw [hy1]; simp [DataW.weights])
        rw [reach_n] at this
        simpa using this
      · exact ⟨ByteArray.empty, fun h => absurd h hil⟩
    obtain ⟨f, hf⟩ := Classical.axiomOfChoice one
    have hg : ∀ j, j < len → ((List.range len).map f).getD j ByteArray.empty = f j := fun j hj => by simp [List.getD, hj]
    obtain ⟨b, off, spot⟩ := a
    refine ⟨_, _, _, (List.range len).map f, rfl, ⟨by simp, hl, by omega, (fun e => by cases e), fun j hj => ?_, fun hn => ?_⟩⟩
    · rw [hg j hj]; exact (hf j hj).2
    · have h00 := (hf 0 hn).1
      have hs : spot = none := by simpa [Addr.add] using World.cell?_spot h00
      subst hs
      refine ⟨b, off, rfl, Nat.zero_le _, World.block_lt_of_cell? W _ h00, fun j hj => ?_⟩
      rw [hg j hj, ← (hf j hj).1, Addr.add_lit]

def OpenV (enc : TypeId × Value → H) (W : World) (sp : Nat → Bool) (hd : Bool) (fuel : Nat) : Prop := ∀ (cs : List Value) (x : DataW H × List MemPlace), DataW.trod enc Tryz.prog W 0 sp hd fuel 25 cs = some x → Sz Tryz.prog 25 x.1 →
  ∃ (k n : Int) (s : ByteArray) (A : Option Addr) (m c : Nat) (B : Option Addr) (p e : Nat) (t : V), cs = [.int .i64 k, .int .i64 n, .string s, .slice A m c, .slice B p e] ∧ VB W 0 W.heap.size fuel (.agg #[.int .i64 k, .int .i64 n, .string s, .slice A m c, .slice B p e]) t

theorem is_open {fuel : Nat} (IH : ∀ n, n < fuel → OpenV enc W sp hd n) {cs : List Value} {x : DataW H × List MemPlace} (h : DataW.trod enc Tryz.prog W 0 sp hd fuel 22 cs = some x) (hz : Sz Tryz.prog 22 x.1) :
    ∃ A n c l, cs = [.slice A n c] ∧ IS W 0 W.heap.size (VB W 0 W.heap.size fuel) A n c l := by
  rcases open_sl Tryz.underlying22 h hz with rfl | ⟨a, len, cap, n, rfl, rfl, hl, hb, hi⟩
  · exact ⟨none, 0, 0, [], rfl, IS.nil_ _ _ _ _⟩
  · rw [size_val] at hi
    rw [bytes_val, reach_n] at hb
    have one : ∀ i, ∃ t : V, i < len → ∃ (k n' : Int) (s : ByteArray) (x y : Value), W.cell? (a.add (i * 5)) = some (.int .i64 k) ∧ W.cell? (a.add (i * 5 + 1)) = some (.int .i64 n') ∧ W.cell? (a.add (i * 5 + 2)) = some (.string s) ∧
        W.cell? (a.add (i * 5 + 3)) = some x ∧ W.cell? (a.add (i * 5 + 4)) = some y ∧ VB W 0 W.heap.size (n + 1) (.agg #[.int .i64 k, .int .i64 n', .string s, x, y]) t := fun i => by
      by_cases hil : i < len
      · obtain ⟨cs', y, hc, hy, hs⟩ := hi i hil
        obtain ⟨k, n', s, A, m, c, B, p, e, t, rfl, hv⟩ := IH n (Nat.lt_succ_self _) _ _ hy hs
        obtain ⟨_, _, hat⟩ := World.cells?_some hc
        have a0 := hat 0 (by omega)
        have a1 := hat 1 (by omega)
        have a2 := hat 2 (by omega)
        have a3 := hat 3 (by omega)
        have a4 := hat 4 (by omega)
        rw [Go.Deep.add_add] at a0 a1 a2 a3 a4
        exact ⟨t, fun _ => ⟨k, n', s, _, _, a0, a1, a2, a3, a4, hv.up (Nat.le_succ _)⟩⟩
      · exact ⟨default, fun h => absurd h hil⟩
    obtain ⟨f, hf⟩ := Classical.axiomOfChoice one
    have hg : ∀ j, j < len → ((List.range len).map f).getD j default = f j := fun j hj => by simp [List.getD, hj]
    obtain ⟨b, off, spot⟩ := a
    refine ⟨_, _, _, (List.range len).map f, rfl, ⟨by simp, hl, by omega, (fun e => by cases e), fun hn => ?_⟩⟩
    obtain ⟨k, n', s, x, y, h00, _⟩ := hf 0 hn
    have hs : spot = none := by simpa [Addr.add] using World.cell?_spot h00
    subst hs
    refine ⟨b, off, rfl, Nat.zero_le _, World.block_lt_of_cell? W _ h00, fun j hj => ?_⟩
    obtain ⟨k, n', s, x, y, q0, q1, q2, q3, q4, hv⟩ := hf j hj
    rw [Addr.add_lit] at q0 q1 q2 q3 q4
    rw [hg j hj]
    exact ⟨k, n', s, x, y, q0, by rw [Nat.add_assoc]; exact q1, by rw [Nat.add_assoc]; exact q2, by rw [Nat.add_assoc]; exact q3, by rw [Nat.add_assoc]; exact q4, hv⟩

set_option maxRecDepth 100000 in
theorem openV : ∀ fuel, OpenV enc W sp hd fuel := by
  intro fuel
  induction fuel using Nat.strongRecOn with
  | _ fuel IH =>
  intro cs x h hz
  obtain ⟨xs, n, rfl, hx, hlen, hxl, hg⟩ := DataW.trod_struct Tryz.underlying25 h
  rw [size_val] at hlen
  match cs, hlen with
  | [c0, c1, c2, c3, c4], _ =>
    match xs, hxl with
    | [y0, y1, y2, y3, y4], _ =>
      have g0 : DataW.trod enc Tryz.prog W 0 sp hd n 3 [c0] = some y0 := by simpa [size_int] using hg 0 _ rfl
      have g1 : DataW.trod enc Tryz.prog W 0 sp hd n 3 [c1] = some y1 := by simpa [size_int] using hg 1 _ rfl
      have g2 : DataW.trod enc Tryz.prog W 0 sp hd n 9 [c2] = some y2 := by simpa [size_str] using hg 2 _ rfl
      have g3 : DataW.trod enc Tryz.prog W 0 sp hd n 22 [c3] = some y3 := by simpa [size_vs] using hg 3 _ rfl
      have g4 : DataW.trod enc Tryz.prog W 0 sp hd n 23 [c4] = some y4 := by simpa [size_ss] using hg 4 _ rfl
      have hw : x.1.weights Tryz.prog 25 = DataW.weightsEach Tryz.prog [3, 3, 9, 22, 23] [y0.1, y1.1, y2.1, y3.1, y4.1] := by
        rw [hx]
        simp only [DataW.weights, Tryz.underlying25]
        rfl
      have z2 : Sz Tryz.prog 9 y2.1 := fun m hm => hz m (by rw [hw]; exact DataW.weights_mem_each (j := 2) rfl rfl m hm)
      have z3 : Sz Tryz.prog 22 y3.1 := fun m hm => hz m (by rw [hw]; exact DataW.weights_mem_each (j := 3) rfl rfl m hm)
      have z4 : Sz Tryz.prog 23 y4.1 := fun m hm => hz m (by rw [hw]; exact DataW.weights_mem_each (j := 4) rfl rfl m hm)
      obtain ⟨k, e0, _, w0⟩ := DataW.trod_int Tryz.underlying3 g0
      obtain ⟨i, e1, _, w1⟩ := DataW.trod_int Tryz.underlying3 g1
      obtain ⟨s, e2, hs, _⟩ := DataW.trod_string Tryz.underlying9 g2
      obtain ⟨A, m, c, its, e3, hI⟩ := is_open (fun j hj => IH j (by omega)) g3 z3
      obtain ⟨B, p, e, ks, e4, hK⟩ := ks_open g4 z4
      simp only [List.cons.injEq, and_true] at e0 e1 e2 e3 e4
      subst e0; subst e1; subst e2; subst e3; subst e4
      have hsz : s.size ≤ 140737488351232 := by
        have := z2 s.data.toList.length (by rw [hs]; simp [DataW.weights])
        rw [reach_n] at this
        simpa using this
      have b0 := bounds_i64 w0
      have b1 := bounds_i64 w1
      exact ⟨k, i, s, A, m, c, B, p, e, .mk k i s its ks, rfl, ⟨A, m, c, B, p, e, rfl, b0.1, b0.2, b1.1, b1.2, hsz, hI, hK⟩⟩

set_option maxRecDepth 100000 in
/-- An argument of the chapter's type reads as a tree. -/
theorem val_open {base : Nat} {v : Value} {d : DataW H} {ps : List MemPlace} (hv : Value.okWide Tryz.prog W .any base 25 v) (h : DataW.Trod enc Tryz.prog W 0 sp hd 25 v d ps) (hz : Sz Tryz.prog 25 d) : ∃ t, VX W 0 W.heap.size v t := by
  obtain ⟨cs, rfl, _⟩ := okWide_struct Tryz.underlying25 hv
  obtain ⟨fuel, hf⟩ := h
  obtain ⟨k, n, s, A, m, c, B, p, e, t, hcs, ht⟩ := openV fuel _ _ hf hz
  obtain ⟨l⟩ := cs
  have hl : l = [.int .i64 k, .int .i64 n, .string s, .slice A m c, .slice B p e] := by simpa [Value.cells] using hcs
  subst hl
  exact ⟨t, _, ht⟩
end
end Go.Proofs.YtdkggnciamfcmaaGreatDoor
