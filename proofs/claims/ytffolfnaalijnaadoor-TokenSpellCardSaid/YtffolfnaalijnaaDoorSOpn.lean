/-
  Layer 7: what came in, read: a list of tokens.
-/
import Derived.Test.YtffolfnaalijnaaDoorSCodL
import Derived.ProofKit
import Derived.Deep.Slices
import Derived.OpenShut
namespace Go.Proofs.YtffolfnaalijnaaDoor
set_option linter.unusedVariables false
set_option linter.constructorNameAsVariable false
open Go.RowKit Go.ChangeShapes Go.WideShapes

theorem size7_tok : Tryd.prog.cellsOf 30 = 4 := by kernel_rfl
theorem size7_int : Tryd.prog.cellsOf 3 = 1 := by kernel_rfl
theorem size7_str : Tryd.prog.cellsOf 9 = 1 := by kernel_rfl
def OkTok (t : Z.Tok) : Prop := t.t.length ≤ maxLen ∧ -9223372036854775808 ≤ t.v ∧ t.v ≤ 9223372036854775807
section
variable {H : Type} {enc : TypeId × Value → H} {W : World} {sp : Nat → Bool} {hd : Bool} {fuel : Nat}
set_option maxRecDepth 100000 in
theorem tok7_open {cs : List Value} {x : DataW H × List MemPlace} (h : DataW.trod enc Tryd.prog W 0 sp hd fuel 30 cs = some x) : ∃ t : Z.Tok, cs = tokCells t ∧ OkTok t := by
  obtain ⟨xs, n, rfl, hx, hlen, hxl, hg⟩ := DataW.trod_struct Tryd.underlying30 h
  rw [size7_tok] at hlen
  match cs, hlen with
  | [c0, c1, c2, c3], _ =>
    match xs, hxl with
    | [y0, y1, y2, y3], _ =>
      have g0 : DataW.trod enc Tryd.prog W 0 sp hd n 3 [c0] = some y0 := by simpa [size7_int] using hg 0 _ rfl
      have g1 : DataW.trod enc Tryd.prog W 0 sp hd n 3 [c1] = some y1 := by simpa [size7_int] using hg 1 _ rfl
      have g2 : DataW.trod enc Tryd.prog W 0 sp hd n 9 [c2] = some y2 := by simpa [size7_str] using hg 2 _ rfl
      have g3 : DataW.trod enc Tryd.prog W 0 sp hd n 3 [c3] = some y3 := by simpa [size7_int] using hg 3 _ rfl
      obtain ⟨k, e0, _, w0⟩ := DataW.trod_int Tryd.underlying3 g0
      obtain ⟨p, e1, _, w1⟩ := DataW.trod_int Tryd.underlying3 g1
      obtain ⟨s, e2, _, hs⟩ := DataW.trod_string Tryd.underlying9 g2
      obtain ⟨v, e3, _, w3⟩ := DataW.trod_int Tryd.underlying3 g3
      simp only [List.cons.injEq, and_true] at e0 e1 e2 e3
      subst e0; subst e1; subst e2; subst e3
      have b3 := bounds_i64 w3
      exact ⟨⟨k, p, s.data.toList, v⟩, rfl, by show s.data.toList.length ≤ _; rw [l7_len]; exact hs, b3.1, b3.2⟩
set_option maxRecDepth 100000 in
theorem tr_trod {a : Option Addr} {len cap : Nat} {x : DataW H × List MemPlace} (h : DataW.trod enc Tryd.prog W 0 sp hd fuel 23 (Value.slice a len cap).cells.toList = some x) :
    ∃ l : List Z.Tok, TR W 0 W.heap.size a len cap l ∧ ∀ t ∈ l, OkTok t := by
  rcases DataW.trod_slice Tryd.underlying23 h with ⟨hcs, _⟩ | ⟨a', len', cap', elems, rest, n, rfl, hcs, _, _, hl, hm, hlen, hel, _, _⟩
  · simp [Value.cells] at hcs
    obtain ⟨rfl, rfl, rfl⟩ := hcs
    exact ⟨[], TR.nil_ _ _ _, fun t ht => by cases ht⟩
  · simp [Value.cells] at hcs
    obtain ⟨rfl, rfl, rfl⟩ := hcs
    rw [size7_tok] at hel
    have one : ∀ i, ∃ t : Z.Tok, i < len → OkTok t ∧ W.cell? (a'.add (i * 4)) = some (.int .i64 t.k) ∧ W.cell? (a'.add (i * 4 + 1)) = some (.int .i64 t.pos) ∧ W.cell? (a'.add (i * 4 + 2)) = some (.string (bS t.t)) ∧ W.cell? (a'.add (i * 4 + 3)) = some (.int .i64 t.v) := fun i => by
      by_cases hil : i < len
      · have h1 := hel i hil
        have hie : i < elems.length := by omega
        rw [List.getElem?_eq_getElem hie] at h1
        obtain ⟨cs', hc, hy⟩ := Option.bind_eq_some_iff.1 h1
        obtain ⟨t, rfl, hok⟩ := tok7_open hy
        obtain ⟨_, _, hat⟩ := World.cells?_some hc
        have a0 := hat 0 (by omega)
        have a1 := hat 1 (by omega)
        have a2 := hat 2 (by omega)
        have a3 := hat 3 (by omega)
        rw [Go.Deep.add_add] at a0 a1 a2 a3
        exact ⟨t, fun _ => ⟨hok, a0, a1, a2, a3⟩⟩
      · exact ⟨default, fun h => absurd h hil⟩
    obtain ⟨f, hf⟩ := Classical.axiomOfChoice one
    have hg : ∀ j, j < len → ((List.range len).map f).getD j default = f j := fun j hj => by simp [List.getD, hj]
    obtain ⟨b, off, spot⟩ := a'
    refine ⟨(List.range len).map f, ⟨by simp, hl, hm, (fun e => by cases e), fun hn => ?_⟩, fun t ht => ?_⟩
    · obtain ⟨_, h00, _⟩ := hf 0 hn
      have hs : spot = none := by simpa [Addr.add] using World.cell?_spot h00
      subst hs
      refine ⟨b, off, rfl, Nat.zero_le _, World.block_lt_of_cell? W _ h00, fun j hj => ?_⟩
      obtain ⟨_, q0, q1, q2, q3⟩ := hf j hj
      rw [Addr.add_lit] at q0 q1 q2 q3
      rw [hg j hj]
      exact ⟨q0, by rw [Nat.add_assoc]; exact q1, by rw [Nat.add_assoc]; exact q2, by rw [Nat.add_assoc]; exact q3⟩
    · obtain ⟨i, hi, rfl⟩ := List.mem_map.1 ht
      exact (hf i (List.mem_range.1 hi)).1
end
end Go.Proofs.YtffolfnaalijnaaDoor
