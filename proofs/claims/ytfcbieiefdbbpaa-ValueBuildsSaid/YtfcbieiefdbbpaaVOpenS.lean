/-
  What came in, read: a slice of strings, a slice of values of the chapter, a string with its bound.
-/
import Derived.Test.YtfcbieiefdbbpaaVOpen
namespace Go.Proofs.Ytfcbieiefdbbpaa
set_option linter.unusedVariables false
open Go.RowKit Go.ChangeShapes Go.WideShapes
open M (V)
section
variable {H : Type} {enc : TypeId × Value → H} {W : World} {sp : Nat → Bool} {hd : Bool} {d : DataW H} {ps : List MemPlace}
theorem strs_open {A : Option Addr} {n c : Nat} (h : DataW.Trod enc Try.prog W 0 sp hd 22 (.slice A n c) d ps) (hz : Sz Try.prog 22 d) : ∃ l, KS W 0 W.heap.size A n c l := by
  obtain ⟨fuel, hf⟩ := h
  obtain ⟨A', n', c', l, e, hK⟩ := ks_open hf hz
  have e' : A = A' ∧ n = n' ∧ c = c' := by simpa [Value.cells] using e
  obtain ⟨rfl, rfl, rfl⟩ := e'
  exact ⟨l, hK⟩
theorem vals_open {A : Option Addr} {n c : Nat} (h : DataW.Trod enc Try.prog W 0 sp hd 23 (.slice A n c) d ps) (hz : Sz Try.prog 23 d) : ∃ d' l, IS W 0 W.heap.size (VB W 0 W.heap.size d') A n c l := by
  obtain ⟨fuel, hf⟩ := h
  obtain ⟨A', n', c', l, e, hI⟩ := is_open (fun n _ => openV n) hf hz
  have e' : A = A' ∧ n = n' ∧ c = c' := by simpa [Value.cells] using e
  obtain ⟨rfl, rfl, rfl⟩ := e'
  exact ⟨fuel, l, hI⟩
theorem str_size {s : ByteArray} (h : DataW.Trod enc Try.prog W 0 sp hd 9 (.string s) d ps) (hz : Sz Try.prog 9 d) : s.size ≤ 140737488351232 := by
  obtain ⟨fuel, hf⟩ := h
  obtain ⟨s', e, hs, _⟩ := DataW.trod_string Try.underlying9 hf
  have e' : s = s' := by simpa [Value.cells] using e
  subst e'
  have := hz s.data.toList.length (by
    have hd' := congrArg Prod.fst hs
    simp only at hd'
    rw [hd']; simp [DataW.weights])
  rw [reach_n] at this
  simpa using this
end
end Go.Proofs.Ytfcbieiefdbbpaa
