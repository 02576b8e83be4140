/-
  What came in, read: a slice of bytes.
-/
import Derived.Test.YtakinfkjimfkhaaLawA
import Derived.ProofKit
namespace Go.Proofs.Ytakinfkjimfkhaa
open Go.RowKit Go.ChangeShapes Go.WideShapes

theorem rb_trod {H : Type} {enc : TypeId × Value → H} {W : World} {hd : Bool} {fuel : Nat} {a : Option Addr} {len cap : Nat} {x : DataW H × List MemPlace}
    (hf : DataW.trod enc Try.prog W 0 (fun _ => true) hd fuel 22 (Value.slice a len cap).cells.toList = some x) : ∃ l : List UInt8, RB W 0 W.heap.size a len cap l := by
  rcases open_ints Try.underlying22 Try.underlying5 (by kernel_rfl) hf with ⟨hcs, _⟩ | ⟨x, l, c, zs, hcs, _, hl, hm, hz, _, hcell, hwz⟩
  · simp [Value.cells] at hcs
    obtain ⟨rfl, rfl, rfl⟩ := hcs
    exact rb_row (zs := []) (.inl ⟨rfl, rfl, rfl, rfl⟩)
  · simp [Value.cells] at hcs
    obtain ⟨rfl, rfl, rfl⟩ := hcs
    exact rb_row (zs := zs) (.inr ⟨_, rfl, hl, hm, by simpa using hz, hcell, hwz⟩)
end Go.Proofs.Ytakinfkjimfkhaa
