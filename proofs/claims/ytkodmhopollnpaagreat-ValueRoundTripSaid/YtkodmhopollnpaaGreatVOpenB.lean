/-
  What came in, read: a slice of bytes (for a seat of layer 2).
-/
import Derived.Test.YtkodmhopollnpaaGreatMem
import Derived.ProofKit
import Derived.OpenShut
namespace Go.Proofs.YtkodmhopollnpaaGreat
set_option linter.unusedVariables false
open Go.RowKit Go.ChangeShapes Go.WideShapes

/-- A slice of bytes that came in reads as a list. -/
theorem rb_row {w : World} {a : Option Addr} {len cap : Nat} {zs : List Int}
    (h : (a = none ∧ len = 0 ∧ cap = 0 ∧ zs = []) ∨
      ∃ x, a = some x ∧ len ≤ cap ∧ cap ≤ maxLen ∧ zs.length = cap ∧ (∀ i, i < zs.length → w.cell? (x.add i) = some (.int .u8 (zs.getD i 0))) ∧ ∀ n ∈ zs, (Lit.int .u8 n).wf = true) :
    ∃ l : List UInt8, RB w 0 w.heap.size a len cap l := by
  rcases h with ⟨rfl, rfl, rfl, rfl⟩ | ⟨x, rfl, hl, hm, hz, hc, hw⟩
  · exact ⟨[], RB.nil_ _ _ _⟩
  · refine ⟨(zs.take len).map fun n => UInt8.ofNat n.toNat, by rw [List.length_map, List.length_take]; omega, hl, hm, (fun e => by cases e), fun h0 => ?_⟩
    obtain ⟨b, off, spot⟩ := x
    have h00 := hc 0 (by omega)
    have hs : spot = none := by simpa [Addr.add] using World.cell?_spot h00
    subst hs
    have hlt : b < w.heap.size := by
      rw [Addr.add_lit] at h00
      rcases Nat.lt_or_ge b w.heap.size with h | h
      · exact h
      · simp [World.cell?, Array.getElem?_eq_none h] at h00
    refine ⟨b, off, rfl, Nat.zero_le _, hlt, fun j hj => ?_⟩
    have hj2 : j < zs.length := by omega
    have hcj := hc j hj2
    rw [Addr.add_lit] at hcj
    rw [hcj]
    have hwf := Go.bounds_u8 (hw zs[j] (List.getElem_mem hj2))
    simp only [List.getD, List.getElem?_map, List.getElem?_take, if_pos hj, List.getElem?_eq_getElem hj2, Option.map_some, Option.getD_some]
    rw [M.toNat_ofNat_lt (by omega)]
    congr 2
    omega

theorem rb_trod {H : Type} {enc : TypeId × Value → H} {W : World} {hd : Bool} {fuel : Nat} {a : Option Addr} {len cap : Nat} {x : DataW H × List MemPlace}
    (hf : DataW.trod enc Tryz.prog W 0 (fun _ => true) hd fuel 22 (Value.slice a len cap).cells.toList = some x) : ∃ l : List UInt8, RB W 0 W.heap.size a len cap l := by
  rcases open_ints Tryz.underlying22 Tryz.underlying5 (by kernel_rfl) hf with ⟨hcs, _⟩ | ⟨x, l, c, zs, hcs, _, hl, hm, hz, _, hcell, hwz⟩
  · simp [Value.cells] at hcs
    obtain ⟨rfl, rfl, rfl⟩ := hcs
    exact rb_row (zs := []) (.inl ⟨rfl, rfl, rfl, rfl⟩)
  · simp [Value.cells] at hcs
    obtain ⟨rfl, rfl, rfl⟩ := hcs
    exact rb_row (zs := zs) (.inr ⟨_, rfl, hl, hm, by simpa using hz, hcell, hwz⟩)
end Go.Proofs.YtkodmhopollnpaaGreat
