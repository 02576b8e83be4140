/-
  Layer 1: what came in for WireReads: a slice of structs.
-/
import Derived.Test.YtakinfkjimfkhaaLawE
import Derived.Test.YtakinfkjimfkhaaOpen
import Derived.Deep.Slices
import Derived.Deep.Strs
namespace Go.Proofs.Ytakinfkjimfkhaa
open Go.RowKit Go.ChangeShapes Go.WideShapes Go.Deep

theorem rs_row {H : Type} {enc : TypeId × Value → H} {W : World} {sp : Nat → Bool} {hd : Bool} {fuel : Nat} {a : Option Addr} {len cap : Nat} {x : DataW H × List MemPlace}
    (h : DataW.trod enc Try.prog W 0 sp hd fuel 29 [.slice a len cap] = some x) : RS W W.heap.size a len cap := by
  have hC : Try.prog.cellsOf 35 = 3 := by kernel_rfl
  have hI : Try.prog.cellsOf 3 = 1 := by kernel_rfl
  rcases open_slice Try.underlying29 h with ⟨e, _⟩ | ⟨ad, l', c', m, n, D, Pl, e, _, hl, hm, hmm, _, hi⟩
  · simp only [List.cons.injEq, Value.slice.injEq, and_true] at e
    obtain ⟨rfl, rfl, rfl⟩ := e
    exact ⟨Nat.le_refl _, Nat.zero_le _, fun h0 => absurd h0 (by omega)⟩
  · simp only [List.cons.injEq, Value.slice.injEq, and_true] at e
    obtain ⟨rfl, rfl, rfl⟩ := e
    have hlm : len ≤ m := by rw [hmm]; split <;> omega
    rw [hC] at hi
    have one : ∀ i, i < len → ∃ k x y : Int, W.cell? (ad.add (i * 3)) = some (.int .i64 k) ∧ W.cell? (ad.add (i * 3 + 1)) = some (.int .i64 x) ∧ W.cell? (ad.add (i * 3 + 2)) = some (.int .i64 y) := by
      intro i hil
      obtain ⟨cs, hc, ht⟩ := hi i (by omega)
      obtain ⟨y0, y1, y2, n', _, hcl, h0, h1, h2⟩ := trod_struct3 Try.underlying35 ht
      obtain ⟨_, _, hat⟩ := World.cells?_some hc
      rw [hC] at hcl
      match cs, hcl with
      | [c0, c1, c2], _ =>
        simp only [hI] at h0 h1 h2
        obtain ⟨k0, e0, _, _⟩ := DataW.trod_int Try.underlying3 h0
        obtain ⟨k1, e1, _, _⟩ := DataW.trod_int Try.underlying3 h1
        obtain ⟨k2, e2, _, _⟩ := DataW.trod_int Try.underlying3 h2
        simp at e0 e1 e2
        subst e0; subst e1; subst e2
        have a0 := hat 0 (by omega)
        have a1 := hat 1 (by omega)
        have a2 := hat 2 (by omega)
        rw [Go.Deep.add_add] at a0 a1 a2
        exact ⟨k0, k1, k2, a0, a1, a2⟩
    refine ⟨hl, hm, fun h0 => ?_⟩
    obtain ⟨b, off, spot⟩ := ad
    obtain ⟨k, x, y, h00, _⟩ := one 0 h0
    have hs : spot = none := by simpa [Addr.add] using World.cell?_spot h00
    subst hs
    have hlt : b < W.heap.size := World.block_lt_of_cell? W _ h00
    refine ⟨b, off, rfl, hlt, fun i hil => ?_⟩
    obtain ⟨k, x, y, q0, q1, q2⟩ := one i hil
    rw [Addr.add_lit] at q0 q1 q2
    exact ⟨k, x, y, q0, by rw [Nat.add_assoc]; exact q1, by rw [Nat.add_assoc]; exact q2⟩
end Go.Proofs.Ytakinfkjimfkhaa
