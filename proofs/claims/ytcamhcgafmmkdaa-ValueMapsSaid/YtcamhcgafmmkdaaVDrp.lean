/-
  Layer 2: what Put and Drop return.
-/
import Derived.Test.YtcamhcgafmmkdaaVRefH
namespace Go.Proofs.Ytcamhcgafmmkdaa
set_option linter.unusedVariables false
open Go.RowKit
open M (V)

/-- The place of a key and what lies there. -/
def nxt (i : Nat) (f : Bool) : Nat := if f = true then i + 1 else i
theorem nxt_or (i : Nat) (f : Bool) : f = true ∧ nxt i f = i + 1 ∨ f = false ∧ nxt i f = i := by cases f <;> simp [nxt]
/-- What Put returns: no map: 12; too great: 6; else the map. -/
def NewPut (t : V) (key : ByteArray) (x : V) (w : World) (e : Ending) (w' : World) : Prop :=
  ((t.k == 5 && t.wf) = false → e = .returned (.tuple #[.agg #[.int .i64 0, .int .i64 0, .string ByteArray.empty, .slice none 0 0, .slice none 0 0], .int .i64 12])) ∧
  ((t.k == 5 && t.wf) = true → ∀ i f, M.Place t.ks key i f →
    (V.within (putV t i (nxt i f) key x) = false → e = .returned (.tuple #[.agg #[.int .i64 0, .int .i64 0, .string ByteArray.empty, .slice none 0 0, .slice none 0 0], .int .i64 6])) ∧
    (V.within (putV t i (nxt i f) key x) = true → ∃ v, e = .returned (.tuple #[v, .int .i64 0]) ∧ VX w' 0 w'.heap.size v (putV t i (nxt i f) key x))) ∧ Below w.heap.size w w'
theorem place_uniq {ks : List ByteArray} {key : ByteArray} {i j : Nat} {f g : Bool} (h : M.Place ks key i f) (h' : M.Place ks key j g) : i = j ∧ f = g := by
  have hij : i = j := by
    rcases Nat.lt_trichotomy i j with hc | hc | hc
    · have h1 := h'.lo i hc
      rw [h.hi i (Nat.le_refl _) (by have := h'.le; omega)] at h1; cases h1
    · exact hc
    · have h1 := h.lo j hc
      rw [h'.hi j (Nat.le_refl _) (by have := h.le; omega)] at h1; cases h1
  subst hij
  refine ⟨rfl, ?_⟩
  have h1 := h.at_
  have h2 := h'.at_
  cases f <;> cases g
  · rfl
  · exact absurd (h1.2 (h2.1 rfl)) (by simp)
  · exact absurd (h2.2 (h1.1 rfl)) (by simp)
  · rfl

/-- What Drop returns: no map: 12; no such key: 15; else the map. -/
def dropV (t : V) (i : Nat) : V := .mk 5 0 ByteArray.empty (M.dropAt t.its i) (M.dropAt t.ks i)
def NewDrop (t : V) (key : ByteArray) (w : World) (e : Ending) (w' : World) : Prop :=
  ((t.k == 5 && t.wf) = false → e = .returned (.tuple #[.agg #[.int .i64 0, .int .i64 0, .string ByteArray.empty, .slice none 0 0, .slice none 0 0], .int .i64 12])) ∧
  ((t.k == 5 && t.wf) = true → ∀ i f, M.Place t.ks key i f →
    (f = false → e = .returned (.tuple #[.agg #[.int .i64 0, .int .i64 0, .string ByteArray.empty, .slice none 0 0, .slice none 0 0], .int .i64 15])) ∧
    (f = true → ∃ v, e = .returned (.tuple #[v, .int .i64 0]) ∧ VX w' 0 w'.heap.size v (dropV t i))) ∧ Below w.heap.size w w'

end Go.Proofs.Ytcamhcgafmmkdaa
