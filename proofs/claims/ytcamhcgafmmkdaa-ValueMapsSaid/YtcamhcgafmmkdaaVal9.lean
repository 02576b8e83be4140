/-
  Plain mathematics of layer 2: a list with an element put or dropped, round by round.
-/
import Derived.Test.YtcamhcgafmmkdaaVal7
set_option linter.unusedVariables false
set_option linter.unusedSimpArgs false
namespace Go.Proofs.Ytcamhcgafmmkdaa.M
open Go.Op (bytesLess)

section
variable {α : Type}
/-- x at place i, in the place of what lies from i on and below nx. -/
def putAt (l : List α) (i nx : Nat) (x : α) : List α := l.take i ++ x :: l.drop nx
def dropAt (l : List α) (i : Nat) : List α := l.take i ++ l.drop (i + 1)
/-- What is made after j rounds. -/
def wpre (l : List α) (i nx : Nat) (x : α) (j : Nat) : List α := if j ≤ i then l.take j else l.take i ++ x :: (l.take j).drop nx
theorem wpre_zero (l : List α) (i nx : Nat) (x : α) : wpre l i nx x 0 = [] := by unfold wpre; simp
theorem wpre_low [Inhabited α] {l : List α} {i nx : Nat} {x : α} {j : Nat} (h : j < i) (hj : j < l.length) : wpre l i nx x (j + 1) = wpre l i nx x j ++ [l.getD j default] := by
  unfold wpre
  rw [if_pos (by omega), if_pos (by omega), take_snoc hj]
theorem wpre_found {l : List α} {i : Nat} {x : α} (hi : i < l.length) : wpre l i (i + 1) x (i + 1) = wpre l i (i + 1) x i ++ [x] := by
  unfold wpre
  rw [if_neg (by omega), if_pos (by omega)]
  simp [List.drop_take]
theorem wpre_new [Inhabited α] {l : List α} {i : Nat} {x : α} (hi : i < l.length) : wpre l i i x (i + 1) = (wpre l i i x i ++ [x]) ++ [l.getD i default] := by
  unfold wpre
  rw [if_neg (by omega), if_pos (by omega)]
  have : (l.take (i + 1)).drop i = [l.getD i default] := by
    rw [take_snoc hi, List.drop_append_of_le_length (by simp; omega)]
    simp
  rw [this]; simp
theorem wpre_high [Inhabited α] {l : List α} {i nx : Nat} {x : α} {j : Nat} (h : i < j) (hn : nx ≤ j) (hj : j < l.length) : wpre l i nx x (j + 1) = wpre l i nx x j ++ [l.getD j default] := by
  unfold wpre
  rw [if_neg (by omega), if_neg (by omega), take_snoc hj, List.drop_append_of_le_length (by simp; omega)]
  simp
theorem wpre_end {l : List α} {i nx : Nat} {x : α} (h : l.length ≤ i) (hn : i ≤ nx) : putAt l i nx x = wpre l i nx x l.length ++ [x] := by
  unfold wpre putAt
  rw [if_pos h, List.take_of_length_le h, List.drop_eq_nil_of_le (by omega), List.take_length]
theorem wpre_done {l : List α} {i nx : Nat} {x : α} (h : i < l.length) : putAt l i nx x = wpre l i nx x l.length := by
  unfold wpre putAt
  rw [if_neg (by omega), List.take_length]
theorem wpre_len_le (l : List α) {i nx : Nat} (hn : i ≤ nx) (x : α) (j : Nat) : (wpre l i nx x j).length ≤ j + 1 := by
  unfold wpre
  split
  · simp; omega
  · simp; omega
/-- What is left after j rounds without place i (f: whether it is dropped). -/
def dpre (l : List α) (i : Nat) (f : Bool) (j : Nat) : List α := if f = true ∧ i < j then l.take i ++ (l.take j).drop (i + 1) else l.take j
theorem dpre_zero (l : List α) (i : Nat) (f : Bool) : dpre l i f 0 = [] := by unfold dpre; simp
theorem dpre_keep [Inhabited α] {l : List α} {i : Nat} {f : Bool} {j : Nat} (h : f = false ∨ j ≠ i) (hj : j < l.length) : dpre l i f (j + 1) = dpre l i f j ++ [l.getD j default] := by
  unfold dpre
  by_cases hc : f = true ∧ i < j
  · rw [if_pos hc, if_pos ⟨hc.1, by omega⟩, take_snoc hj, List.drop_append_of_le_length (by simp; omega)]
    simp
  · have : ¬ (f = true ∧ i < j + 1) := by
      rintro ⟨h1, h2⟩
      rcases h with h | h
      · rw [h1] at h; cases h
      · exact hc ⟨h1, by omega⟩
    rw [if_neg hc, if_neg this, take_snoc hj]
theorem dpre_drop {l : List α} {i : Nat} : dpre l i true (i + 1) = dpre l i true i := by
  unfold dpre
  rw [if_pos ⟨rfl, by omega⟩, if_neg (by omega)]
  simp [List.drop_take]
theorem dpre_all {l : List α} {i : Nat} (h : i < l.length) : dpre l i true l.length = dropAt l i := by
  unfold dpre dropAt
  rw [if_pos ⟨rfl, h⟩, List.take_length]
theorem dpre_none {l : List α} {i : Nat} : dpre l i false l.length = l := by unfold dpre; simp
theorem dropAt_length {l : List α} {i : Nat} (h : i < l.length) : (dropAt l i).length = l.length - 1 := by unfold dropAt; simp; omega
theorem dpre_len_le (l : List α) (i : Nat) (f : Bool) (j : Nat) : (dpre l i f j).length ≤ j := by unfold dpre; split <;> simp <;> omega
end

/-- Where a key stands, or would stand. -/
structure Place (ks : List ByteArray) (key : ByteArray) (i : Nat) (f : Bool) : Prop where
  le : i ≤ ks.length
  lo : ∀ q, q < i → bytesLess (ks.getD q ByteArray.empty).toList key.toList = true
  hi : ∀ q, i ≤ q → q < ks.length → bytesLess (ks.getD q ByteArray.empty).toList key.toList = false
  at_ : f = true ↔ i < ks.length ∧ ks.getD i ByteArray.empty = key
theorem Place.low {ks : List ByteArray} {key : ByteArray} {i : Nat} {f : Bool} (h : Place ks key i f) {j : Nat} (hj : j < i) : bytesLess (ks.getD j ByteArray.empty).toList key.toList = true ∧ ks.getD j ByteArray.empty ≠ key :=
  ⟨h.lo j hj, fun e => bl_ne (h.lo j hj) (by rw [e])⟩
theorem Place.high {ks : List ByteArray} {key : ByteArray} {i : Nat} {f : Bool} (h : Place ks key i f) (hr : Rise ks) {j : Nat} (hj : i < j) (hl : j < ks.length) : ks.getD j ByteArray.empty ≠ key := fun e => by
  have h1 := rise_lt hr hj hl
  rw [e, h.hi i (Nat.le_refl _) (by omega)] at h1
  cases h1
theorem Place.gap {ks : List ByteArray} {key : ByteArray} {i : Nat} (h : Place ks key i false) (hl : i < ks.length) : ks.getD i ByteArray.empty ≠ key := fun e => by
  have := h.at_.2 ⟨hl, e⟩
  cases this
theorem place_ex (ks : List ByteArray) (hr : Rise ks) (key : ByteArray) : ∃ i f, Place ks key i f := by
  classical
  have : ∀ n, n ≤ ks.length → (∃ i, i < n ∧ bytesLess (ks.getD i ByteArray.empty).toList key.toList = false ∧ ∀ q, q < i → bytesLess (ks.getD q ByteArray.empty).toList key.toList = true) ∨ ∀ q, q < n → bytesLess (ks.getD q ByteArray.empty).toList key.toList = true := by
    intro n
    induction n with
    | zero => exact fun _ => .inr fun q h => absurd h (by omega)
    | succ n ih =>
      intro hn
      rcases ih (by omega) with ⟨i, h1, h2, h3⟩ | h
      · exact .inl ⟨i, by omega, h2, h3⟩
      · cases hc : bytesLess (ks.getD n ByteArray.empty).toList key.toList with
        | false => exact .inl ⟨n, by omega, hc, h⟩
        | true =>
          refine .inr fun q hq => ?_
          rcases Nat.lt_or_ge q n with h' | h'
          · exact h q h'
          · obtain rfl : q = n := by omega
            exact hc
  rcases this ks.length (Nat.le_refl _) with ⟨i, h1, h2, h3⟩ | h
  · refine ⟨i, decide (ks.getD i ByteArray.empty = key), by omega, h3, fun q h4 h5 => rise_above hr h4 h5 h2, ?_⟩
    simp [h1]
  · exact ⟨ks.length, false, Nat.le_refl _, h, fun q h1 h2 => absurd h1 (by omega), by simp⟩
end Go.Proofs.Ytcamhcgafmmkdaa.M
