/-
  Plain mathematics of layer 2: strings in order.
-/
import Derived.Test.YtdkggnciamfcmaaGreatDoorVal2
namespace Go.Proofs.YtdkggnciamfcmaaGreatDoor.M
open Go.Op (bytesLess)

theorem bl_irrefl : ∀ l : List UInt8, bytesLess l l = false
  | [] => rfl
  | a :: l => by simp [bytesLess, bl_irrefl l, UInt8.lt_irrefl]
theorem bl_cmp : ∀ a b : List UInt8, bytesLess a b = decide (Lib.compareBytes a b = -1) ∧ (a == b) = decide (Lib.compareBytes a b = 0) ∧ bytesLess b a = decide (Lib.compareBytes a b = 1)
  | [], [] => by simp [bytesLess, Lib.compareBytes]
  | [], b :: y => by simp [bytesLess, Lib.compareBytes]
  | a :: x, [] => by simp [bytesLess, Lib.compareBytes]
  | a :: x, b :: y => by
    obtain ⟨h1, h2, h3⟩ := bl_cmp x y
    simp only [bytesLess, Lib.compareBytes]
    by_cases hab : a < b
    · have hne : a ≠ b := fun h => by subst h; exact absurd hab (UInt8.lt_irrefl a)
      have hba : ¬ b < a := fun h => absurd (UInt8.lt_trans hab h) (UInt8.lt_irrefl a)
      simp [hab, hne, hba, Ne.symm hne]
    · by_cases hba : b < a
      · have hne : a ≠ b := fun h => by subst h; exact absurd hba (UInt8.lt_irrefl a)
        simp [hab, hne, hba]
      · have he : a = b := UInt8.le_antisymm (UInt8.not_lt.1 hba) (UInt8.not_lt.1 hab)
        subst he
        simp only [UInt8.lt_irrefl, decide_false, Bool.false_or, beq_self_eq_true, Bool.true_and, if_false]
        refine ⟨h1, ?_, h3⟩
        rw [← h2]; simp
theorem cb_small (a b : List UInt8) : Lib.compareBytes a b = -1 ∨ Lib.compareBytes a b = 0 ∨ Lib.compareBytes a b = 1 := by
  induction a generalizing b with
  | nil => cases b <;> simp [Lib.compareBytes]
  | cons x r ih =>
    cases b with
    | nil => simp [Lib.compareBytes]
    | cons y r' =>
      simp only [Lib.compareBytes]
      split
      · simp
      · split
        · simp
        · exact ih r'
theorem beq_flip (x y : List UInt8) : (y == x) = (x == y) := by
  by_cases e : x = y
  · subst e; rfl
  · rw [beq_eq_false_iff_ne.2 e, beq_eq_false_iff_ne.2 (Ne.symm e)]
theorem less_flip {x y : List UInt8} (h : bytesLess x y = true) : (bytesLess y x || y == x) = false := by
  obtain ⟨h1, h2, h3⟩ := bl_cmp x y
  rw [h1] at h
  have := of_decide_eq_true h
  have h4 := beq_flip x y
  rw [h4, h2, h3, this]; rfl
theorem less_flip_no {x y : List UInt8} (h : bytesLess x y = false) : (bytesLess y x || y == x) = true := by
  obtain ⟨h1, h2, h3⟩ := bl_cmp x y
  rw [h1] at h
  have hn := of_decide_eq_false h
  have h4 := beq_flip x y
  rw [h4, h2, h3]
  rcases cb_small x y with h | h | h
  · exact absurd h hn
  · rw [h]; rfl
  · rw [h]; rfl
end Go.Proofs.YtdkggnciamfcmaaGreatDoor.M
