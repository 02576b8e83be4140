/-
  Plain mathematics of layer 2: keys in order, and the item of a key.
-/
import Derived.Test.YtdkggnciamfcmaaGreatDoorVal6
namespace Go.Proofs.YtdkggnciamfcmaaGreatDoor.M
open Go.Op (bytesLess)

theorem bl_trans : ∀ {a b c : List UInt8}, bytesLess a b = true → bytesLess b c = true → bytesLess a c = true
  | _, [], _, h, _ => by simp [bytesLess] at h
  | _, _ :: _, [], _, h => by simp [bytesLess] at h
  | [], _ :: _, _ :: _, _, _ => rfl
  | x :: a, y :: b, z :: c, h1, h2 => by
    simp only [bytesLess, Bool.or_eq_true, Bool.and_eq_true, decide_eq_true_eq, beq_iff_eq] at h1 h2 ⊢
    rcases h1 with h1 | ⟨rfl, h1⟩
    · rcases h2 with h2 | ⟨rfl, h2⟩
      · exact .inl (UInt8.lt_trans h1 h2)
      · exact .inl h1
    · rcases h2 with h2 | ⟨rfl, h2⟩
      · exact .inl h2
      · exact .inr ⟨rfl, bl_trans h1 h2⟩
theorem rise_lt {ks : List ByteArray} (h : Rise ks) {i j : Nat} (hij : i < j) (hj : j < ks.length) : bytesLess (ks.getD i ByteArray.empty).toList (ks.getD j ByteArray.empty).toList = true := by
  induction j with
  | zero => omega
  | succ j ih =>
    have hl := h j hj
    rcases Nat.lt_or_ge i j with h' | h'
    · exact bl_trans (ih h' (by omega)) hl
    · obtain rfl : i = j := by omega
      exact hl
theorem rise_below {ks : List ByteArray} (h : Rise ks) {i j : Nat} {key : List UInt8} (hij : i ≤ j) (hj : j < ks.length) (hl : bytesLess (ks.getD j ByteArray.empty).toList key = true) : bytesLess (ks.getD i ByteArray.empty).toList key = true := by
  rcases Nat.lt_or_ge i j with h' | h'
  · exact bl_trans (rise_lt h h' hj) hl
  · obtain rfl : i = j := by omega
    exact hl
theorem rise_above {ks : List ByteArray} (h : Rise ks) {i j : Nat} {key : List UInt8} (hij : i ≤ j) (hj : j < ks.length) (hl : bytesLess (ks.getD i ByteArray.empty).toList key = false) : bytesLess (ks.getD j ByteArray.empty).toList key = false := by
  cases hc : bytesLess (ks.getD j ByteArray.empty).toList key with
  | false => rfl
  | true => rw [rise_below h hij hj hc] at hl; cases hl
theorem bl_ne {a b : List UInt8} (h : bytesLess a b = true) : a ≠ b := fun e => by subst e; rw [bl_irrefl] at h; cases h
theorem bl_flip {a b : List UInt8} (h : bytesLess a b = false) (hne : a ≠ b) : bytesLess b a = true := by
  have := less_flip_no h
  rw [Bool.or_eq_true] at this
  rcases this with h1 | h1
  · exact h1
  · exact absurd (beq_iff_eq.1 h1).symm hne
theorem bl_asymm {a b : List UInt8} (h : bytesLess a b = true) : bytesLess b a = false := by
  cases hc : bytesLess b a with
  | false => rfl
  | true => have := bl_trans h hc; rw [bl_irrefl] at this; cases this

/-- The item of a key. -/
def lookup (key : ByteArray) : List ByteArray → List V → Option V
  | k :: ks, x :: xs => if k = key then some x else lookup key ks xs
  | _, _ => none
theorem lookup_at {key : ByteArray} : ∀ {ks : List ByteArray} {its : List V} {i : Nat}, i < ks.length → i < its.length → ks.getD i ByteArray.empty = key → (∀ q, q < i → ks.getD q ByteArray.empty ≠ key) → lookup key ks its = some (its.getD i default)
  | k :: ks, x :: xs, 0, _, _, h, _ => by rw [lookup, if_pos (by simpa using h)]; rfl
  | k :: ks, x :: xs, i + 1, h1, h2, h, hn => by
    rw [lookup, if_neg (by simpa using hn 0 (by omega))]
    have := lookup_at (ks := ks) (its := xs) (i := i) (by simpa using h1) (by simpa using h2) (by simpa using h) (fun q hq => by simpa using hn (q + 1) (by omega))
    rw [this]; simp
theorem lookup_none {key : ByteArray} : ∀ {ks : List ByteArray} {its : List V}, (∀ q, q < ks.length → q < its.length → ks.getD q ByteArray.empty ≠ key) → lookup key ks its = none
  | [], _, _ => rfl
  | _ :: _, [], _ => rfl
  | k :: ks, x :: xs, hn => by
    rw [lookup, if_neg (by simpa using hn 0 (by simp) (by simp))]
    exact lookup_none fun q h1 h2 => by simpa using hn (q + 1) (by simpa using h1) (by simpa using h2)
noncomputable def V.get (t : V) (key : ByteArray) : Option V := if (t.k == 5 && t.wf) = true then lookup key t.ks t.its else none
theorem wf_rise {t : V} (h : t.wf = true) (hk : t.k = 5) : Rise t.ks ∧ t.ks.length = t.its.length := by
  obtain ⟨k, n, s, its, ks⟩ := t
  have h1 := wf_map h hk
  have h2 := wf_top h
  simp only [V.k] at hk
  subst hk
  simp [V.top, uses] at h2
  exact ⟨rise_iff.1 h2.2, h1⟩
end Go.Proofs.YtdkggnciamfcmaaGreatDoor.M
