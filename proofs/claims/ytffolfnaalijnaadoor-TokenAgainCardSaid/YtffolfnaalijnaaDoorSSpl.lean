/-
  Plain mathematics of layer 7 (no program): the text of tokens.
-/
import Derived.Test.YtffolfnaalijnaaDoorSPrn
import Derived.Lib.Join
import Derived.Lib.ItoaLen
namespace Go.Proofs.YtffolfnaalijnaaDoor.Z
set_option linter.unusedVariables false
/-- The text of a token. -/
def spell1 (t : Tok) : Option (List UInt8) := if t.k = 1 ∨ t.k = 2 ∨ t.k = 5 then some t.t else if t.k = 3 then some (Lib.itoa t.v) else if t.k = 4 then some (quote t.t) else none
def spells (l : List Tok) : List (List UInt8) := l.filterMap spell1
def spell (l : List Tok) : List UInt8 := Lib.join (spells l) [32]
def Fits (B : Nat) (l : List Tok) : Prop := ∀ t ∈ l, t.t.length ≤ B ∧ -9223372036854775808 ≤ t.v ∧ t.v ≤ 9223372036854775807
theorem spells_take {l : List Tok} {j : Nat} (h : j < l.length) : spells (l.take (j + 1)) = spells (l.take j) ++ (spell1 (l.getD j default)).toList := by
  have e : l.getD j default = l[j] := by simp [List.getD, h]
  rw [List.take_succ_eq_append_getElem h, e]
  unfold spells
  rw [List.filterMap_append]
  congr 1
theorem join_snoc (L : List (List UInt8)) (x : List UInt8) : Lib.join (L ++ [x]) [32] = (if L = [] then x else Lib.join L [32] ++ [32] ++ x) := by
  cases L with
  | nil => simp [Lib.join_one]
  | cons a r =>
    rw [if_neg (by simp), List.cons_append, Lib.join_cons, Lib.join_cons]
    unfold Lib.joinTail; simp
theorem spell1_len {t : Tok} {x : List UInt8} {B : Nat} (h : spell1 t = some x) (hB : t.t.length ≤ B) (h0 : -9223372036854775808 ≤ t.v) (h1 : t.v ≤ 9223372036854775807) : x.length ≤ 4 * B + 21 := by
  unfold spell1 at h
  split at h
  · injection h with h; subst h; omega
  split at h
  · injection h with h; subst h; have := Lib.itoa_length_le t.v h0 h1; omega
  split at h
  · injection h with h; subst h; have := quote_len t.t; omega
  · cases h
theorem lens_le {B : Nat} : ∀ {l : List Tok}, Fits B l → Lib.lens (spells l) ≤ (4 * B + 21) * l.length ∧ (spells l).length ≤ l.length
  | [], _ => ⟨by simp [spells, Lib.lens], by simp [spells]⟩
  | t :: l, h => by
    have ih := lens_le (B := B) (l := l) (fun u hu => h u (List.mem_cons_of_mem _ hu))
    obtain ⟨hB, h0, h1⟩ := h t (List.mem_cons_self ..)
    have e : (4 * B + 21) * (t :: l).length = (4 * B + 21) * l.length + (4 * B + 21) := by rw [List.length_cons, Nat.mul_succ]
    cases hs : spell1 t with
    | none =>
      have e2 : spells (t :: l) = spells l := by unfold spells; simp [hs]
      rw [e2, e, List.length_cons]; omega
    | some x =>
      have e2 : spells (t :: l) = x :: spells l := by unfold spells; simp [hs]
      have := spell1_len hs hB h0 h1
      rw [e2, e, List.length_cons, List.length_cons]
      have e3 : Lib.lens (x :: spells l) = x.length + Lib.lens (spells l) := by simp [Lib.lens]
      rw [e3]; omega
theorem Fits.take {B : Nat} {l : List Tok} (h : Fits B l) (j : Nat) : Fits B (l.take j) := fun t ht => h t (List.mem_of_mem_take ht)
theorem Fits.at_ {B j : Nat} {l : List Tok} (h : Fits B l) (hj : j < l.length) : (l.getD j default).t.length ≤ B ∧ -9223372036854775808 ≤ (l.getD j default).v ∧ (l.getD j default).v ≤ 9223372036854775807 := by
  have e : l.getD j default = l[j] := by simp [List.getD, hj]
  rw [e]; exact h _ (List.getElem_mem hj)
theorem spell_len {B : Nat} {l : List Tok} (h : Fits B l) : (spell l).length ≤ (4 * B + 22) * l.length := by
  obtain ⟨h1, h2⟩ := lens_le h
  have e : (4 * B + 22) * l.length = (4 * B + 21) * l.length + l.length := by rw [← Nat.succ_mul]
  unfold spell
  cases hs : spells l with
  | nil => rw [Lib.join_nil]; simp
  | cons x r =>
    rw [hs] at h1 h2
    rw [Lib.join_length, e]
    simp only [List.length_cons, List.length_nil] at h2 ⊢
    omega
theorem spell_take_len {B j : Nat} {l : List Tok} (h : Fits B l) : (spell (l.take j)).length ≤ (4 * B + 22) * l.length := by
  have h1 := spell_len (h.take j)
  have h2 := Nat.mul_le_mul_left (4 * B + 22) (show (l.take j).length ≤ l.length by rw [List.length_take]; omega)
  omega
theorem spell_snoc_none {l : List Tok} {j : Nat} (h : j < l.length) (hs : spell1 (l.getD j default) = none) : spells (l.take (j + 1)) = spells (l.take j) := by
  rw [spells_take h, hs]; simp
theorem spell_snoc_some {l : List Tok} {j : Nat} {x : List UInt8} (h : j < l.length) (hs : spell1 (l.getD j default) = some x) : spells (l.take (j + 1)) = spells (l.take j) ++ [x] := by
  rw [spells_take h, hs]; rfl
theorem spell_none {l : List Tok} {j : Nat} (h : j < l.length) (hs : spell1 (l.getD j default) = none) : spell (l.take (j + 1)) = spell (l.take j) := by
  unfold spell; rw [spell_snoc_none h hs]
theorem spell_first {l : List Tok} {j : Nat} {x : List UInt8} (h : j < l.length) (hs : spell1 (l.getD j default) = some x) (h0 : spells (l.take j) = []) : spell (l.take (j + 1)) = spell (l.take j) ++ x := by
  unfold spell; rw [spell_snoc_some h hs, join_snoc, if_pos h0, h0, Lib.join_nil]; rfl
theorem spell_next {l : List Tok} {j : Nat} {x : List UInt8} (h : j < l.length) (hs : spell1 (l.getD j default) = some x) (h0 : spells (l.take j) ≠ []) : spell (l.take (j + 1)) = spell (l.take j) ++ [32] ++ x := by
  unfold spell; rw [spell_snoc_some h hs, join_snoc, if_neg h0]
theorem spells_more {l : List Tok} {j : Nat} {x : List UInt8} (h : j < l.length) (hs : spell1 (l.getD j default) = some x) : spells (l.take (j + 1)) ≠ [] := by
  rw [spell_snoc_some h hs]; simp
end Go.Proofs.YtffolfnaalijnaaDoor.Z
