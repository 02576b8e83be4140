/-
  Plain mathematics of layer 7 (no program): literals as text.
-/
import Derived.Test.YtffolfnaalijnaaDoorSMath
namespace Go.Proofs.YtffolfnaalijnaaDoor.Z
set_option linter.unusedVariables false
def hexc (n : Nat) : UInt8 := if n < 10 then UInt8.ofNat (48 + n) else UInt8.ofNat (87 + n)
/-- What stands for a byte in a literal. -/
def esc1 (c : Nat) : List UInt8 :=
  if c = 34 ∨ c = 92 then [92, UInt8.ofNat c] else if c = 10 then [92, 110] else if c = 9 then [92, 116]
  else if 32 ≤ c ∧ c ≤ 126 then [UInt8.ofNat c] else [92, 120, hexc (c / 16), hexc (c % 16)]
def escs (l : List UInt8) : List UInt8 := l.flatMap fun c => esc1 c.toNat
def quote (l : List UInt8) : List UInt8 := 34 :: escs l ++ [34]
theorem escs_nil : escs [] = [] := rfl
theorem escs_cons (c : UInt8) (l : List UInt8) : escs (c :: l) = esc1 c.toNat ++ escs l := by unfold escs; rw [List.flatMap_cons]
theorem escs_append (a b : List UInt8) : escs (a ++ b) = escs a ++ escs b := by unfold escs; rw [List.flatMap_append]
theorem escs_snoc (l : List UInt8) (c : UInt8) : escs (l ++ [c]) = escs l ++ esc1 c.toNat := by rw [escs_append, escs_cons, escs_nil, List.append_nil]
theorem escs_take {l : List UInt8} {k : Nat} (h : k < l.length) : escs (l.take (k + 1)) = escs (l.take k) ++ esc1 (l[k]).toNat := by
  rw [List.take_succ_eq_append_getElem h, escs_snoc]
theorem esc1_len (c : Nat) : 1 ≤ (esc1 c).length ∧ (esc1 c).length ≤ 4 := by
  unfold esc1; split
  · simp
  split
  · simp
  split
  · simp
  split <;> simp
theorem escs_len (l : List UInt8) : (escs l).length ≤ 4 * l.length := by
  induction l with
  | nil => simp [escs_nil]
  | cons c l ih => rw [escs_cons, List.length_append, List.length_cons]; have := (esc1_len c.toNat).2; omega
theorem quote_len (l : List UInt8) : (quote l).length ≤ 4 * l.length + 2 := by
  unfold quote; have := escs_len l; simp; omega

theorem escs_take_le (l : List UInt8) (k : Nat) : (escs (l.take k)).length ≤ (escs l).length := by
  have h := escs_append (l.take k) (l.drop k)
  rw [List.take_append_drop] at h
  rw [h, List.length_append]; omega
theorem escs_ge (l : List UInt8) : l.length ≤ (escs l).length := by
  induction l with
  | nil => simp [escs_nil]
  | cons c l ih => rw [escs_cons, List.length_append, List.length_cons]; have := (esc1_len c.toNat).1; omega
theorem quote_ge (l : List UInt8) : (quote l).length = (escs l).length + 2 := by unfold quote; simp
end Go.Proofs.YtffolfnaalijnaaDoor.Z
