/-
  Plain mathematics of layer 7 (no program): tokens of programs, as functions of the bytes that are left.
-/
import Derived.RowKit
import Derived.Test.YtffolfnaalijnaaDoorQMath
import Derived.Lib.Strings
namespace Go.Proofs.YtffolfnaalijnaaDoor.Z
set_option linter.unusedVariables false

def blank (c : Nat) : Bool := decide (c = 32) || decide (c = 9) || decide (c = 10)
def letter (c : Nat) : Bool := (decide (97 ≤ c) && decide (c ≤ 122)) || (decide (65 ≤ c) && decide (c ≤ 90)) || decide (c = 95)
def digit (c : Nat) : Bool := decide (48 ≤ c) && decide (c ≤ 57)
def part (c : Nat) : Bool := letter c || digit c
def signs : List Nat := [61, 33, 60, 62, 40, 41, 123, 125, 91, 93, 44, 59, 46, 58, 43, 45, 42, 47, 37]
def isSign (c : Nat) : Bool := signs.contains c
def cls (c : Nat) : Nat := if blank c then 1 else if letter c then 2 else if digit c then 3 else if c = 34 then 4 else if isSign c then 5 else 0
def clsL (l : List UInt8) : Nat := match l with
  | [] => 6
  | c :: _ => cls c.toNat
def peek (l : List UInt8) : Int := match l with
  | [] => -1
  | c :: _ => (c.toNat : Int)
def spanN (p : Nat → Bool) (l : List UInt8) : Nat := (l.takeWhile fun c => p c.toNat).length

structure Tok where
  k : Int
  pos : Int
  t : List UInt8
  v : Int
deriving DecidableEq, Inhabited
inductive R where
  | ok (k : Int) (t : List UInt8) (v : Int) (n : Nat)
  | err (e : Int)
inductive C where
  | ok (c : UInt8) (n : Nat)
  | err (e : Int)

def keywords : List (List UInt8) := [[97, 110, 100], [97, 119, 97, 105, 116], [99, 97, 115, 101], [99, 97, 116, 99, 104], [99, 104, 101, 99, 107], [101, 108, 115, 101], [102, 97, 108, 115, 101], [102, 117, 110, 99], [103, 111], [105, 102], [108, 101, 116], [110, 111, 116], [110, 117, 108, 108], [111, 110], [111, 114], [113, 117, 101, 114, 121], [114, 101, 116, 117, 114, 110], [115, 97, 103, 97], [115, 101, 108, 101, 99, 116], [115, 105, 103, 110, 97, 108], [116, 104, 114, 111, 119], [116, 114, 117, 101], [116, 114, 121], [117, 110, 100, 111], [117, 112, 100, 97, 116, 101], [118, 97, 114], [119, 104, 105, 108, 101]]
def kw (l : List UInt8) : Bool := keywords.contains l

def word (l : List UInt8) : R :=
  if 64 < spanN part l then .err 8 else .ok (if kw (l.take (spanN part l)) then 2 else 1) (l.take (spanN part l)) 0 (spanN part l)

/-- The number that digits stand for. -/
def val (l : List UInt8) : Nat := Q.val 0 l
def int (l : List UInt8) : R :=
  if (1 < spanN digit l ∧ peek l = 48) ∨ clsL (l.drop (spanN digit l)) = 2 then .err 3
  else if val (l.take (spanN digit l)) ≤ 9223372036854775807 then .ok 3 [] (val (l.take (spanN digit l)) : Int) (spanN digit l) else .err 14

def sgn (l : List UInt8) : R := match l with
  | [] => .err 3
  | c :: r => if peek r = 61 ∧ (c = 61 ∨ c = 33 ∨ c = 60 ∨ c = 62) then .ok 5 (c :: r.take 1) 0 2 else if c = 33 then .err 3 else .ok 5 [c] 0 1

def hexd (c : Nat) : Int := if digit c then (c : Int) - 48 else if 97 ≤ c ∧ c ≤ 102 then (c : Int) - 87 else -1
def num2 (l : List UInt8) : C := match l with
  | [] => .err 4
  | a :: r => if hexd a.toNat < 0 then .err 3 else match r with
    | [] => .err 4
    | b :: _ => if hexd b.toNat < 0 then .err 3 else .ok (UInt8.ofNat (16 * (hexd a.toNat).toNat + (hexd b.toNat).toNat)) 2
def C.add (r : C) (m : Nat) : C := match r with
  | .ok c n => .ok c (n + m)
  | .err e => .err e
def esc (l : List UInt8) : C := match l with
  | [] => .err 4
  | c :: r => if c = 34 ∨ c = 92 then .ok c 1 else if c = 110 then .ok 10 1 else if c = 116 then .ok 9 1 else if c = 120 then (num2 r).add 1 else .err 3
def chr (l : List UInt8) : C := match l with
  | [] => .err 4
  | c :: r => if c = 92 then (esc r).add 1 else if 32 ≤ c.toNat ∧ c.toNat ≤ 126 then .ok c 1 else .err 3
/-- The rest of a literal: what is left, what was read, how many bytes that took. -/
def litG : Nat → List UInt8 → List UInt8 → Nat → R
  | 0, _, _, _ => .err 0
  | f + 1, l, acc, n =>
    if clsL l = 4 then (if 4096 < acc.length then .err 6 else .ok 4 acc 0 (n + 1))
    else match chr l with
      | .err e => .err e
      | .ok c k => litG f (l.drop k) (acc ++ [c]) (n + k)
def lit (l : List UInt8) : R := litG l.length (l.drop 1) [] 1

def one (l : List UInt8) : R :=
  if clsL l = 2 then word l else if clsL l = 3 then int l else if clsL l = 4 then lit l else if clsL l = 5 then sgn l else if clsL l = 6 then .ok 0 [] 0 0 else .err 3

def scanG : Nat → List UInt8 → Nat → List Tok → List Tok × Nat × Int
  | 0, _, _, _ => ([], 0, 0)
  | f + 1, l, i, acc => match one (l.drop (spanN blank l)) with
    | .err e => ([], i + spanN blank l, e)
    | .ok k t v n => if k = 0 then (acc ++ [⟨k, ((i + spanN blank l : Nat) : Int), t, v⟩], 0, 0)
      else scanG f ((l.drop (spanN blank l)).drop n) (i + spanN blank l + n) (acc ++ [⟨k, ((i + spanN blank l : Nat) : Int), t, v⟩])
def scan (l : List UInt8) : List Tok × Nat × Int := if 16384 < l.length then ([], 0, 6) else scanG (l.length + 1) l 0 []

/-! Facts -/
theorem cls_le (c : Nat) : cls c ≤ 5 := by unfold cls; repeat' (first | omega | split)
theorem clsL_le (l : List UInt8) : clsL l ≤ 6 := by cases l with
  | nil => exact Nat.le_refl _
  | cons c r => have := cls_le c.toNat; show cls c.toNat ≤ 6; omega
theorem clsL_peek (l : List UInt8) : (clsL l = 6 ∧ l = []) ∨ (∃ c r, l = c :: r ∧ clsL l = cls c.toNat ∧ clsL l ≤ 5) := by cases l with
  | nil => exact .inl ⟨rfl, rfl⟩
  | cons c r => exact .inr ⟨c, r, rfl, rfl, cls_le _⟩
theorem spanN_nil (p : Nat → Bool) : spanN p [] = 0 := rfl
theorem spanN_yes {p : Nat → Bool} {c : UInt8} {r : List UInt8} (h : p c.toNat = true) : spanN p (c :: r) = spanN p r + 1 := by
  simp [spanN, List.takeWhile, h]
theorem spanN_no {p : Nat → Bool} {c : UInt8} {r : List UInt8} (h : p c.toNat = false) : spanN p (c :: r) = 0 := by
  simp [spanN, List.takeWhile, h]
theorem spanN_le (p : Nat → Bool) (l : List UInt8) : spanN p l ≤ l.length := by
  unfold spanN; exact (List.takeWhile_sublist _).length_le
theorem drop_cons {l : List UInt8} {i : Nat} (h : i < l.length) : l.drop i = l[i] :: l.drop (i + 1) := by simp
theorem blank_cls {c : Nat} : (cls c = 1) ↔ blank c = true := by
  unfold cls; constructor
  · intro h; by_cases hb : blank c = true
    · exact hb
    · rw [if_neg hb] at h; repeat' (first | omega | split at h)
  · intro h; rw [if_pos h]
theorem letter_nb {c : Nat} (h : letter c = true) : blank c = false := by
  unfold letter at h; unfold blank; simp at h ⊢; omega
theorem digit_nb {c : Nat} (h : digit c = true) : blank c = false ∧ letter c = false := by
  unfold digit at h; unfold blank letter; simp at h ⊢; omega
theorem letter_cls {c : Nat} : (cls c = 2) ↔ letter c = true := by
  unfold cls; constructor
  · intro h
    by_cases hb : blank c = true
    · rw [if_pos hb] at h; omega
    · rw [if_neg hb] at h
      by_cases hl : letter c = true
      · exact hl
      · rw [if_neg hl] at h; repeat' (first | omega | split at h)
  · intro h; rw [letter_nb h, if_neg (by decide), if_pos h]
theorem digit_cls {c : Nat} : (cls c = 3) ↔ digit c = true := by
  unfold cls; constructor
  · intro h
    by_cases hb : blank c = true
    · rw [if_pos hb] at h; omega
    · rw [if_neg hb] at h
      by_cases hl : letter c = true
      · rw [if_pos hl] at h; omega
      · rw [if_neg hl] at h
        by_cases hd : digit c = true
        · exact hd
        · rw [if_neg hd] at h; repeat' (first | omega | split at h)
  · intro h; rw [(digit_nb h).1, (digit_nb h).2, if_neg (by decide), if_neg (by decide), if_pos h]
theorem mark_cls {c : Nat} : (cls c = 4) ↔ c = 34 := by
  constructor
  · intro h; unfold cls at h
    split at h
    · omega
    split at h
    · omega
    split at h
    · omega
    split at h
    · assumption
    split at h <;> omega
  · intro h; subst h; decide
theorem litG_n : ∀ (f : Nat) (l acc : List UInt8) (n : Nat) (k : Int) (t : List UInt8) (v : Int) (m : Nat), litG f l acc n = .ok k t v m → n < m ∧ k = 4 := by
  intro f
  induction f with
  | zero => intro l acc n k t v m h; simp [litG] at h
  | succ f ih =>
    intro l acc n k t v m h
    rw [litG] at h
    split at h
    · split at h
      · cases h
      · simp only [R.ok.injEq] at h; omega
    · split at h
      · cases h
      · have := ih _ _ _ _ _ _ _ h; omega
theorem one_pos {l : List UInt8} {k v : Int} {t : List UInt8} {n : Nat} (h : one l = .ok k t v n) (hk : k ≠ 0) : 1 ≤ n := by
  unfold one at h
  split at h
  · rename_i hc
    unfold word at h
    split at h
    · cases h
    · simp only [R.ok.injEq] at h
      cases l with
      | nil => exact absurd hc (by decide)
      | cons c r =>
        have hl := letter_cls.1 hc
        have : spanN part (c :: r) = spanN part r + 1 := spanN_yes (by unfold part; rw [hl]; rfl)
        omega
  split at h
  · rename_i hc
    unfold int at h
    split at h
    · cases h
    split at h
    · simp only [R.ok.injEq] at h
      cases l with
      | nil => exact absurd hc (by decide)
      | cons c r =>
        have : spanN digit (c :: r) = spanN digit r + 1 := spanN_yes (digit_cls.1 hc)
        omega
    · cases h
  split at h
  · unfold lit at h
    have := litG_n _ _ _ _ _ _ _ _ h
    omega
  split at h
  · cases l with
    | nil => simp [sgn] at h
    | cons c r =>
      simp only [sgn] at h
      split at h
      · simp only [R.ok.injEq] at h; omega
      split at h
      · cases h
      · simp only [R.ok.injEq] at h; omega
  split at h
  · simp only [R.ok.injEq] at h; omega
  · cases h
theorem one_kind {l : List UInt8} {k v : Int} {t : List UInt8} {n : Nat} (h : one l = .ok k t v n) : 0 ≤ k ∧ k ≤ 5 ∧ (k = 0 → n = 0 ∧ l = []) := by
  unfold one at h
  split at h
  · unfold word at h
    split at h
    · cases h
    · simp only [R.ok.injEq] at h
      obtain ⟨h1, _⟩ := h
      split at h1 <;> omega
  split at h
  · unfold int at h
    split at h
    · cases h
    split at h
    · simp only [R.ok.injEq] at h; omega
    · cases h
  split at h
  · unfold lit at h
    have := litG_n _ _ _ _ _ _ _ _ h
    omega
  split at h
  · cases l with
    | nil => simp [sgn] at h
    | cons c r =>
      simp only [sgn] at h
      split at h
      · simp only [R.ok.injEq] at h; omega
      split at h
      · cases h
      · simp only [R.ok.injEq] at h; omega
  split at h
  · rename_i h6
    simp only [R.ok.injEq] at h
    refine ⟨by omega, by omega, fun _ => ⟨by omega, ?_⟩⟩
    cases l with
    | nil => rfl
    | cons c r => have := cls_le c.toNat; have h6 : cls c.toNat = 6 := h6; omega
  · cases h
end Go.Proofs.YtffolfnaalijnaaDoor.Z
