/-
  Plain mathematics of layer 3 (no program): reading a text, as functions of the place and the number of values begun.
-/
import Derived.Test.YtdkggnciamfcmaaGreatDoorVal7
import Derived.Lib.Bytealg
namespace Go.Proofs.YtdkggnciamfcmaaGreatDoor.M

/-- What a reading gives: a result, the next place and the values begun; or the place and the kind of the first error. -/
inductive Res (α : Type) where
  | ok (a : α) (i b : Nat)
  | no (i : Nat) (e : Int)
def Res.then {α β : Type} (r : Res α) (f : α → Nat → Nat → Res β) : Res β :=
  match r with
  | .ok a i b => f a i b
  | .no i e => .no i e
theorem Res.then_ok {α β : Type} (a : α) (i b : Nat) (f : α → Nat → Nat → Res β) : (Res.ok a i b).then f = f a i b := rfl
theorem Res.then_no {α β : Type} (i : Nat) (e : Int) (f : α → Nat → Nat → Res β) : (Res.no i e : Res α).then f = .no i e := rfl

/-- The byte at a place. -/
def ch (s : ByteArray) (i : Nat) : Nat := (s.data.toList.getD i 0).toNat
theorem ch_lt (s : ByteArray) (i : Nat) : ch s i < 256 := (s.data.toList.getD i 0).toNat_lt
theorem ch_at {s : ByteArray} {i : Nat} (h : i < s.size) : s[i].toNat = ch s i := by
  unfold ch
  rw [List.getD, List.getElem?_eq_getElem (by simpa using h)]
  rfl
def blank (c : Nat) : Bool := c == 32 || c == 9 || c == 10 || c == 13
theorem blank_yes {c : Nat} (h : c = 32 ∨ c = 9 ∨ c = 10 ∨ c = 13) : blank c = true := by unfold blank; simp; omega
theorem blank_no {c : Nat} (h : ¬ (c = 32 ∨ c = 9 ∨ c = 10 ∨ c = 13)) : blank c = false := by unfold blank; simp; omega
theorem int_beq (c k : Nat) : ((c : Int) == (k : Int)) = (c == k) := by
  rcases Nat.decEq c k with h | h
  · rw [beq_eq_false_iff_ne.2 h, beq_eq_false_iff_ne]; omega
  · subst h; simp
theorem blank_int (c : Nat) : ((c : Int) == 32 || (c : Int) == 9 || (c : Int) == 10 || (c : Int) == 13) = blank c := by
  have h1 := int_beq c 32; have h2 := int_beq c 9; have h3 := int_beq c 10; have h4 := int_beq c 13
  unfold blank; rw [← h1, ← h2, ← h3, ← h4]; rfl
def digit (c : Nat) : Bool := decide (48 ≤ c) && decide (c ≤ 57)
def plain (c : Nat) : Bool := decide (32 ≤ c) && decide (c ≤ 126)

theorem plain_int (c : Nat) : (decide ((32 : Int) ≤ (c : Int)) && decide ((c : Int) ≤ 126)) = plain c := by
  unfold plain
  congr 1 <;> (rw [decide_eq_decide]; omega)
theorem plain_yes {c : Nat} (h : 32 ≤ c ∧ c ≤ 126) : plain c = true := by unfold plain; simp; omega
theorem plain_no {c : Nat} (h : ¬ (32 ≤ c ∧ c ≤ 126)) : plain c = false := by unfold plain; simp; omega
theorem digit_int (c : Nat) : (decide ((48 : Int) ≤ (c : Int)) && decide ((c : Int) ≤ 57)) = digit c := by
  unfold digit
  congr 1 <;> (rw [decide_eq_decide]; omega)
theorem digit_yes {c : Nat} (h : 48 ≤ c ∧ c ≤ 57) : digit c = true := by unfold digit; simp; omega
theorem digit_no {c : Nat} (h : ¬ (48 ≤ c ∧ c ≤ 57)) : digit c = false := by unfold digit; simp; omega

/-- The next place that holds no blank; at most k places on. -/
def skipF (s : ByteArray) : Nat → Nat → Nat
  | 0, i => i
  | k + 1, i => if blank (ch s i) = true then skipF s k (i + 1) else i
def skip (s : ByteArray) (i : Nat) : Nat := skipF s (s.size - i) i
theorem skip_end {s : ByteArray} {i : Nat} (h : s.size ≤ i) : skip s i = i := by unfold skip; rw [show s.size - i = 0 by omega]; rfl
theorem skip_yes {s : ByteArray} {i : Nat} (h : i < s.size) (hb : blank (ch s i) = true) : skip s i = skip s (i + 1) := by
  unfold skip
  rw [show s.size - i = (s.size - (i + 1)) + 1 by omega, skipF, if_pos hb]
theorem skip_no {s : ByteArray} {i : Nat} (hb : blank (ch s i) = false) : skip s i = i := by
  unfold skip
  cases s.size - i with
  | zero => rfl
  | succ k => rw [skipF, if_neg (by rw [hb]; decide)]
theorem skipF_le (s : ByteArray) : ∀ k i, i ≤ skipF s k i ∧ skipF s k i ≤ i + k
  | 0, i => ⟨Nat.le_refl _, Nat.le_refl _⟩
  | k + 1, i => by
    rw [skipF]
    split
    · have := skipF_le s k (i + 1); omega
    · omega
theorem skip_le {s : ByteArray} {i : Nat} (h : i ≤ s.size) : i ≤ skip s i ∧ skip s i ≤ s.size := by
  have := skipF_le s (s.size - i) i
  unfold skip; omega

/-- The next byte. -/
def take (s : ByteArray) (i b : Nat) : Res Nat := if i < s.size then .ok (ch s i) (i + 1) b else .no i 4
def vis (s : ByteArray) (i b : Nat) : Res Nat := take s (skip s i) b
theorem take_ok {s : ByteArray} {i b : Nat} (h : i < s.size) : take s i b = .ok (ch s i) (i + 1) b := if_pos h
theorem take_no {s : ByteArray} {i b : Nat} (h : ¬ i < s.size) : take s i b = .no i 4 := if_neg h
theorem take_inv {s : ByteArray} {i b c j b' : Nat} (h : Res.ok c j b' = take s i b) : i < s.size ∧ c = ch s i ∧ j = i + 1 ∧ b' = b := by
  unfold take at h
  split at h
  · injection h with h1 h2 h3; exact ⟨‹_›, h1, h2, h3⟩
  · cases h
theorem vis_inv {s : ByteArray} {i b c j b' : Nat} (h : Res.ok c j b' = vis s i b) : skip s i < s.size ∧ c = ch s (skip s i) ∧ j = skip s i + 1 ∧ b' = b := take_inv h

/-- A byte that must be another one. -/
def want (x c i b : Nat) : Res Unit := if c = x then .ok () i b else .no (i - 1) 3
def first (s : ByteArray) (cl i b : Nat) : Res Bool := (vis s i b).then fun c j b => if c = cl then .ok false j b else .ok true (j - 1) b
def next (s : ByteArray) (cl i b : Nat) : Res Bool := (vis s i b).then fun c j b => if c = 44 then .ok true j b else if c = cl then .ok false j b else .no (j - 1) 3
/-- A hexadecimal digit; an escape; a byte of a literal. -/
def hexN (c : Nat) : Int := if 48 ≤ c ∧ c ≤ 57 then (c : Int) - 48 else if 97 ≤ c ∧ c ≤ 102 then (c : Int) - 87 else -1
def hexD (s : ByteArray) (i b : Nat) : Res Nat := (take s i b).then fun c j b => if hexN c < 0 then .no (j - 1) 3 else .ok (hexN c).toNat j b
def esc (s : ByteArray) (i b : Nat) : Res Nat := (take s i b).then fun c j b =>
  if c = 110 then .ok 10 j b else if c = 116 then .ok 9 j b
  else if c = 120 then (hexD s j b).then fun h k b => (hexD s k b).then fun l m b => .ok (16 * h + l) m b
  else if c = 34 ∨ c = 92 then .ok c j b else .no (j - 1) 3
def letter (s : ByteArray) (c i b : Nat) : Res Nat := if c = 92 then esc s i b else if plain c = true then .ok c i b else .no (i - 1) 3
def litL (s : ByteArray) : Nat → List UInt8 → Nat → Nat → Nat → Res (List UInt8)
  | 0, _, _, i, _ => .no i 4
  | f + 1, acc, c, i, b => if c = 34 then .ok acc i b else (letter s c i b).then fun x j b => (take s j b).then fun d k b => litL s f (acc ++ [UInt8.ofNat x]) d k b
def lit (s : ByteArray) (i b : Nat) : Res ByteArray := (take s i b).then fun c j b => (litL s (s.size + 1 - j) [] c j b).then fun l k b => if 4096 < l.length then .no (i - 1) 6 else .ok ⟨l.toArray⟩ k b

theorem hexN_index : ∀ c : Nat, c < 256 → Go.Lib.indexByte [48, 49, 50, 51, 52, 53, 54, 55, 56, 57, 97, 98, 99, 100, 101, 102] (UInt8.ofNat c) = hexN c := by decide +kernel
theorem hexN_lt (c : Nat) : -1 ≤ hexN c ∧ hexN c < 16 := by unfold hexN; split; omega; split <;> omega
theorem hexD_inv {s : ByteArray} {i b x j b' : Nat} (h : Res.ok x j b' = hexD s i b) : i < s.size ∧ x < 16 ∧ j = i + 1 ∧ b' = b := by
  unfold hexD at h
  obtain ⟨q, hq⟩ : ∃ q, q = take s i b := ⟨_, rfl⟩
  rw [← hq] at h
  cases q with
  | no k e => cases h
  | ok c k b2 =>
    obtain ⟨h1, h2, h3, h4⟩ := take_inv hq
    rw [Res.then_ok] at h
    have h5 := hexN_lt c
    split at h
    · cases h
    · injection h with e1 e2 e3
      exact ⟨h1, by omega, by omega, by omega⟩
theorem esc_inv {s : ByteArray} {i b x j b' : Nat} (h : Res.ok x j b' = esc s i b) : x < 256 ∧ i < j ∧ j ≤ s.size ∧ b' = b := by
  unfold esc at h
  obtain ⟨q, hq⟩ : ∃ q, q = take s i b := ⟨_, rfl⟩
  rw [← hq] at h
  cases q with
  | no k e => cases h
  | ok c k b2 =>
    obtain ⟨h1, h2, h3, h4⟩ := take_inv hq
    have hc := ch_lt s i
    rw [Res.then_ok] at h
    split at h
    · injection h with e1 e2 e3; omega
    · split at h
      · injection h with e1 e2 e3; omega
      · split at h
        · obtain ⟨q2, hq2⟩ : ∃ q, q = hexD s k b2 := ⟨_, rfl⟩
          rw [← hq2] at h
          cases q2 with
          | no k e => cases h
          | ok x1 k1 b3 =>
            obtain ⟨g1, g2, g3, g4⟩ := hexD_inv hq2
            rw [Res.then_ok] at h
            obtain ⟨q3, hq3⟩ : ∃ q, q = hexD s k1 b3 := ⟨_, rfl⟩
            rw [← hq3] at h
            cases q3 with
            | no k e => cases h
            | ok x2 k2 b4 =>
              obtain ⟨f1, f2, f3, f4⟩ := hexD_inv hq3
              rw [Res.then_ok] at h
              injection h with e1 e2 e3; omega
        · split at h
          · injection h with e1 e2 e3; omega
          · cases h
theorem letter_inv {s : ByteArray} {c i b x j b' : Nat} (hi : i ≤ s.size) (hc : c < 256) (h : Res.ok x j b' = letter s c i b) : x < 256 ∧ i ≤ j ∧ j ≤ s.size ∧ b' = b := by
  unfold letter at h
  split at h
  · have := esc_inv h; omega
  · split at h
    · injection h with e1 e2 e3; omega
    · cases h

/-- The bytes that begin a value: n t f " [ { - and the digits. -/
def starts (c : Nat) : Bool := c == 110 || c == 116 || c == 102 || c == 34 || c == 91 || c == 123 || c == 45 || digit c
theorem starts_index : ∀ c : Nat, c < 256 → decide (Go.Lib.indexByte [110, 116, 102, 34, 91, 123, 45, 48, 49, 50, 51, 52, 53, 54, 55, 56, 57] (UInt8.ofNat c) < 0) = !starts c := by decide +kernel
theorem starts_index_no {c : Nat} (hc : c < 256) (h : starts c = false) : Go.Lib.indexByte [110, 116, 102, 34, 91, 123, 45, 48, 49, 50, 51, 52, 53, 54, 55, 56, 57] (UInt8.ofNat c) < 0 := by
  have := starts_index c hc
  rw [h] at this
  exact of_decide_eq_true this
theorem starts_index_yes {c : Nat} (hc : c < 256) (h : starts c = true) : ¬ Go.Lib.indexByte [110, 116, 102, 34, 91, 123, 45, 48, 49, 50, 51, 52, 53, 54, 55, 56, 57] (UInt8.ofNat c) < 0 := by
  have := starts_index c hc
  rw [h] at this
  exact of_decide_eq_false this
/-- The first byte of a value at a depth. -/
def bgn (s : ByteArray) (depth i b : Nat) : Res Nat := (vis s i b).then fun c j b =>
  if starts c = false then .no (j - 1) 3 else if 16 < depth then .no (j - 1) 7 else if b = 1000 then .no (j - 1) 6 else .ok c j (b + 1)
/-- The rest of a word. -/
def word (s : ByteArray) : List UInt8 → Nat → Nat → Res Unit
  | [], i, b => .ok () i b
  | x :: r, i, b => (take s i b).then fun d j b => (want x.toNat d j b).then fun _ j b => word s r j b
end Go.Proofs.YtdkggnciamfcmaaGreatDoor.M
