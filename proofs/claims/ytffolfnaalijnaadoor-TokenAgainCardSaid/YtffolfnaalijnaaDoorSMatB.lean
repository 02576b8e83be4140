/-
  Plain mathematics of layer 7 (no program): offsets, blanks ahead of a text, literals.
-/
import Derived.Test.YtffolfnaalijnaaDoorSPrn
namespace Go.Proofs.YtffolfnaalijnaaDoor.Z
set_option linter.unusedVariables false

theorem one_end {l : List UInt8} {k v : Int} {t : List UInt8} {n : Nat} (h : one l = .ok k t v n) (hk : k = 0) : l = [] ∧ n = 0 ∧ t = [] ∧ v = 0 := by
  have h1 := one_kind h
  obtain ⟨_, _, h2⟩ := h1
  obtain ⟨rfl, rfl⟩ := h2 hk
  have e : one [] = .ok 0 [] 0 0 := rfl
  rw [e] at h
  simp only [R.ok.injEq] at h
  exact ⟨rfl, rfl, h.2.1.symm, h.2.2.1.symm⟩
theorem one_nil : one [] = .ok 0 [] 0 0 := rfl
theorem num2_len {l : List UInt8} {c : UInt8} {k : Nat} (h : num2 l = .ok c k) : k ≤ l.length ∧ 1 ≤ k := by
  match l with
  | [] => simp [num2] at h
  | [a] =>
    simp only [num2] at h
    split at h <;> cases h
  | a :: b :: r =>
    simp only [num2] at h
    split at h
    · cases h
    split at h
    · cases h
    simp only [C.ok.injEq] at h
    simp; omega
theorem add_ok {r : C} {m : Nat} {c : UInt8} {k : Nat} (h : r.add m = .ok c k) : ∃ n, r = .ok c n ∧ k = n + m := by
  cases r with
  | ok c' n => simp only [C.add, C.ok.injEq] at h; exact ⟨n, by rw [h.1], h.2.symm⟩
  | err e => simp [C.add] at h
theorem add_err {r : C} {m : Nat} {e : Int} (h : r.add m = .err e) : r = .err e := by
  cases r with
  | ok c' n => simp [C.add] at h
  | err e' => simpa [C.add] using h
theorem esc_len {l : List UInt8} {c : UInt8} {k : Nat} (h : esc l = .ok c k) : k ≤ l.length ∧ 1 ≤ k := by
  cases l with
  | nil => simp [esc] at h
  | cons a r =>
    simp only [esc] at h
    split at h
    · simp only [C.ok.injEq] at h; simp; omega
    split at h
    · simp only [C.ok.injEq] at h; simp; omega
    split at h
    · simp only [C.ok.injEq] at h; simp; omega
    split at h
    · obtain ⟨n, h1, rfl⟩ := add_ok h
      have := num2_len h1
      simp; omega
    · cases h
theorem chr_len {l : List UInt8} {c : UInt8} {k : Nat} (h : chr l = .ok c k) : k ≤ l.length ∧ 1 ≤ k := by
  cases l with
  | nil => simp [chr] at h
  | cons a r =>
    simp only [chr] at h
    split at h
    · obtain ⟨n, h1, rfl⟩ := add_ok h
      have := esc_len h1
      simp; omega
    split at h
    · simp only [C.ok.injEq] at h; simp; omega
    · cases h
theorem num2_err {l : List UInt8} {e : Int} (h : num2 l = .err e) : e = 3 ∨ e = 4 := by
  match l with
  | [] => simp only [num2, C.err.injEq] at h; omega
  | [a] =>
    simp only [num2] at h
    split at h
    · simp only [C.err.injEq] at h; omega
    · simp only [C.err.injEq] at h; omega
  | a :: b :: r =>
    simp only [num2] at h
    split at h
    · simp only [C.err.injEq] at h; omega
    split at h
    · simp only [C.err.injEq] at h; omega
    · cases h
theorem esc_err {l : List UInt8} {e : Int} (h : esc l = .err e) : e = 3 ∨ e = 4 := by
  cases l with
  | nil => simp only [esc, C.err.injEq] at h; omega
  | cons a r =>
    simp only [esc] at h
    split at h
    · cases h
    split at h
    · cases h
    split at h
    · cases h
    split at h
    · exact num2_err (add_err h)
    · simp only [C.err.injEq] at h; omega
theorem chr_err {l : List UInt8} {e : Int} (h : chr l = .err e) : e = 3 ∨ e = 4 := by
  cases l with
  | nil => simp only [chr, C.err.injEq] at h; omega
  | cons a r =>
    simp only [chr] at h
    split at h
    · exact esc_err (add_err h)
    split at h
    · cases h
    · simp only [C.err.injEq] at h; omega
theorem litG_err : ∀ (f : Nat) (l acc : List UInt8) (n : Nat) (e : Int), l.length < f → litG f l acc n = .err e → e ≠ 0 := by
  intro f
  induction f with
  | zero => intro l acc n e h; omega
  | succ f ih =>
    intro l acc n e hl h
    rw [litG] at h
    split at h
    · split at h
      · simp only [R.err.injEq] at h; omega
      · cases h
    · cases hc : chr l with
      | err e' =>
        rw [hc] at h
        have h : R.err e' = .err e := h
        simp only [R.err.injEq] at h
        have := chr_err hc
        omega
      | ok c k =>
        rw [hc] at h
        have hk := chr_len hc
        exact ih _ _ _ _ (by rw [List.length_drop]; omega) h
theorem litG_len : ∀ (f : Nat) (l acc : List UInt8) (n : Nat) (k : Int) (t : List UInt8) (v : Int) (m : Nat), litG f l acc n = .ok k t v m → m ≤ n + l.length := by
  intro f
  induction f with
  | zero => intro l acc n k t v m h; simp [litG] at h
  | succ f ih =>
    intro l acc n k t v m h
    rw [litG] at h
    split at h
    · rename_i h4
      split at h
      · cases h
      · simp only [R.ok.injEq] at h
        cases l with
        | nil => exact absurd h4 (by decide)
        | cons c r => simp; omega
    · cases hc : chr l with
      | err e' => rw [hc] at h; cases h
      | ok c k =>
        rw [hc] at h
        have hk := chr_len hc
        have := ih _ _ _ _ _ _ _ h
        rw [List.length_drop] at this
        omega
theorem one_err {l : List UInt8} {e : Int} (h : one l = .err e) : e ≠ 0 := by
  unfold one at h
  split at h
  · unfold word at h
    split at h
    · simp only [R.err.injEq] at h; omega
    · cases h
  split at h
  · unfold int at h
    split at h
    · simp only [R.err.injEq] at h; omega
    split at h
    · cases h
    · simp only [R.err.injEq] at h; omega
  split at h
  · rename_i h4
    unfold lit at h
    cases l with
    | nil => exact absurd h4 (by decide)
    | cons c r => exact litG_err _ _ _ _ _ (by simp) h
  split at h
  · cases l with
    | nil => simp only [sgn, R.err.injEq] at h; omega
    | cons c r =>
      simp only [sgn] at h
      split at h
      · cases h
      split at h
      · simp only [R.err.injEq] at h; omega
      · cases h
  split at h
  · cases h
  · simp only [R.err.injEq] at h; omega
theorem one_len {l : List UInt8} {k v : Int} {t : List UInt8} {n : Nat} (h : one l = .ok k t v n) : n ≤ l.length := by
  unfold one at h
  split at h
  · unfold word at h
    split at h
    · cases h
    · simp only [R.ok.injEq] at h; have := spanN_le part l; omega
  split at h
  · unfold int at h
    split at h
    · cases h
    split at h
    · simp only [R.ok.injEq] at h; have := spanN_le digit l; omega
    · cases h
  split at h
  · rename_i h4
    unfold lit at h
    cases l with
    | nil => exact absurd h4 (by decide)
    | cons c r => have := litG_len _ _ _ _ _ _ _ _ h; simp at this ⊢; omega
  split at h
  · cases l with
    | nil => simp [sgn] at h
    | cons c r =>
      simp only [sgn] at h
      split at h
      · rename_i hc
        simp only [R.ok.injEq] at h
        cases r with
        | nil => exact absurd hc.1 (by decide)
        | cons d r => simp; omega
      split at h
      · cases h
      · simp only [R.ok.injEq] at h; simp; omega
  split at h
  · simp only [R.ok.injEq] at h; omega
  · cases h
/-- Behind a span stands no byte of its kind. -/
theorem span_head (p : Nat → Bool) (l : List UInt8) : ∀ c r, l.drop (spanN p l) = c :: r → p c.toNat = false := by
  induction l with
  | nil => intro c r h; simp at h
  | cons a l ih =>
    intro c r h
    cases hp : p a.toNat with
    | true => rw [spanN_yes hp, List.drop_succ_cons] at h; exact ih c r h
    | false => rw [spanN_no hp, List.drop_zero] at h; injection h with h1 h2; rw [← h1]; exact hp

/-- The tokens so far: their offsets increase, and each begins with a byte that is no blank. -/
structure Inv (L : List UInt8) (acc : List Tok) (i : Nat) : Prop where
  each : ∀ j, j < acc.length → (acc.getD j default).k ≠ 0 ∧ ∃ p : Nat, (acc.getD j default).pos = (p : Int) ∧ p < i ∧ ∃ hp : p < L.length, blank (L[p]).toNat = false
  rise : ∀ j, j + 1 < acc.length → (acc.getD j default).pos < (acc.getD (j + 1) default).pos
def Fin (L : List UInt8) (T : List Tok) : Prop := ∃ acc, T = acc ++ [⟨0, (L.length : Int), [], 0⟩] ∧ Inv L acc L.length
theorem getD_snoc (acc : List Tok) (t : Tok) (j : Nat) (h : j < acc.length) : (acc ++ [t]).getD j default = acc.getD j default := by
  simp [List.getD, List.getElem?_append_left h]
theorem getD_last (acc : List Tok) (t : Tok) : (acc ++ [t]).getD acc.length default = t := by simp [List.getD]

theorem Inv.more {L : List UInt8} {acc : List Tok} {i i' p : Nat} {k v : Int} {t : List UInt8} (h : Inv L acc i) (hk : k ≠ 0) (hi : i ≤ p) (hp : p < i') (hl : ∃ hp : p < L.length, blank (L[p]).toNat = false) : Inv L (acc ++ [⟨k, (p : Int), t, v⟩]) i' := by
  constructor
  · intro j hj
    rw [List.length_append, List.length_singleton] at hj
    rcases Nat.lt_or_ge j acc.length with h1 | h1
    · rw [getD_snoc _ _ _ h1]
      obtain ⟨h2, q, h3, h4, h5⟩ := h.each j h1
      exact ⟨h2, q, h3, by omega, h5⟩
    · obtain rfl : j = acc.length := by omega
      rw [getD_last]
      exact ⟨hk, p, rfl, hp, hl⟩
  · intro j hj
    rw [List.length_append, List.length_singleton] at hj
    rcases Nat.lt_or_ge (j + 1) acc.length with h1 | h1
    · rw [getD_snoc _ _ _ (by omega), getD_snoc _ _ _ h1]
      exact h.rise j h1
    · have e : j + 1 = acc.length := by omega
      rw [getD_snoc _ _ _ (by omega), e, getD_last]
      obtain ⟨_, q, h3, h4, _⟩ := h.each j (by omega)
      rw [h3]
      show (q : Int) < (p : Int)
      omega

theorem scanG_off (L : List UInt8) : ∀ (f i : Nat) (acc : List Tok), i ≤ L.length → Inv L acc i → L.length - i < f → (scanG f (L.drop i) i acc).2.2 = 0 → Fin L (scanG f (L.drop i) i acc).1 := by
  intro f
  induction f with
  | zero => intro i acc _ _ h; omega
  | succ f ih =>
    intro i acc hi hI hf he
    obtain ⟨b, hb⟩ : ∃ b, b = spanN blank (L.drop i) := ⟨_, rfl⟩
    have hbl := spanN_le blank (L.drop i)
    rw [List.length_drop] at hbl
    have hd : (L.drop i).drop (spanN blank (L.drop i)) = L.drop (i + b) := by rw [List.drop_drop, hb]
    rw [scanG, hd, ← hb] at he ⊢
    rw [← hb] at hbl
    cases ho : one (L.drop (i + b)) with
    | err e =>
      rw [ho] at he
      exfalso
      have he : e = 0 := he
      exact one_err ho he
    | ok k t v n =>
      rw [ho] at he
      by_cases hk : k = 0
      · obtain ⟨h1, rfl, rfl, rfl⟩ := one_end ho hk
        have hL : i + b = L.length := by
          have := congrArg List.length h1
          rw [List.length_drop] at this
          simp at this
          omega
        show Fin L (if k = 0 then _ else _ : List Tok × Nat × Int).1
        rw [if_pos hk, hL, hk]
        refine ⟨acc, rfl, ?_⟩
        constructor
        · intro j hj
          obtain ⟨h2, q, h3, h4, h5⟩ := hI.each j hj
          exact ⟨h2, q, h3, by omega, h5⟩
        · exact hI.rise
      · have hn := one_pos ho hk
        have hp : i + b < L.length := by
          refine Nat.lt_of_not_le fun hge => ?_
          rw [List.drop_eq_nil_of_le hge, one_nil] at ho
          simp only [R.ok.injEq] at ho
          exact hk ho.1.symm
        have hnb : blank (L[i + b]).toNat = false := by
          refine span_head blank (L.drop i) _ (L.drop (i + b + 1)) ?_
          rw [hd, List.drop_eq_getElem_cons hp]
        have hnl := one_len ho
        rw [List.length_drop] at hnl
        show Fin L (if k = 0 then _ else _ : List Tok × Nat × Int).1
        have he' : (if k = 0 then (acc ++ [(⟨k, ((i + b : Nat) : Int), t, v⟩ : Tok)], 0, 0) else scanG f ((L.drop (i + b)).drop n) (i + b + n) (acc ++ [⟨k, ((i + b : Nat) : Int), t, v⟩]) : List Tok × Nat × Int).2.2 = 0 := he
        rw [if_neg hk, List.drop_drop] at he' ⊢
        exact ih (i + b + n) _ (by omega) (hI.more hk (by omega) (by omega) ⟨hp, hnb⟩) (by omega) he'
end Go.Proofs.YtffolfnaalijnaaDoor.Z
