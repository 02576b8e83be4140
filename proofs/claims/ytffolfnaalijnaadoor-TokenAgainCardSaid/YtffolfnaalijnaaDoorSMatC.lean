/-
  Plain mathematics of layer 7 (no program): blanks ahead of a text, literals read back.
-/
import Derived.Test.YtffolfnaalijnaaDoorSMatB
namespace Go.Proofs.YtffolfnaalijnaaDoor.Z
set_option linter.unusedVariables false

theorem scan_off {l : List UInt8} (he : (scan l).2.2 = 0) : Fin l (scan l).1 := by
  unfold scan at he ⊢
  split at he
  · simp at he
  · rename_i h
    rw [if_neg h]
    exact scanG_off l _ 0 [] (by omega) ⟨fun j hj => absurd hj (by simp), fun j hj => absurd hj (by simp)⟩ (by omega) he

def sh (k : Nat) (t : Tok) : Tok := ⟨t.k, t.pos + (k : Int), t.t, t.v⟩
theorem scanG_shift (m : Nat) : ∀ (f : Nat) (l : List UInt8) (i : Nat) (acc : List Tok), scanG f l (i + m) (acc.map (sh m)) = ((scanG f l i acc).1.map (sh m), (if (scanG f l i acc).2.2 = 0 then 0 else (scanG f l i acc).2.1 + m), (scanG f l i acc).2.2) := by
  intro f
  induction f with
  | zero => intro l i acc; rfl
  | succ f ih =>
    intro l i acc
    rw [scanG, scanG]
    cases ho : one (l.drop (spanN blank l)) with
    | err e =>
      have he := one_err ho
      simp only [if_neg he, List.map_nil, Prod.mk.injEq, true_and, and_true]
      omega
    | ok k t v n =>
      have ht : (acc.map (sh m) ++ [(⟨k, ((i + m + spanN blank l : Nat) : Int), t, v⟩ : Tok)]) = (acc ++ [(⟨k, ((i + spanN blank l : Nat) : Int), t, v⟩ : Tok)]).map (sh m) := by
        rw [List.map_append, List.map_singleton]
        have e : ((i + m + spanN blank l : Nat) : Int) = ((i + spanN blank l : Nat) : Int) + (m : Int) := by omega
        rw [e]
        rfl
      by_cases hk : k = 0
      · simp only [if_pos hk, ht]; rfl
      · simp only [if_neg hk, ht]
        rw [show i + m + spanN blank l + n = i + spanN blank l + n + m by omega]
        exact ih _ _ _
theorem scanG_fuel : ∀ (f g : Nat) (l : List UInt8) (i : Nat) (acc : List Tok), l.length < f → l.length < g → scanG f l i acc = scanG g l i acc := by
  intro f
  induction f with
  | zero => intro g l i acc h; omega
  | succ f ih =>
    intro g l i acc h1 h2
    obtain ⟨g, rfl⟩ : ∃ g', g = g' + 1 := ⟨g - 1, by omega⟩
    rw [scanG, scanG]
    cases ho : one (l.drop (spanN blank l)) with
    | err e => rfl
    | ok k t v n =>
      by_cases hk : k = 0
      · simp only [if_pos hk]
      · have hn := one_pos ho hk
        have hnl := one_len ho
        simp only [if_neg hk]
        have hbl := spanN_le blank l
        rw [List.length_drop] at hnl
        exact ih _ _ _ _ (by rw [List.length_drop, List.length_drop]; omega) (by rw [List.length_drop, List.length_drop]; omega)
theorem scanG_blank {c : UInt8} (hc : blank c.toNat = true) (f : Nat) (l : List UInt8) (i : Nat) (acc : List Tok) : scanG (f + 1) (c :: l) i acc = scanG (f + 1) l (i + 1) acc := by
  rw [scanG, scanG, spanN_yes hc, List.drop_succ_cons]
  rw [show i + (spanN blank l + 1) = i + 1 + spanN blank l by omega]
theorem scanG_blanks (f : Nat) (l : List UInt8) (acc : List Tok) : ∀ (m i : Nat), scanG (f + 1) (List.replicate m 32 ++ l) i acc = scanG (f + 1) l (i + m) acc := by
  intro m
  induction m with
  | zero => intro i; rfl
  | succ m ih =>
    intro i
    rw [List.replicate_succ, List.cons_append, scanG_blank (by decide), ih, show i + 1 + m = i + (m + 1) by omega]
/-- Blanks ahead of a text move the tokens. -/
theorem scan_blanks {l : List UInt8} {m : Nat} (hm : m + l.length ≤ 16384) : scan (List.replicate m 32 ++ l) = ((scan l).1.map (sh m), (if (scan l).2.2 = 0 then 0 else (scan l).2.1 + m), (scan l).2.2) := by
  unfold scan
  rw [if_neg (by rw [List.length_append, List.length_replicate]; omega), if_neg (by omega), scanG_blanks]
  rw [scanG_fuel _ (l.length + 1) l _ _ (by rw [List.length_append, List.length_replicate]; omega) (by omega)]
  exact scanG_shift m (l.length + 1) l 0 []

theorem hexd_hexc : ∀ n, n < 16 → hexd (hexc n).toNat = (n : Int) := by decide
theorem hexc_ne : ∀ n, n < 16 → (hexc n).toNat ≠ 34 := by decide
/-- A character of a literal is read back. -/
theorem chr_esc1 (c : UInt8) (r : List UInt8) : chr (esc1 c.toNat ++ r) = .ok c (esc1 c.toNat).length ∧ clsL (esc1 c.toNat ++ r) ≠ 4 := by
  have hc : UInt8.ofNat c.toNat = c := by simp
  have hlt := c.toNat_lt
  have hne4 : ∀ (a : UInt8) (q : List UInt8), a.toNat ≠ 34 → clsL (a :: q) ≠ 4 := fun a q h e => h (mark_cls.1 e)
  have he : ∀ n : Nat, n < 256 → (c = UInt8.ofNat n ↔ c.toNat = n) := fun n hn => by
    constructor
    · intro h; rw [h]; simp; omega
    · intro h; rw [← h]; simp
  have h34 := he 34 (by decide); have h92 := he 92 (by decide)
  have k34 : (c = 34) ↔ c.toNat = 34 := h34
  have k92 : (c = 92) ↔ c.toNat = 92 := h92
  unfold esc1
  by_cases h1 : c.toNat = 34 ∨ c.toNat = 92
  · rw [if_pos h1, hc]
    refine ⟨?_, hne4 92 _ (by decide)⟩
    have : (c = 34 ∨ c = 92) := by rw [k34, k92]; exact h1
    show (esc (c :: r)).add 1 = _
    rw [show esc (c :: r) = .ok c 1 by simp only [esc]; rw [if_pos this]]
    rfl
  rw [if_neg h1]
  by_cases h2 : c.toNat = 10
  · rw [if_pos h2]
    refine ⟨?_, hne4 92 _ (by decide)⟩
    have hc10 : c = 10 := (he 10 (by decide)).2 h2
    rw [hc10]; rfl
  rw [if_neg h2]
  by_cases h3 : c.toNat = 9
  · rw [if_pos h3]
    refine ⟨?_, hne4 92 _ (by decide)⟩
    have hc9 : c = 9 := (he 9 (by decide)).2 h3
    rw [hc9]; rfl
  rw [if_neg h3]
  by_cases h4 : 32 ≤ c.toNat ∧ c.toNat ≤ 126
  · rw [if_pos h4, hc]
    refine ⟨?_, hne4 c _ (by omega)⟩
    have n92 : ¬ c = 92 := by rw [k92]; omega
    show (if c = 92 then (esc r).add 1 else if 32 ≤ c.toNat ∧ c.toNat ≤ 126 then C.ok c 1 else .err 3) = _
    rw [if_neg n92, if_pos h4]; rfl
  · rw [if_neg h4]
    refine ⟨?_, hne4 92 _ (by decide)⟩
    have hx := hexd_hexc (c.toNat / 16) (by omega)
    have hy := hexd_hexc (c.toNat % 16) (by omega)
    have hn2 : num2 (hexc (c.toNat / 16) :: hexc (c.toNat % 16) :: r) = .ok c 2 := by
      simp only [num2]
      rw [hx, hy, if_neg (by omega), if_neg (by omega)]
      congr 1
      rw [Int.toNat_natCast, Int.toNat_natCast, show 16 * (c.toNat / 16) + c.toNat % 16 = c.toNat by omega, hc]
    show ((num2 (hexc (c.toNat / 16) :: hexc (c.toNat % 16) :: r)).add 1).add 1 = _
    rw [hn2]; rfl

theorem litG_escs (s : List UInt8) (r : List UInt8) : ∀ (f : Nat) (acc : List UInt8) (n : Nat), s.length < f → acc.length + s.length ≤ 4096 → litG f (escs s ++ 34 :: r) acc n = .ok 4 (acc ++ s) 0 (n + (escs s).length + 1) := by
  induction s with
  | nil =>
    intro f acc n hf ha
    obtain ⟨f, rfl⟩ : ∃ f', f = f' + 1 := ⟨f - 1, by simp at hf; omega⟩
    have hcl : clsL (escs [] ++ 34 :: r) = 4 := mark_cls.2 rfl
    rw [litG, if_pos hcl, if_neg (by simp at ha; omega)]
    simp [escs_nil]
  | cons c s ih =>
    intro f acc n hf ha
    obtain ⟨f, rfl⟩ : ∃ f', f = f' + 1 := ⟨f - 1, by simp at hf; omega⟩
    obtain ⟨h1, h2⟩ := chr_esc1 c (escs s ++ 34 :: r)
    rw [escs_cons, List.append_assoc, litG, if_neg h2, h1]
    show litG f ((esc1 c.toNat ++ (escs s ++ 34 :: r)).drop (esc1 c.toNat).length) (acc ++ [c]) (n + (esc1 c.toNat).length) = _
    rw [List.drop_left, ih f (acc ++ [c]) _ (by simp at hf; omega) (by simp at ha ⊢; omega)]
    simp only [List.append_assoc, List.singleton_append, List.length_append, R.ok.injEq, true_and]
    omega
theorem one_quote (s r : List UInt8) (hs : s.length ≤ 4096) : one (quote s ++ r) = .ok 4 s 0 (quote s).length := by
  have e : quote s ++ r = 34 :: (escs s ++ 34 :: r) := by unfold quote; simp
  have hcl : clsL (34 :: (escs s ++ 34 :: r)) = 4 := mark_cls.2 rfl
  rw [e]
  unfold one
  rw [if_neg (by rw [hcl]; decide), if_neg (by rw [hcl]; decide), if_pos hcl]
  unfold lit
  rw [List.drop_succ_cons, List.drop_zero, litG_escs s r _ [] 1 (by have := escs_ge s; simp; omega) (by simpa using hs)]
  rw [quote_ge]
  simp only [List.nil_append, R.ok.injEq, true_and]
  omega
theorem span_quote (s r : List UInt8) : spanN blank (quote s ++ r) = 0 := spanN_no (c := 34) (r := escs s ++ [34] ++ r) (by decide)
/-- A literal is one token. -/
theorem scan_quote (s : List UInt8) (hs : s.length ≤ 4000) : scan (quote s) = ([⟨4, 0, s, 0⟩, ⟨0, ((quote s).length : Int), [], 0⟩], 0, 0) := by
  have hq := quote_ge s
  have he := escs_len s
  unfold scan
  rw [if_neg (by omega)]
  have h1 := one_quote s [] (by omega)
  have h2 := span_quote s []
  rw [List.append_nil] at h1 h2
  rw [scanG, h2, List.drop_zero, h1]
  show (if (4 : Int) = 0 then _ else scanG (quote s).length ((quote s).drop (quote s).length) (0 + 0 + (quote s).length) ([] ++ [⟨4, ((0 + 0 : Nat) : Int), s, 0⟩]) : List Tok × Nat × Int) = _
  rw [if_neg (by decide), List.drop_length]
  obtain ⟨q, hq2⟩ : ∃ q, (quote s).length = q + 1 := ⟨(quote s).length - 1, by omega⟩
  rw [hq2, scanG]
  show (if (0 : Int) = 0 then _ else _ : List Tok × Nat × Int) = _
  rw [if_pos rfl]
  simp [spanN_nil]
end Go.Proofs.YtffolfnaalijnaaDoor.Z
