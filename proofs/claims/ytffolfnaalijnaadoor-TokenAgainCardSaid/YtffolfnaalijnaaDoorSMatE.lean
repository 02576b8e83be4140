/-
  Plain mathematics of layer 7 (no program): tokens spelled and scanned again.
-/
import Derived.Test.YtffolfnaalijnaaDoorSMatD
import Derived.Test.YtffolfnaalijnaaDoorSSpl
import Derived.Lib.ItoaMem
namespace Go.Proofs.YtffolfnaalijnaaDoor.Z
set_option linter.unusedVariables false

/-- What stands behind a token's text. -/
def Sep (r : List UInt8) : Prop := r = [] ∨ ∃ q, r = 32 :: q
theorem span_app {p : Nat → Bool} {r : List UInt8} (hr : ∀ c q, r = c :: q → p c.toNat = false) : ∀ {x : List UInt8}, (∀ c ∈ x, p c.toNat = true) → spanN p (x ++ r) = x.length
  | [], _ => by
    cases r with
    | nil => rfl
    | cons c q => exact spanN_no (hr c q rfl)
  | c :: x, hx => by
    rw [List.cons_append, spanN_yes (hx c (List.mem_cons_self ..)), span_app hr (fun d hd => hx d (List.mem_cons_of_mem _ hd)), List.length_cons]
theorem sep_no {p : Nat → Bool} (h : p 32 = false) {r : List UInt8} (hs : Sep r) : ∀ c q, r = c :: q → p c.toNat = false := by
  intro c q e
  rcases hs with rfl | ⟨q', rfl⟩
  · cases e
  · injection e with e1 e2; subst e1; exact h
theorem sep_peek {r : List UInt8} (hs : Sep r) : peek r ≠ 61 := by
  rcases hs with rfl | ⟨q', rfl⟩
  · decide
  · show ((32 : UInt8).toNat : Int) ≠ 61; decide
theorem sep_cls {r : List UInt8} (hs : Sep r) : clsL r ≠ 2 := by
  rcases hs with rfl | ⟨q', rfl⟩
  · decide
  · show cls (32 : UInt8).toNat ≠ 2; decide
theorem span_mem (p : Nat → Bool) : ∀ (l : List UInt8), ∀ c ∈ l.take (spanN p l), p c.toNat = true
  | [], c, h => by simp at h
  | a :: l, c, h => by
    cases hp : p a.toNat with
    | true =>
      rw [spanN_yes hp, List.take_succ_cons, List.mem_cons] at h
      rcases h with rfl | h
      · exact hp
      · exact span_mem p l c h
    | false => rw [spanN_no hp] at h; simp at h
theorem one_nb {l : List UInt8} {k v : Int} {t : List UInt8} {n : Nat} (h : one l = .ok k t v n) : spanN blank l = 0 := by
  cases l with
  | nil => rfl
  | cons c q =>
    cases hb : blank c.toNat with
    | false => exact spanN_no hb
    | true =>
      exfalso
      have hc : clsL (c :: q) = 1 := blank_cls.2 hb
      unfold one at h
      rw [if_neg (by rw [hc]; decide), if_neg (by rw [hc]; decide), if_neg (by rw [hc]; decide), if_neg (by rw [hc]; decide), if_neg (by rw [hc]; decide)] at h
      cases h
/-- A token whose text is read back. -/
structure Back (t : Tok) : Prop where
  kind : t.k ≠ 0
  most : t.t.length ≤ 4096
  lo : 0 ≤ t.v
  hi : t.v ≤ 9223372036854775807
  read : ∃ x, spell1 t = some x ∧ ∀ r, Sep r → one (x ++ r) = .ok t.k t.t t.v x.length

theorem back_word {l : List UInt8} {k v : Int} {t : List UInt8} {n : Nat} (hc : clsL l = 2) (h : word l = .ok k t v n) :
    v = 0 ∧ k = (if kw t then 2 else 1) ∧ t.length ≤ 64 ∧ ∀ r, Sep r → one (t ++ r) = .ok k t v t.length := by
  unfold word at h
  split at h
  · cases h
  rename_i h64
  simp only [R.ok.injEq] at h
  obtain ⟨hk, ht, hv, _⟩ := h
  have hm := span_mem part l
  have hlen : (l.take (spanN part l)).length = spanN part l := by
    rw [List.length_take]; have := spanN_le part l; omega
  rw [ht] at hm hlen hk
  refine ⟨hv.symm, hk.symm, by omega, fun r hr => ?_⟩
  have hspan : spanN part (t ++ r) = t.length := span_app (sep_no (by decide) hr) hm
  have hcl : clsL (t ++ r) = 2 := by
    cases l with
    | nil => exact absurd hc (by decide)
    | cons c q =>
      have hl := letter_cls.1 hc
      rw [← ht, spanN_yes (by unfold part; rw [hl]; rfl), List.take_succ_cons]
      exact hc
  unfold one
  rw [if_pos hcl]
  unfold word
  rw [hspan, if_neg (by omega), List.take_left, hk, hv]
theorem dd_first7 (u : Nat) : ∃ c r, Lib.decDigits u = c :: r ∧ (1 ≤ u → c.toNat ≠ 48) ∧ (u = 0 → r = []) := by
  induction u using Nat.strongRecOn with
  | _ u ih =>
    rw [Lib.decDigits]
    by_cases h : u < 10
    · rw [dif_pos h]
      exact ⟨_, _, rfl, fun h1 => by rw [Q.dd_byte u h]; omega, fun h1 => rfl⟩
    · rw [dif_neg h]
      obtain ⟨c, r, h1, h2, h3⟩ := ih (u / 10) (by omega)
      rw [h1]
      exact ⟨c, r ++ [UInt8.ofNat (48 + u % 10)], rfl, fun _ => h2 (by omega), fun h4 => by omega⟩
theorem back_int (u : Nat) (hu : u ≤ 9223372036854775807) {r : List UInt8} (hr : Sep r) : one (Lib.itoa (u : Int) ++ r) = .ok 3 [] (u : Int) (Lib.itoa (u : Int)).length := by
  rw [Lib.itoa_nonneg]
  obtain ⟨c, q, e, h1, h2⟩ := dd_first7 u
  obtain ⟨d1, d2, d3⟩ := Q.dd u
  have hd : ∀ c ∈ Lib.decDigits u, digit c.toNat = true := fun c hc => by
    have := d1 c hc
    unfold digit; simp; omega
  have hspan : spanN digit (Lib.decDigits u ++ r) = (Lib.decDigits u).length := span_app (sep_no (by decide) hr) hd
  have hcl : clsL (Lib.decDigits u ++ r) = 3 := by
    have := digit_cls.2 (hd c (by rw [e]; exact List.mem_cons_self ..))
    rw [e]; exact this
  unfold one
  rw [if_neg (by rw [hcl]; decide), if_pos hcl]
  unfold int
  have hv : val (Lib.decDigits u) = u := d2
  have hn : ¬ ((1 < (Lib.decDigits u).length ∧ peek (Lib.decDigits u ++ r) = 48) ∨ clsL r = 2) := by
    rintro (⟨g1, g2⟩ | g)
    · rw [e] at g1 g2
      have g2 : (c.toNat : Int) = 48 := g2
      rcases Nat.eq_zero_or_pos u with h0 | h0
      · rw [h2 h0] at g1; simp at g1
      · exact h1 h0 (by omega)
    · exact sep_cls hr g
  rw [hspan, List.drop_left, List.take_left, if_neg hn, hv, if_pos hu]
theorem litG_most : ∀ (f : Nat) (l acc : List UInt8) (n : Nat) (k : Int) (t : List UInt8) (v : Int) (m : Nat), litG f l acc n = .ok k t v m → t.length ≤ 4096 ∧ v = 0 ∧ k = 4 := by
  intro f
  induction f with
  | zero => intro l acc n k t v m h; simp [litG] at h
  | succ f ih =>
    intro l acc n k t v m h
    rw [litG] at h
    split at h
    · split at h
      · cases h
      · simp only [R.ok.injEq] at h
        obtain ⟨h1, rfl, h3, _⟩ := h
        exact ⟨by omega, h3.symm, h1.symm⟩
    · cases hc : chr l with
      | err e' => rw [hc] at h; cases h
      | ok c k =>
        rw [hc] at h
        exact ih _ _ _ _ _ _ _ h
theorem back_sgn {l : List UInt8} {k v : Int} {t : List UInt8} {n : Nat} (hc : clsL l = 5) (h : sgn l = .ok k t v n) :
    k = 5 ∧ v = 0 ∧ t.length ≤ 2 ∧ ∀ r, Sep r → one (t ++ r) = .ok k t v t.length := by
  cases l with
  | nil => exact absurd hc (by decide)
  | cons c q =>
    have hc5 : cls c.toNat = 5 := hc
    simp only [sgn] at h
    split at h
    · rename_i hp
      simp only [R.ok.injEq] at h
      obtain ⟨rfl, ht, rfl, _⟩ := h
      have ht2 : t = [c, 61] := by
        have h1 := sgn_two hp.1 hp.2
        simp only [sgn] at h1
        rw [if_pos hp] at h1
        simp only [R.ok.injEq] at h1
        rw [← ht]; exact h1.2.1
      subst ht2
      refine ⟨rfl, rfl, by simp, fun r hr => ?_⟩
      show one (c :: 61 :: r) = _
      rw [one_sgn hc5, sgn_two (show peek (61 :: r) = 61 from rfl) hp.2]
      rfl
    split at h
    · cases h
    · rename_i h33
      simp only [R.ok.injEq] at h
      obtain ⟨rfl, rfl, rfl, _⟩ := h
      refine ⟨rfl, rfl, by simp, fun r hr => ?_⟩
      show one (c :: r) = _
      rw [one_sgn hc5, sgn_one (fun e => sep_peek hr e.1) h33]
      rfl
theorem one_back {l : List UInt8} {k v : Int} {t : List UInt8} {n : Nat} (h : one l = .ok k t v n) (hk : k ≠ 0) (p : Int) : Back ⟨k, p, t, v⟩ := by
  unfold one at h
  split at h
  · rename_i hc
    obtain ⟨rfl, hkk, h64, hr⟩ := back_word hc h
    refine ⟨hk, by show t.length ≤ 4096; omega, by show (0 : Int) ≤ 0; omega, by show (0 : Int) ≤ _; omega, t, ?_, hr⟩
    unfold spell1
    rw [if_pos]
    show k = 1 ∨ k = 2 ∨ k = 5
    split at hkk <;> omega
  split at h
  · unfold int at h
    split at h
    · cases h
    split at h
    · rename_i hv
      simp only [R.ok.injEq] at h
      obtain ⟨rfl, rfl, rfl, _⟩ := h
      refine ⟨hk, by simp, by simp, ?_, _, ?_, fun r hr => back_int _ hv hr⟩
      · show ((val _ : Nat) : Int) ≤ 9223372036854775807; omega
      · unfold spell1
        rw [if_neg (by simp), if_pos rfl]
    · cases h
  split at h
  · unfold lit at h
    obtain ⟨h1, rfl, rfl⟩ := litG_most _ _ _ _ _ _ _ _ h
    refine ⟨hk, h1, by show (0 : Int) ≤ 0; omega, by show (0 : Int) ≤ _; omega, quote t, ?_, fun r hr => one_quote t r h1⟩
    unfold spell1
    rw [if_neg (by simp), if_neg (by simp), if_pos rfl]
  split at h
  · rename_i hc
    obtain ⟨rfl, rfl, h2, hr⟩ := back_sgn hc h
    refine ⟨hk, by show t.length ≤ 4096; omega, by show (0 : Int) ≤ 0; omega, by show (0 : Int) ≤ _; omega, t, ?_, hr⟩
    unfold spell1
    rw [if_pos (by simp)]
  split at h
  · simp only [R.ok.injEq] at h
    exact absurd h.1.symm hk
  · cases h

theorem scanG_back : ∀ (f : Nat) (l : List UInt8) (i : Nat) (acc : List Tok), l.length < f → (∀ t ∈ acc, Back t) → (scanG f l i acc).2.2 = 0 →
    ∃ ts e, (scanG f l i acc).1 = ts ++ [⟨0, e, [], 0⟩] ∧ (∀ t ∈ ts, Back t) ∧ ts.length ≤ acc.length + l.length := by
  intro f
  induction f with
  | zero => intro l i acc h; omega
  | succ f ih =>
    intro l i acc hf ha he
    rw [scanG] at he ⊢
    cases ho : one (l.drop (spanN blank l)) with
    | err er =>
      rw [ho] at he
      have he : er = 0 := he
      exact absurd he (one_err ho)
    | ok k t v n =>
      rw [ho] at he
      simp only at he ⊢
      by_cases hk : k = 0
      · obtain ⟨h1, rfl, rfl, rfl⟩ := one_end ho hk
        rw [if_pos hk, hk]
        exact ⟨acc, _, rfl, ha, by omega⟩
      · rw [if_neg hk] at he ⊢
        have hn := one_pos ho hk
        have hl := one_len ho
        rw [List.length_drop] at hl
        have hb := one_back ho hk ((i + spanN blank l : Nat) : Int)
        have hlen : ((l.drop (spanN blank l)).drop n).length < f ∧ ((l.drop (spanN blank l)).drop n).length + 1 ≤ l.length := by
          rw [List.length_drop, List.length_drop]; omega
        obtain ⟨ts, e, h1, h2, h3⟩ := ih _ _ _ hlen.1 (fun u hu => by
          rw [List.mem_append, List.mem_singleton] at hu
          rcases hu with hu | rfl
          · exact ha u hu
          · exact hb) he
        refine ⟨ts, e, h1, h2, ?_⟩
        rw [List.length_append, List.length_singleton] at h3
        omega
def core (t : Tok) : Int × List UInt8 × Int := (t.k, t.t, t.v)
theorem spell1_core {t u : Tok} (h : core t = core u) : spell1 t = spell1 u := by
  unfold core at h
  simp only [Prod.mk.injEq] at h
  unfold spell1
  rw [h.1, h.2.1, h.2.2]
theorem spells_core : ∀ {l m : List Tok}, l.map core = m.map core → spells l = spells m
  | [], [], _ => rfl
  | [], _ :: _, h => by simp at h
  | _ :: _, [], h => by simp at h
  | a :: l, b :: m, h => by
    rw [List.map_cons, List.map_cons] at h
    injection h with h1 h2
    have e1 := spell1_core h1
    have e2 := spells_core h2
    unfold spells at e2 ⊢
    rw [List.filterMap_cons, List.filterMap_cons, e1, e2]
theorem spell_core {l m : List Tok} (h : l.map core = m.map core) : spell l = spell m := by unfold spell; rw [spells_core h]
theorem spell_cons {t : Tok} {ts : List Tok} {x : List UInt8} (h : spell1 t = some x) (hb : ∀ u ∈ ts, Back u) : spell (t :: ts) = x ++ (if ts = [] then [] else 32 :: spell ts) := by
  have e : spells (t :: ts) = x :: spells ts := by unfold spells; simp [h]
  unfold spell
  rw [e, Lib.join_cons]
  cases ts with
  | nil => simp [spells, Lib.joinTail]
  | cons u ts =>
    obtain ⟨y, hy, _⟩ := (hb u (List.mem_cons_self ..)).read
    have e2 : spells (u :: ts) = y :: spells ts := by unfold spells; simp [hy]
    rw [if_neg (by simp), e2, Lib.join_cons]
    unfold Lib.joinTail
    simp
theorem scanG_spell : ∀ (ts : List Tok) (f i : Nat) (acc : List Tok), (∀ t ∈ ts, Back t) → (spell ts).length < f →
    (scanG f (spell ts) i acc).2.2 = 0 ∧ ∃ e ts', (scanG f (spell ts) i acc).1 = acc ++ ts' ++ [⟨0, e, [], 0⟩] ∧ ts'.map core = ts.map core := by
  intro ts
  induction ts with
  | nil =>
    intro f i acc _ hf
    obtain ⟨f, rfl⟩ : ∃ f', f = f' + 1 := ⟨f - 1, by omega⟩
    have e : spell [] = [] := rfl
    rw [e, scanG]
    have e2 : one (([] : List UInt8).drop (spanN blank [])) = .ok 0 [] 0 0 := rfl
    rw [e2]
    exact ⟨rfl, _, [], by simp only [if_pos]; rw [List.append_nil], rfl⟩
  | cons t ts ih =>
    intro f i acc hb hf
    obtain ⟨x, hx, hr⟩ := (hb t (List.mem_cons_self ..)).read
    have hbs : ∀ u ∈ ts, Back u := fun u hu => hb u (List.mem_cons_of_mem _ hu)
    rw [spell_cons hx hbs] at hf ⊢
    obtain ⟨f, rfl⟩ : ∃ f', f = f' + 1 := ⟨f - 1, by omega⟩
    obtain ⟨r, hrr⟩ : ∃ r, r = (if ts = [] then [] else 32 :: spell ts) := ⟨_, rfl⟩
    rw [← hrr] at hf ⊢
    have hsep : Sep r := by
      rw [hrr]; split
      · exact .inl rfl
      · exact .inr ⟨_, rfl⟩
    have ho := hr r hsep
    have hk := (hb t (List.mem_cons_self ..)).kind
    have hn := one_pos ho hk
    rw [scanG, one_nb ho, List.drop_zero, ho]
    simp only [if_neg hk, List.drop_left]
    rw [List.length_append] at hf
    have key : ∀ i acc, (scanG f r i acc).2.2 = 0 ∧ ∃ e ts', (scanG f r i acc).1 = acc ++ ts' ++ [⟨0, e, [], 0⟩] ∧ ts'.map core = ts.map core := by
      intro i acc
      by_cases h0 : ts = []
      · rw [if_pos h0] at hrr
        have := ih f i acc hbs (by rw [h0]; show (0 : Nat) < f; omega)
        rw [show spell ts = r by rw [hrr, h0]; rfl] at this
        exact this
      · rw [if_neg h0] at hrr
        have hl : r.length = (spell ts).length + 1 := by rw [hrr]; simp
        obtain ⟨f, rfl⟩ : ∃ f', f = f' + 1 := ⟨f - 1, by omega⟩
        rw [hrr, scanG_blank (by decide)]
        exact ih (f + 1) (i + 1) acc hbs (by omega)
    obtain ⟨h1, e, ts', h2, h3⟩ := key (i + 0 + x.length) (acc ++ [⟨t.k, ((i + 0 : Nat) : Int), t.t, t.v⟩])
    refine ⟨h1, e, ⟨t.k, ((i + 0 : Nat) : Int), t.t, t.v⟩ :: ts', ?_, ?_⟩
    · rw [h2]; simp
    · rw [List.map_cons, List.map_cons, h3]; rfl
/-- What was scanned, spelled and scanned again. -/
theorem scan_again {l : List UInt8} {T : List Tok} {O : Nat} (h : scan l = (T, O, 0)) (hl : l.length ≤ 400) :
    Fits 100000 T ∧ T.length ≤ 401 ∧ ((spell T).length ≤ 16384 → (scan (spell T)).2.2 = 0 ∧ (scan (spell T)).1.map core = T.map core) := by
  unfold scan at h
  rw [if_neg (by omega)] at h
  obtain ⟨ts, e, h1, h2, h3⟩ := scanG_back (l.length + 1) l 0 [] (by omega) (fun t ht => by cases ht) (by rw [h])
  rw [h] at h1
  have h1 : T = ts ++ [⟨0, e, [], 0⟩] := h1
  have hsp : spell T = spell ts := by
    unfold spell; rw [h1]; unfold spells; rw [List.filterMap_append]
    have : List.filterMap spell1 [(⟨0, e, [], 0⟩ : Tok)] = [] := rfl
    rw [this, List.append_nil]
  refine ⟨fun t ht => ?_, ?_, fun hz => ?_⟩
  · rw [h1, List.mem_append, List.mem_singleton] at ht
    rcases ht with ht | rfl
    · have hb := h2 t ht
      have b1 := hb.most; have b2 := hb.lo; have b3 := hb.hi
      exact ⟨by omega, by omega, by omega⟩
    · exact ⟨by simp, by show (_ : Int) ≤ 0; omega, by show (0 : Int) ≤ _; omega⟩
  · rw [h1, List.length_append, List.length_singleton]
    simp at h3; omega
  · rw [hsp] at hz ⊢
    unfold scan
    rw [if_neg (by omega)]
    obtain ⟨g1, e', ts', g2, g3⟩ := scanG_spell ts ((spell ts).length + 1) 0 [] h2 (by omega)
    refine ⟨g1, ?_⟩
    rw [g2, h1, List.nil_append, List.map_append, List.map_append, g3]
    rfl
theorem fits_core {B : Nat} : ∀ {l m : List Tok}, l.map core = m.map core → Fits B m → Fits B l
  | [], _, _, _ => fun t ht => by cases ht
  | _ :: _, [], h, _ => by simp at h
  | a :: l, b :: m, h, hm => fun t ht => by
    rw [List.map_cons, List.map_cons] at h
    injection h with h1 h2
    rcases List.mem_cons.1 ht with rfl | ht
    · have := hm b (List.mem_cons_self ..)
      unfold core at h1
      simp only [Prod.mk.injEq] at h1
      rw [h1.2.1, h1.2.2]; exact this
    · exact fits_core h2 (fun u hu => hm u (List.mem_cons_of_mem _ hu)) t ht
end Go.Proofs.YtffolfnaalijnaaDoor.Z
