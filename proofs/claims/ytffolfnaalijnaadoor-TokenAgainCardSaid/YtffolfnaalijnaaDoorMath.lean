/-
  Plain mathematics of the encodings of layer 1 (no program): the encoding of an integer is read back, whatever follows, and it is the only one.
-/
namespace Go.Proofs.YtffolfnaalijnaaDoor.M

/-- The unsigned number that encodes n. -/
def zig (n : Int) : Nat := if n < 0 then (-n).toNat * 2 - 1 else n.toNat * 2
def zag (u : Nat) : Int := if u % 2 = 1 then -((u / 2 : Nat) : Int) - 1 else ((u / 2 : Nat) : Int)

theorem zag_zig (n : Int) : zag (zig n) = n := by
  unfold zag zig
  split <;> split <;> omega
theorem zig_zag (u : Nat) : zig (zag u) = u := by
  unfold zag zig
  split <;> split <;> omega
theorem zig_lt (n : Int) (h1 : -9223372036854775808 ≤ n) (h2 : n ≤ 9223372036854775807) : zig n < 18446744073709551616 := by
  unfold zig; split <;> omega
theorem zag_lo (u : Nat) (h : u < 18446744073709551616) : -9223372036854775808 ≤ zag u := by unfold zag; split <;> omega
theorem zag_hi (u : Nat) (h : u < 18446744073709551616) : zag u ≤ 9223372036854775807 := by unfold zag; split <;> omega

/-- Groups of seven bits, the least first; each but the last plus 128. -/
def enc (u : Nat) : List UInt8 := if u < 128 then [UInt8.ofNat u] else UInt8.ofNat (u % 128 + 128) :: enc (u / 128)
termination_by u
decreasing_by omega

/-- A group that another one follows; the last group. (Names that simp doesn't open.) -/
def gb (u : Nat) : UInt8 := UInt8.ofNat (u % 128 + 128)
def lb (u : Nat) : UInt8 := UInt8.ofNat u
theorem enc_small {u : Nat} (h : u < 128) : enc u = [lb u] := by rw [enc, if_pos h]; rfl
theorem enc_big {u : Nat} (h : ¬ u < 128) : enc u = gb u :: enc (u / 128) := by rw [enc, if_neg h]; rfl

def dec : List UInt8 → Nat
  | [] => 0
  | c :: r => c.toNat % 128 + 128 * dec r

theorem toNat_ofNat_lt {n : Nat} (h : n < 256) : (UInt8.ofNat n).toNat = n := by
  simp [UInt8.toNat_ofNat']; omega

theorem gb_nat (u : Nat) : (gb u).toNat = u % 128 + 128 := toNat_ofNat_lt (by omega)
theorem lb_nat {u : Nat} (h : u < 256) : (lb u).toNat = u := toNat_ofNat_lt h

/-- How many bytes the integer at the front has, and the error: i bytes were read. -/
def cntAt (i : Nat) : List UInt8 → Nat × Int
  | [] => if i < 10 then (0, 4) else (0, 3)
  | c :: r => if 10 ≤ i then (0, 3) else if 128 ≤ c.toNat then cntAt (i + 1) r
      else if (0 < i ∧ c.toNat = 0) ∨ (i = 9 ∧ 1 < c.toNat) then (0, 3) else (i + 1, 0)
def cnt (l : List UInt8) : Nat × Int := cntAt 0 l

theorem cntAt_ok : ∀ (l : List UInt8) (i k : Nat), i ≤ 10 → cntAt i l = (k, 0) →
    ∃ j, k = i + j ∧ 0 < j ∧ k ≤ 10 ∧ j ≤ l.length ∧ enc (dec (l.take j)) = l.take j ∧ dec (l.take j) < 2 ^ (64 - 7 * i) ∧ (0 < i → 0 < dec (l.take j)) := by
  intro l
  induction l with
  | nil => intro i k hi h; simp only [cntAt] at h; split at h <;> simp at h
  | cons c r ih =>
    intro i k hi h
    simp only [cntAt] at h
    split at h
    · simp at h
    · rename_i h10
      split at h
      · rename_i hc
        obtain ⟨j, hk, hj, hk10, hjl, he, hd, hp⟩ := ih (i + 1) k (by omega) h
        have hdp : 0 < dec (r.take j) := hp (by omega)
        have hlt := c.toNat_lt
        refine ⟨j + 1, by omega, by omega, hk10, by simp; omega, ?_, ?_, fun _ => ?_⟩
        · simp only [List.take_succ_cons, dec]
          rw [enc_big (by omega)]
          have e1 : (c.toNat % 128 + 128 * dec (r.take j)) / 128 = dec (r.take j) := by omega
          rw [e1, he]
          congr 1
          apply UInt8.toNat.inj
          rw [gb_nat]; omega
        · simp only [List.take_succ_cons, dec]
          by_cases h9 : i = 9
          · omega
          · have hpw : 2 ^ (64 - 7 * i) = 128 * 2 ^ (64 - 7 * (i + 1)) := by
              rw [show 64 - 7 * i = 7 + (64 - 7 * (i + 1)) by omega, Nat.pow_add]
            omega
        · simp only [List.take_succ_cons, dec]; omega
      · rename_i hc
        split at h
        · simp at h
        · rename_i hb
          simp only [Prod.mk.injEq, and_true] at h
          have hlt := c.toNat_lt
          refine ⟨1, by omega, by omega, by omega, by simp, ?_, ?_, fun hi0 => ?_⟩
          · simp only [List.take_succ_cons, List.take_zero, dec]
            rw [enc_small (by omega)]
            congr 1
            apply UInt8.toNat.inj
            rw [lb_nat (by omega)]; omega
          · simp only [List.take_succ_cons, List.take_zero, dec]
            by_cases h9 : i = 9
            · subst h9; omega
            · have hpw : 2 ^ 8 ≤ 2 ^ (64 - 7 * i) := Nat.pow_le_pow_right (by omega) (by omega)
              omega
          · simp only [List.take_succ_cons, List.take_zero, dec]; omega

theorem cntAt_more {l : List UInt8} {i : Nat} (h : i < l.length) (hi : i < 10) (hc : 128 ≤ (l.getD i 0).toNat) : cntAt i (l.drop i) = cntAt (i + 1) (l.drop (i + 1)) := by
  rw [List.drop_eq_getElem_cons h, cntAt, if_neg (by omega), if_pos]
  simpa [List.getD, List.getElem?_eq_getElem h] using hc
theorem cntAt_form {l : List UInt8} {i : Nat} (h : i < l.length) (hi : i < 10) (hc : (l.getD i 0).toNat < 128) (hb : (0 < i ∧ (l.getD i 0).toNat = 0) ∨ (i = 9 ∧ 1 < (l.getD i 0).toNat)) : cntAt i (l.drop i) = (0, 3) := by
  simp only [List.getD, List.getElem?_eq_getElem h, Option.getD_some] at hc hb
  rw [List.drop_eq_getElem_cons h, cntAt, if_neg (by omega), if_neg (by omega), if_pos hb]
theorem cntAt_last {l : List UInt8} {i : Nat} (h : i < l.length) (hi : i < 10) (hc : (l.getD i 0).toNat < 128) (hb : ¬ ((0 < i ∧ (l.getD i 0).toNat = 0) ∨ (i = 9 ∧ 1 < (l.getD i 0).toNat))) : cntAt i (l.drop i) = (i + 1, 0) := by
  simp only [List.getD, List.getElem?_eq_getElem h, Option.getD_some] at hc hb
  rw [List.drop_eq_getElem_cons h, cntAt, if_neg (by omega), if_neg (by omega), if_neg hb]
theorem cntAt_short {l : List UInt8} {i : Nat} (h : l.length ≤ i) (hi : i < 10) : cntAt i (l.drop i) = (0, 4) := by
  rw [List.drop_eq_nil_of_le h, cntAt, if_pos hi]
theorem cntAt_ten (l : List UInt8) : cntAt 10 (l.drop 10) = (0, 3) := by
  cases h : l.drop 10 with
  | nil => rfl
  | cons c r => rfl

theorem cnt_ok {l : List UInt8} {k : Nat} (h : cnt l = (k, 0)) :
    0 < k ∧ k ≤ 10 ∧ k ≤ l.length ∧ enc (dec (l.take k)) = l.take k ∧ dec (l.take k) < 18446744073709551616 := by
  obtain ⟨j, hk, hj, hk10, hjl, he, hd, _⟩ := cntAt_ok l 0 k (by omega) h
  obtain rfl : k = j := by omega
  exact ⟨hj, hk10, hjl, he, hd⟩

theorem cntAt_enc (r : List UInt8) : ∀ (i u : Nat), i < 10 → u < 2 ^ (64 - 7 * i) → (0 < i → 0 < u) → cntAt i (enc u ++ r) = (i + (enc u).length, 0) := by
  intro i
  induction h : 10 - i generalizing i with
  | zero => intro u hi; omega
  | succ n ih =>
    intro u hi hu h0
    by_cases hs : u < 128
    · rw [enc_small hs]
      simp only [List.cons_append, List.nil_append, cntAt, lb_nat (show u < 256 by omega), List.length_singleton]
      rw [if_neg (by omega), if_neg (by omega), if_neg]
      rintro (⟨hi0, hz⟩ | ⟨h9, h1⟩)
      · have := h0 hi0; omega
      · subst h9; omega
    · rw [enc_big hs]
      simp only [List.cons_append, cntAt, gb_nat, List.length_cons]
      have h9 : i ≠ 9 := by rintro rfl; omega
      rw [if_neg (by omega), if_pos (by omega)]
      have hpw : 2 ^ (64 - 7 * i) = 128 * 2 ^ (64 - 7 * (i + 1)) := by
        rw [show 64 - 7 * i = 7 + (64 - 7 * (i + 1)) by omega, Nat.pow_add]
      rw [ih (i + 1) (by omega) (u / 128) (by omega) (by rw [hpw] at hu; omega) (fun _ => by omega)]
      simp only [Prod.mk.injEq, and_true]; omega

theorem cnt_enc (u : Nat) (r : List UInt8) (h : u < 18446744073709551616) : cnt (enc u ++ r) = ((enc u).length, 0) := by
  have := cntAt_enc r 0 u (by omega) h (fun h => by omega)
  rw [cnt, this, Nat.zero_add]

theorem dec_enc : ∀ u : Nat, dec (enc u) = u := by
  intro u
  induction u using Nat.strongRecOn with
  | ind u ih =>
    by_cases hs : u < 128
    · rw [enc_small hs]; simp only [dec, lb_nat (show u < 256 by omega)]; omega
    · rw [enc_big hs]; simp only [dec, gb_nat, ih (u / 128) (by omega)]; omega

theorem enc_len (u : Nat) (h : u < 18446744073709551616) : 0 < (enc u).length ∧ (enc u).length ≤ 10 := by
  have h1 := cnt_enc u [] h
  rw [List.append_nil] at h1
  have := cnt_ok h1
  omega

/-- Loops from the front: one group more. -/
theorem dec_snoc : ∀ (l : List UInt8) (c : UInt8), dec (l ++ [c]) = dec l + 2 ^ (7 * l.length) * (c.toNat % 128) := by
  intro l c
  induction l with
  | nil => simp [dec]
  | cons a r ih =>
    simp only [List.cons_append, dec, ih, List.length_cons]
    rw [show 7 * (r.length + 1) = 7 + 7 * r.length by omega, Nat.pow_add, Nat.mul_add, Nat.mul_assoc]
    omega
theorem dec_lt : ∀ l : List UInt8, dec l < 2 ^ (7 * l.length) := by
  intro l
  induction l with
  | nil => simp [dec]
  | cons a r ih =>
    simp only [dec, List.length_cons]
    rw [show 7 * (r.length + 1) = 7 + 7 * r.length by omega, Nat.pow_add]
    omega

/-- No encoding is the front of another one's. -/
theorem enc_prefix {u v : Nat} (hu : u < 18446744073709551616) (hv : v < 18446744073709551616) {r : List UInt8} (h : enc v = enc u ++ r) : u = v := by
  have h1 := cnt_enc v [] hv
  rw [List.append_nil, h, cnt_enc u r hu] at h1
  simp only [Prod.mk.injEq, and_true, List.length_append] at h1
  obtain rfl : r = [] := List.eq_nil_of_length_eq_zero (by omega)
  rw [List.append_nil] at h
  rw [← dec_enc u, ← dec_enc v, h]

/-! ### A reader: what is left, and the first error (0: none; with an error nothing is left) -/
structure St where
  l : List UInt8
  e : Int
def St.int (s : St) (lo hi : Int) : Int × St :=
  if s.e ≠ 0 then (0, s) else if (cnt s.l).2 ≠ 0 then (0, ⟨[], (cnt s.l).2⟩)
  else if zag (dec (s.l.take (cnt s.l).1)) < lo ∨ hi < zag (dec (s.l.take (cnt s.l).1)) then (0, ⟨[], 14⟩)
  else (zag (dec (s.l.take (cnt s.l).1)), ⟨s.l.drop (cnt s.l).1, 0⟩)
def St.text (s : St) (most : Int) : List UInt8 × St :=
  if (s.int 0 most).2.e ≠ 0 then ([], (s.int 0 most).2) else if (s.int 0 most).2.l.length < (s.int 0 most).1.toNat then ([], ⟨[], 4⟩)
  else ((s.int 0 most).2.l.take (s.int 0 most).1.toNat, ⟨(s.int 0 most).2.l.drop (s.int 0 most).1.toNat, 0⟩)
def St.bool (s : St) : Bool × St :=
  if s.e ≠ 0 then (false, s) else match s.l with
  | [] => (false, ⟨[], 4⟩)
  | c :: r => if 1 < c.toNat then (false, ⟨[], 3⟩) else (c.toNat == 1, ⟨r, 0⟩)
def St.fail (s : St) (e : Int) : St := if s.e = 0 ∧ e ≠ 0 then ⟨[], e⟩ else s
def St.fin (s : St) : Int := if s.e ≠ 0 then s.e else if 0 < s.l.length then 3 else 0
def St.ok (s : St) : Prop := s.e ≠ 0 → s.l = []

theorem St.int_dead {s : St} (h : s.e ≠ 0) (lo hi : Int) : s.int lo hi = (0, s) := by unfold St.int; rw [if_pos h]
theorem St.int_bad {s : St} (h : s.e = 0) {k : Nat} {e : Int} (hc : cnt s.l = (k, e)) (he : e ≠ 0) (lo hi : Int) : s.int lo hi = (0, ⟨[], e⟩) := by
  unfold St.int; rw [if_neg (by simp [h]), hc, if_pos he]
theorem St.int_range {s : St} (h : s.e = 0) {k : Nat} (hc : cnt s.l = (k, 0)) {lo hi : Int} (hr : zag (dec (s.l.take k)) < lo ∨ hi < zag (dec (s.l.take k))) : s.int lo hi = (0, ⟨[], 14⟩) := by
  unfold St.int; rw [if_neg (by simp [h]), hc, if_neg (by simp), if_pos hr]
theorem St.int_yes {s : St} (h : s.e = 0) {k : Nat} (hc : cnt s.l = (k, 0)) {lo hi : Int} (hr : ¬ (zag (dec (s.l.take k)) < lo ∨ hi < zag (dec (s.l.take k)))) :
    s.int lo hi = (zag (dec (s.l.take k)), ⟨s.l.drop k, 0⟩) := by
  unfold St.int; rw [if_neg (by simp [h]), hc, if_neg (by simp), if_neg hr]
theorem St.fail_dead {s : St} (h : s.e ≠ 0) (x : Int) : s.fail x = s := by unfold St.fail; rw [if_neg (by simp [h])]
theorem St.fail_zero (s : St) : s.fail 0 = s := by unfold St.fail; rw [if_neg (by simp)]
theorem St.fail_live {s : St} (h : s.e = 0) {x : Int} (hx : x ≠ 0) : s.fail x = ⟨[], x⟩ := by unfold St.fail; rw [if_pos ⟨h, hx⟩]
theorem St.int_enc {s : St} (h : s.e = 0) {n : Int} {r : List UInt8} (hl : s.l = enc (zig n) ++ r) (h1 : -9223372036854775808 ≤ n) (h2 : n ≤ 9223372036854775807) {lo hi : Int} (hr : lo ≤ n ∧ n ≤ hi) :
    s.int lo hi = (n, ⟨r, 0⟩) := by
  have hc : cnt s.l = ((enc (zig n)).length, 0) := by rw [hl]; exact cnt_enc _ _ (zig_lt n h1 h2)
  have ht : zag (dec (s.l.take (enc (zig n)).length)) = n := by rw [hl, List.take_left, dec_enc, zag_zig]
  rw [St.int_yes h hc (by rw [ht]; omega), ht, hl, List.drop_left]

theorem St.int_lo (s : St) (y : Int) : 0 ≤ (s.int 0 y).1 := by
  unfold St.int
  split
  · exact Int.le_refl _
  · split
    · exact Int.le_refl _
    · split
      · exact Int.le_refl _
      · omega
theorem St.text_dead {s t : St} {y : Int} (ht : t = (s.int 0 y).2) (h : t.e ≠ 0) : s.text y = ([], t) := by
  subst ht; unfold St.text; rw [if_pos h]
theorem St.text_short {s t : St} {y N : Int} (ht : t = (s.int 0 y).2) (hN : N = (s.int 0 y).1) (h : t.e = 0) (hs : t.l.length < N.toNat) : s.text y = ([], ⟨[], 4⟩) := by
  subst ht; subst hN; unfold St.text; rw [if_neg (by simp [h]), if_pos hs]
theorem St.text_yes {s t : St} {y N : Int} (ht : t = (s.int 0 y).2) (hN : N = (s.int 0 y).1) (h : t.e = 0) (hs : ¬ t.l.length < N.toNat) : s.text y = (t.l.take N.toNat, ⟨t.l.drop N.toNat, 0⟩) := by
  subst ht; subst hN; unfold St.text; rw [if_neg (by simp [h]), if_neg hs]
theorem St.bool_dead {s : St} (h : s.e ≠ 0) : s.bool = (false, s) := by unfold St.bool; rw [if_pos h]
theorem St.bool_short : (St.mk [] 0).bool = (false, ⟨[], 4⟩) := rfl
theorem St.bool_form {c : UInt8} {r : List UInt8} (h : 1 < c.toNat) : (St.mk (c :: r) 0).bool = (false, ⟨[], 3⟩) := by
  simp only [St.bool, ne_eq, not_true_eq_false, if_false]; rw [if_pos h]
theorem St.bool_yes {c : UInt8} {r : List UInt8} (h : ¬ 1 < c.toNat) : (St.mk (c :: r) 0).bool = (c.toNat == 1, ⟨r, 0⟩) := by
  simp only [St.bool, ne_eq, not_true_eq_false, if_false]; rw [if_neg h]

end Go.Proofs.YtffolfnaalijnaaDoor.M
