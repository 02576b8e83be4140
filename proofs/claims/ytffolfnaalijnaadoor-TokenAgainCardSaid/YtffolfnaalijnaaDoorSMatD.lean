/-
  Plain mathematics of layer 7 (no program): the first sign that fits.
-/
import Derived.Test.YtffolfnaalijnaaDoorSMatC
namespace Go.Proofs.YtffolfnaalijnaaDoor.Z
set_option linter.unusedVariables false

def signL : List (List UInt8) := [[61, 61], [33, 61], [60, 61], [62, 61], [40], [41], [123], [125], [91], [93], [44], [59], [46], [58], [61], [60], [62], [43], [45], [42], [47], [37]]
/-- Whether a text begins so. -/
def fits (x l : List UInt8) : Bool := decide (l.take x.length = x)
theorem fits1 (a c : UInt8) (r : List UInt8) : fits [a] (c :: r) = decide (c = a) := by
  unfold fits; simp
theorem fits2 (a b c : UInt8) (r : List UInt8) : fits [a, b] (c :: r) = (decide (c = a) && decide (peek r = (b.toNat : Int))) := by
  unfold fits
  cases r with
  | nil =>
    have : ¬ peek [] = (b.toNat : Int) := by show ¬ (-1 : Int) = (b.toNat : Int); omega
    simp [this]
  | cons d r =>
    have : (peek (d :: r) = (b.toNat : Int)) ↔ d = b := by
      show ((d.toNat : Int) = (b.toNat : Int)) ↔ d = b
      constructor
      · intro h; exact UInt8.toNat_inj.1 (by omega)
      · intro h; rw [h]
    simp only [List.length_cons, List.length_nil, List.take_succ_cons, List.take_zero, List.cons.injEq, and_true, this, Bool.decide_and]
theorem one_sgn {c : UInt8} {r : List UInt8} (h : cls c.toNat = 5) : one (c :: r) = sgn (c :: r) := by
  have hc : clsL (c :: r) = 5 := h
  unfold one
  rw [if_neg (by rw [hc]; decide), if_neg (by rw [hc]; decide), if_neg (by rw [hc]; decide), if_pos hc]
theorem sgn_two {c : UInt8} {r : List UInt8} (hr : peek r = 61) (hc : c = 61 ∨ c = 33 ∨ c = 60 ∨ c = 62) : sgn (c :: r) = .ok 5 [c, 61] 0 2 := by
  simp only [sgn]
  rw [if_pos ⟨hr, hc⟩]
  cases r with
  | nil => exact absurd hr (by decide)
  | cons d r =>
    have : d = 61 := by
      have h : (d.toNat : Int) = 61 := hr
      have h2 : d.toNat = 61 := by omega
      have h3 : UInt8.ofNat d.toNat = d := by simp
      rw [← h3, h2]; rfl
    rw [this]; rfl
theorem sgn_one {c : UInt8} {r : List UInt8} (h : ¬ (peek r = 61 ∧ (c = 61 ∨ c = 33 ∨ c = 60 ∨ c = 62))) (h33 : c ≠ 33) : sgn (c :: r) = .ok 5 [c] 0 1 := by
  simp only [sgn]
  rw [if_neg h, if_neg h33]
theorem and_no {a b : Prop} [Decidable a] [Decidable b] (h : (decide a && decide b) = false) (ha : a) : ¬ b := fun hb => by simp [ha, hb] at h
theorem sgn_yes (c : UInt8) (r : List UInt8) : ∀ j, j < 22 → (∀ q, q < j → fits (signL.getD q []) (c :: r) = false) → fits (signL.getD j []) (c :: r) = true → one (c :: r) = .ok 5 (signL.getD j []) 0 (signL.getD j []).length
  | 0, _, hq, h => by
    have h : fits [61, 61] (c :: r) = true := h
    rw [fits2] at h
    simp only [Bool.and_eq_true, decide_eq_true_eq] at h
    obtain ⟨rfl, h2⟩ := h
    rw [one_sgn (by decide), sgn_two h2 (by decide)]; rfl
  | 1, _, hq, h => by
    have h : fits [33, 61] (c :: r) = true := h
    rw [fits2] at h
    simp only [Bool.and_eq_true, decide_eq_true_eq] at h
    obtain ⟨rfl, h2⟩ := h
    rw [one_sgn (by decide), sgn_two h2 (by decide)]; rfl
  | 2, _, hq, h => by
    have h : fits [60, 61] (c :: r) = true := h
    rw [fits2] at h
    simp only [Bool.and_eq_true, decide_eq_true_eq] at h
    obtain ⟨rfl, h2⟩ := h
    rw [one_sgn (by decide), sgn_two h2 (by decide)]; rfl
  | 3, _, hq, h => by
    have h : fits [62, 61] (c :: r) = true := h
    rw [fits2] at h
    simp only [Bool.and_eq_true, decide_eq_true_eq] at h
    obtain ⟨rfl, h2⟩ := h
    rw [one_sgn (by decide), sgn_two h2 (by decide)]; rfl
  | 4, _, hq, h => by
    have h : fits [40] (c :: r) = true := h
    rw [fits1, decide_eq_true_eq] at h
    subst h
    rw [one_sgn (by decide), sgn_one (fun e => absurd e.2 (by decide)) (by decide)]; rfl
  | 5, _, hq, h => by
    have h : fits [41] (c :: r) = true := h
    rw [fits1, decide_eq_true_eq] at h
    subst h
    rw [one_sgn (by decide), sgn_one (fun e => absurd e.2 (by decide)) (by decide)]; rfl
  | 6, _, hq, h => by
    have h : fits [123] (c :: r) = true := h
    rw [fits1, decide_eq_true_eq] at h
    subst h
    rw [one_sgn (by decide), sgn_one (fun e => absurd e.2 (by decide)) (by decide)]; rfl
  | 7, _, hq, h => by
    have h : fits [125] (c :: r) = true := h
    rw [fits1, decide_eq_true_eq] at h
    subst h
    rw [one_sgn (by decide), sgn_one (fun e => absurd e.2 (by decide)) (by decide)]; rfl
  | 8, _, hq, h => by
    have h : fits [91] (c :: r) = true := h
    rw [fits1, decide_eq_true_eq] at h
    subst h
    rw [one_sgn (by decide), sgn_one (fun e => absurd e.2 (by decide)) (by decide)]; rfl
  | 9, _, hq, h => by
    have h : fits [93] (c :: r) = true := h
    rw [fits1, decide_eq_true_eq] at h
    subst h
    rw [one_sgn (by decide), sgn_one (fun e => absurd e.2 (by decide)) (by decide)]; rfl
  | 10, _, hq, h => by
    have h : fits [44] (c :: r) = true := h
    rw [fits1, decide_eq_true_eq] at h
    subst h
    rw [one_sgn (by decide), sgn_one (fun e => absurd e.2 (by decide)) (by decide)]; rfl
  | 11, _, hq, h => by
    have h : fits [59] (c :: r) = true := h
    rw [fits1, decide_eq_true_eq] at h
    subst h
    rw [one_sgn (by decide), sgn_one (fun e => absurd e.2 (by decide)) (by decide)]; rfl
  | 12, _, hq, h => by
    have h : fits [46] (c :: r) = true := h
    rw [fits1, decide_eq_true_eq] at h
    subst h
    rw [one_sgn (by decide), sgn_one (fun e => absurd e.2 (by decide)) (by decide)]; rfl
  | 13, _, hq, h => by
    have h : fits [58] (c :: r) = true := h
    rw [fits1, decide_eq_true_eq] at h
    subst h
    rw [one_sgn (by decide), sgn_one (fun e => absurd e.2 (by decide)) (by decide)]; rfl
  | 14, _, hq, h => by
    have h : fits [61] (c :: r) = true := h
    have h0 : fits [61, 61] (c :: r) = false := hq 0 (by decide)
    rw [fits1, decide_eq_true_eq] at h
    rw [fits2] at h0
    subst h
    rw [one_sgn (by decide), sgn_one (fun e => and_no h0 rfl e.1) (by decide)]; rfl
  | 15, _, hq, h => by
    have h : fits [60] (c :: r) = true := h
    have h0 : fits [60, 61] (c :: r) = false := hq 2 (by decide)
    rw [fits1, decide_eq_true_eq] at h
    rw [fits2] at h0
    subst h
    rw [one_sgn (by decide), sgn_one (fun e => and_no h0 rfl e.1) (by decide)]; rfl
  | 16, _, hq, h => by
    have h : fits [62] (c :: r) = true := h
    have h0 : fits [62, 61] (c :: r) = false := hq 3 (by decide)
    rw [fits1, decide_eq_true_eq] at h
    rw [fits2] at h0
    subst h
    rw [one_sgn (by decide), sgn_one (fun e => and_no h0 rfl e.1) (by decide)]; rfl
  | 17, _, hq, h => by
    have h : fits [43] (c :: r) = true := h
    rw [fits1, decide_eq_true_eq] at h
    subst h
    rw [one_sgn (by decide), sgn_one (fun e => absurd e.2 (by decide)) (by decide)]; rfl
  | 18, _, hq, h => by
    have h : fits [45] (c :: r) = true := h
    rw [fits1, decide_eq_true_eq] at h
    subst h
    rw [one_sgn (by decide), sgn_one (fun e => absurd e.2 (by decide)) (by decide)]; rfl
  | 19, _, hq, h => by
    have h : fits [42] (c :: r) = true := h
    rw [fits1, decide_eq_true_eq] at h
    subst h
    rw [one_sgn (by decide), sgn_one (fun e => absurd e.2 (by decide)) (by decide)]; rfl
  | 20, _, hq, h => by
    have h : fits [47] (c :: r) = true := h
    rw [fits1, decide_eq_true_eq] at h
    subst h
    rw [one_sgn (by decide), sgn_one (fun e => absurd e.2 (by decide)) (by decide)]; rfl
  | 21, _, hq, h => by
    have h : fits [37] (c :: r) = true := h
    rw [fits1, decide_eq_true_eq] at h
    subst h
    rw [one_sgn (by decide), sgn_one (fun e => absurd e.2 (by decide)) (by decide)]; rfl
  | n + 22, h, _, _ => absurd h (by omega)
theorem u8_ne {c : UInt8} {n : Nat} (hn : n < 256) (h : c ≠ UInt8.ofNat n) : c.toNat ≠ n := fun e => h (by rw [← e]; simp)
theorem sgn_no (c : UInt8) (r : List UInt8) (h2 : clsL (c :: r) ≠ 2) (h3 : clsL (c :: r) ≠ 3) (h4 : clsL (c :: r) ≠ 4) (hq : ∀ q, q < 22 → fits (signL.getD q []) (c :: r) = false) : one (c :: r) = .err 3 := by
  have n40 : c.toNat ≠ 40 := u8_ne (by decide) (by have h : fits [40] (c :: r) = false := hq 4 (by decide); rw [fits1, decide_eq_false_iff_not] at h; exact h)
  have n41 : c.toNat ≠ 41 := u8_ne (by decide) (by have h : fits [41] (c :: r) = false := hq 5 (by decide); rw [fits1, decide_eq_false_iff_not] at h; exact h)
  have n123 : c.toNat ≠ 123 := u8_ne (by decide) (by have h : fits [123] (c :: r) = false := hq 6 (by decide); rw [fits1, decide_eq_false_iff_not] at h; exact h)
  have n125 : c.toNat ≠ 125 := u8_ne (by decide) (by have h : fits [125] (c :: r) = false := hq 7 (by decide); rw [fits1, decide_eq_false_iff_not] at h; exact h)
  have n91 : c.toNat ≠ 91 := u8_ne (by decide) (by have h : fits [91] (c :: r) = false := hq 8 (by decide); rw [fits1, decide_eq_false_iff_not] at h; exact h)
  have n93 : c.toNat ≠ 93 := u8_ne (by decide) (by have h : fits [93] (c :: r) = false := hq 9 (by decide); rw [fits1, decide_eq_false_iff_not] at h; exact h)
  have n44 : c.toNat ≠ 44 := u8_ne (by decide) (by have h : fits [44] (c :: r) = false := hq 10 (by decide); rw [fits1, decide_eq_false_iff_not] at h; exact h)
  have n59 : c.toNat ≠ 59 := u8_ne (by decide) (by have h : fits [59] (c :: r) = false := hq 11 (by decide); rw [fits1, decide_eq_false_iff_not] at h; exact h)
  have n46 : c.toNat ≠ 46 := u8_ne (by decide) (by have h : fits [46] (c :: r) = false := hq 12 (by decide); rw [fits1, decide_eq_false_iff_not] at h; exact h)
  have n58 : c.toNat ≠ 58 := u8_ne (by decide) (by have h : fits [58] (c :: r) = false := hq 13 (by decide); rw [fits1, decide_eq_false_iff_not] at h; exact h)
  have n61 : c.toNat ≠ 61 := u8_ne (by decide) (by have h : fits [61] (c :: r) = false := hq 14 (by decide); rw [fits1, decide_eq_false_iff_not] at h; exact h)
  have n60 : c.toNat ≠ 60 := u8_ne (by decide) (by have h : fits [60] (c :: r) = false := hq 15 (by decide); rw [fits1, decide_eq_false_iff_not] at h; exact h)
  have n62 : c.toNat ≠ 62 := u8_ne (by decide) (by have h : fits [62] (c :: r) = false := hq 16 (by decide); rw [fits1, decide_eq_false_iff_not] at h; exact h)
  have n43 : c.toNat ≠ 43 := u8_ne (by decide) (by have h : fits [43] (c :: r) = false := hq 17 (by decide); rw [fits1, decide_eq_false_iff_not] at h; exact h)
  have n45 : c.toNat ≠ 45 := u8_ne (by decide) (by have h : fits [45] (c :: r) = false := hq 18 (by decide); rw [fits1, decide_eq_false_iff_not] at h; exact h)
  have n42 : c.toNat ≠ 42 := u8_ne (by decide) (by have h : fits [42] (c :: r) = false := hq 19 (by decide); rw [fits1, decide_eq_false_iff_not] at h; exact h)
  have n47 : c.toNat ≠ 47 := u8_ne (by decide) (by have h : fits [47] (c :: r) = false := hq 20 (by decide); rw [fits1, decide_eq_false_iff_not] at h; exact h)
  have n37 : c.toNat ≠ 37 := u8_ne (by decide) (by have h : fits [37] (c :: r) = false := hq 21 (by decide); rw [fits1, decide_eq_false_iff_not] at h; exact h)
  have hb : fits [33, 61] (c :: r) = false := hq 1 (by decide)
  rw [fits2] at hb
  by_cases h33 : c = 33
  · have hr := and_no hb h33
    subst h33
    rw [one_sgn (by decide)]
    simp only [sgn]
    rw [if_neg (fun e => hr e.1), if_pos trivial]
  · have n33 : c.toNat ≠ 33 := u8_ne (by decide) h33
    have hs : isSign c.toNat = false := by
      unfold isSign signs
      simp; omega
    have h5 : clsL (c :: r) ≠ 5 := by
      intro e
      have e : cls c.toNat = 5 := e
      unfold cls at e
      split at e
      · omega
      split at e
      · omega
      split at e
      · omega
      split at e
      · omega
      rw [hs] at e
      simp at e
    have h6 : clsL (c :: r) ≠ 6 := fun e => by have := cls_le c.toNat; have e : cls c.toNat = 6 := e; omega
    unfold one
    rw [if_neg h2, if_neg h3, if_neg h4, if_neg h5, if_neg h6]
end Go.Proofs.YtffolfnaalijnaaDoor.Z
