/-
  Plain mathematics of layer 6 (no program): names, the numbers of runs, keys with one slash.
-/
import Derived.Lib.AtoiAll
import Derived.RowKit
import Derived.Lib.ItoaNum
import Derived.Lib.Strings
import Derived.Lib.IndexMore
namespace Go.Proofs.YtffolfnaalijnaaDoor.Q
open Go.RowKit (wrap64)

def dig (c : Nat) : Bool := decide (48 ≤ c) && decide (c ≤ 57)
def part (c : Nat) : Bool := (decide (97 ≤ c) && decide (c ≤ 122)) || (decide (65 ≤ c) && decide (c ≤ 90)) || decide (c = 95) || dig c
theorem dig_yes {c : Nat} (h : 48 ≤ c ∧ c ≤ 57) : dig c = true := by unfold dig; simp; omega
theorem dig_no {c : Nat} (h : ¬ (48 ≤ c ∧ c ≤ 57)) : dig c = false := by unfold dig; simp; omega
theorem part_yes {c : Nat} (h : (97 ≤ c ∧ c ≤ 122) ∨ (65 ≤ c ∧ c ≤ 90) ∨ c = 95 ∨ (48 ≤ c ∧ c ≤ 57)) : part c = true := by
  unfold part dig; simp; omega
theorem part_no {c : Nat} (h : ¬ ((97 ≤ c ∧ c ≤ 122) ∨ (65 ≤ c ∧ c ≤ 90) ∨ c = 95 ∨ (48 ≤ c ∧ c ≤ 57))) : part c = false := by
  cases hp : part c with
  | false => rfl
  | true => exfalso; apply h; unfold part dig at hp; simp at hp; omega

/-- A valid name. -/
def right (l : List UInt8) : Bool := match l with
  | [] => false
  | c :: r => decide (r.length < 64) && !dig c.toNat && (c :: r).all fun b => part b.toNat
theorem right_nil : right [] = false := rfl
theorem right_long {l : List UInt8} (h : 64 < l.length) : right l = false := by
  cases l with
  | nil => rfl
  | cons c r => simp at h; simp [right]; omega
theorem right_dig {l : List UInt8} (h : 0 < l.length) (hd : dig (l[0]).toNat = true) : right l = false := by
  cases l with
  | nil => rfl
  | cons c r => simp at hd; simp [right, hd]
theorem right_of {l : List UInt8} (h0 : 0 < l.length) (h : l.length ≤ 64) (hd : dig (l[0]).toNat = false) : right l = l.all fun b => part b.toNat := by
  cases l with
  | nil => simp at h0
  | cons c r => simp at hd h; simp [right, hd]; intro; omega
theorem all_take {l : List UInt8} {k : Nat} (h : k < l.length) (hk : (l.take k).all (fun b => part b.toNat) = true) : (l.take (k + 1)).all (fun b => part b.toNat) = part (l[k]).toNat := by
  rw [List.take_succ_eq_append_getElem h, List.all_append, hk]; simp
theorem all_no {l : List UInt8} {k : Nat} (h : k < l.length) (hk : part (l[k]).toNat = false) : l.all (fun b => part b.toNat) = false := by
  rw [List.all_eq_false]; exact ⟨l[k], List.getElem_mem h, by rw [hk]; decide⟩
/-- One byte more at the end. -/
theorem right_snoc {l : List UInt8} (c : UInt8) (h : right l = true) : right (l ++ [c]) = (part c.toNat && decide (l.length < 64)) := by
  cases l with
  | nil => simp [right] at h
  | cons d r =>
    simp [right] at h
    obtain ⟨⟨h1, h2⟩, h3, h4⟩ := h
    simp only [List.cons_append, right, List.length_append, List.length_cons, List.length_nil, List.all_cons, List.all_append, List.all_nil]
    rw [h2, h3, show (r.all fun b => part b.toNat) = true from by simpa using h4]
    cases part c.toNat <;> simp
theorem right_seven (l : List UInt8) : right (55 :: l) = false := right_dig (by simp) (show dig (55 : UInt8).toNat = true by decide)
theorem right_len {l : List UInt8} (h : right l = true) : 0 < l.length ∧ l.length ≤ 64 := by
  cases l with
  | nil => simp [right] at h
  | cons d r => simp [right] at h; simp; omega

/-! Numbers -/
def stp (acc : Nat) (c : UInt8) : Nat := acc * 10 + (c.toNat - 48)
theorem stp_eq (acc : Nat) (c : UInt8) : stp acc c = acc * 10 + (c.toNat - 48) := rfl
def val (acc : Nat) (l : List UInt8) : Nat := l.foldl stp acc
theorem val_nil (acc : Nat) : val acc [] = acc := rfl
theorem val_cons (acc : Nat) (c : UInt8) (r : List UInt8) : val acc (c :: r) = val (stp acc c) r := by unfold val; rw [List.foldl_cons]
theorem val_append (l r : List UInt8) (acc : Nat) : val acc (l ++ r) = val (val acc l) r := List.foldl_append ..
theorem stp_ge (acc : Nat) (c : UInt8) : acc ≤ stp acc c := by rw [stp_eq]; omega
theorem val_ge (l : List UInt8) : ∀ acc, acc ≤ val acc l := by
  induction l with
  | nil => intro acc; exact Nat.le_refl _
  | cons c l ih => intro acc; exact Nat.le_trans (stp_ge acc c) (ih _)
def Digs (l : List UInt8) : Prop := ∀ c ∈ l, 48 ≤ c.toNat ∧ c.toNat ≤ 57
theorem parse_cons {c : UInt8} {r : List UInt8} {acc : Nat} (hc : 48 ≤ c.toNat ∧ c.toNat ≤ 57) (g1 : ¬ 1844674407370955162 ≤ acc) (g2 : ¬ 18446744073709551616 ≤ acc * 10 + (c.toNat - 48)) :
    Lib.parseUint10 acc (c :: r) = Lib.parseUint10 (stp acc c) r := by
  rw [Lib.parseUint10, if_pos hc, if_neg g1, if_neg g2, stp_eq]
theorem parse_nil (acc : Nat) : Lib.parseUint10 acc [] = .ok acc := by rw [Lib.parseUint10]
/-- What fits in 64 bits. -/
def Fits (n : Nat) : Prop := n < 18446744073709551616
theorem parse_val (l : List UInt8) : ∀ acc : Nat, Digs l → Fits (val acc l) → Lib.parseUint10 acc l = .ok (val acc l) := by
  induction l with
  | nil => exact fun acc _ _ => parse_nil acc
  | cons c r ih =>
    intro acc hd hv
    have hc := hd c (by simp)
    have hg := val_ge r (stp acc c)
    rw [val_cons] at hv ⊢
    have hi := ih _ (fun x hx => hd x (by simp [hx])) hv
    unfold Fits at hv
    have hb : stp acc c < 18446744073709551616 := Nat.lt_of_le_of_lt hg hv
    rw [stp_eq] at hb
    clear hg hv ih
    rw [parse_cons hc (by omega) (by omega)]
    exact hi
theorem dd_byte (u : Nat) (h : u < 10) : (UInt8.ofNat (48 + u)).toNat = 48 + u := by simp [UInt8.toNat_ofNat']; omega
theorem dd (u : Nat) : Digs (Lib.decDigits u) ∧ val 0 (Lib.decDigits u) = u ∧ Lib.decDigits u ≠ [] := by
  induction u using Nat.strongRecOn with
  | _ u ih =>
    rw [Lib.decDigits]
    by_cases h : u < 10
    · rw [dif_pos h]
      refine ⟨fun c hc => ?_, ?_, by simp⟩
      · rw [List.mem_singleton] at hc; subst hc; rw [dd_byte u h]; omega
      · rw [val_cons, val_nil, stp_eq, dd_byte u h]; omega
    · rw [dif_neg h]
      obtain ⟨h1, h2, h3⟩ := ih (u / 10) (by omega)
      refine ⟨fun c hc => ?_, ?_, by simp⟩
      · rw [List.mem_append, List.mem_singleton] at hc
        rcases hc with hc | rfl
        · exact h1 c hc
        · rw [dd_byte (u % 10) (by omega)]; omega
      · rw [val_append, h2, val_cons, val_nil, stp_eq, dd_byte (u % 10) (by omega)]; omega
theorem dd_len (k : Nat) : ∀ u, u < 10 ^ (k + 1) → (Lib.decDigits u).length ≤ k + 1 := by
  induction k with
  | zero => intro u h; rw [Lib.decDigits, dif_pos (by omega)]; simp
  | succ k ih =>
    intro u h
    rw [Lib.decDigits]
    split
    · simp
    · have := ih (u / 10) (by rw [Nat.pow_succ] at h; omega)
      simp; omega

/-- The identifier of a run. -/
def run (n : Int) : List UInt8 := if n < 1 then [] else 114 :: Lib.decDigits n.toNat
theorem run_no {n : Int} (h : n < 1) : run n = [] := if_pos h
theorem run_yes {n : Int} (h : ¬ n < 1) : run n = 114 :: Lib.decDigits n.toNat := if_neg h
theorem run_itoa {n : Int} (h : ¬ n < 1) : run n = 114 :: Lib.itoa n := by rw [run_yes h, Lib.itoa, if_neg (by omega)]
theorem run_len (n : Int) (h : n ≤ 9223372036854775807) : (run n).length ≤ 20 := by
  unfold run; split
  · simp
  · have := dd_len 18 n.toNat (by omega)
    simp; omega
/-- What the code takes off the front. -/
def cutR (l : List UInt8) : List UInt8 := Lib.trimPrefix l [114]
theorem cutR_len (l : List UInt8) : (cutR l).length ≤ l.length := by unfold cutR Lib.trimPrefix; split <;> simp
/-- The number of a run. -/
def num (l : List UInt8) : Int × Bool := match Lib.atoiAll (cutR l) with
  | .ok v => if run v = l then (v, true) else (0, false)
  | _ => (0, false)
theorem cutR_cons (l : List UInt8) : cutR (114 :: l) = l := by simp [cutR, Lib.trimPrefix, Lib.hasPrefix]
theorem atoi_dd (u : Nat) (h : u < 9223372036854775808) : Lib.atoiAll (Lib.decDigits u) = .ok (u : Int) := by
  obtain ⟨h1, h2, h3⟩ := dd u
  cases hl : Lib.decDigits u with
  | nil => exact absurd hl h3
  | cons c r =>
    have hc := h1 c (by rw [hl]; simp)
    have hp := parse_val (Lib.decDigits u) 0 h1 (by unfold Fits; omega)
    rw [hl] at hp h2
    simp only [Lib.atoiAll]
    rw [if_neg (by omega), Lib.parseMag, if_neg (by simp), hp, h2]
    have e1 : ¬ c.toNat = 45 := by omega
    simp [e1]; omega
theorem num_run {n : Int} (h1 : 1 ≤ n) (h2 : n ≤ 9223372036854775807) : num (run n) = (n, true) := by
  unfold num
  rw [run_yes (by omega), cutR_cons, atoi_dd _ (by omega)]
  have e : ((n.toNat : Nat) : Int) = n := by omega
  simp only [e]
  rw [run_yes (by omega), if_pos rfl]
theorem num_small {n : Int} (h : n < 1) : num (run n) = (0, false) := by rw [run_no h]; rfl
theorem num_ok {l : List UInt8} {v : Int} (h : num l = (v, true)) : run v = l := by
  unfold num at h
  split at h
  · split at h
    · rename_i h2; simp at h; rw [← h]; exact h2
    · simp at h
  · simp at h
theorem num_or (l : List UInt8) : (∃ v, num l = (v, true)) ∨ num l = (0, false) := by
  unfold num
  split
  · split
    · exact .inl ⟨_, rfl⟩
    · exact .inr rfl
  · exact .inr rfl
theorem num_pos {l : List UInt8} {v : Int} (h : num l = (v, true)) : 1 ≤ v := by
  have hr := num_ok h
  by_cases hv : v < 1
  · rw [run_no hv] at hr; subst hr; exact absurd h (by show ((0 : Int), false) = (v, true) → False; simp)
  · omega
/-- A number read loosely, digit by digit. -/
def loose (n : Int) (c : UInt8) : Int := wrap64 (wrap64 (wrap64 (10 * n) + (c.toNat : Int)) - 48)
theorem loose_le (n : Int) (c : UInt8) : -9223372036854775808 ≤ loose n c ∧ loose n c ≤ 9223372036854775807 := by unfold loose wrap64; omega
theorem wrap_id {n : Int} (h1 : -9223372036854775808 ≤ n) (h2 : n ≤ 9223372036854775807) : wrap64 n = n := by unfold wrap64; omega
theorem loose_stp {acc : Nat} {c : UInt8} (hc : 48 ≤ c.toNat ∧ c.toNat ≤ 57) (h : stp acc c ≤ 9223372036854775807) : loose (acc : Int) c = (stp acc c : Int) := by
  rw [stp_eq] at h ⊢
  unfold loose wrap64; omega
theorem loose_val (l : List UInt8) : ∀ acc : Nat, Digs l → val acc l ≤ 9223372036854775807 → l.foldl loose (acc : Int) = (val acc l : Int) := by
  induction l with
  | nil => exact fun acc _ _ => rfl
  | cons c r ih =>
    intro acc hd hv
    rw [val_cons] at hv ⊢
    have hg := Nat.le_trans (val_ge r (stp acc c)) hv
    rw [List.foldl_cons, loose_stp (hd c (by simp)) hg]
    exact ih _ (fun x hx => hd x (by simp [hx])) hv
def lnum (l : List UInt8) : Int := if l.length ≤ 20 then (l.drop 1).foldl loose 0 else 0
theorem foldl_le (l : List UInt8) : ∀ n : Int, (-9223372036854775808 ≤ n ∧ n ≤ 9223372036854775807) → -9223372036854775808 ≤ l.foldl loose n ∧ l.foldl loose n ≤ 9223372036854775807 := by
  induction l with
  | nil => intro n h; exact h
  | cons c l ih => intro n _; exact ih _ (loose_le n c)
theorem lnum_le (l : List UInt8) : -9223372036854775808 ≤ lnum l ∧ lnum l ≤ 9223372036854775807 := by
  unfold lnum; split
  · exact foldl_le _ 0 (by omega)
  · omega
theorem num_max {l : List UInt8} {v : Int} (h : num l = (v, true)) (hb : ∀ v, Lib.atoiAll (cutR l) = .ok v → v ≤ 9223372036854775807) : v ≤ 9223372036854775807 := by
  unfold num at h
  split at h
  · rename_i v' h'
    split at h
    · simp at h; rw [← h]; exact hb _ h'
    · simp at h
  · simp at h
theorem lnum_run {n : Int} (h1 : 1 ≤ n) (h2 : n ≤ 9223372036854775807) : lnum (run n) = n := by
  have hl := run_len n h2
  unfold lnum
  rw [if_pos hl, run_yes (by omega)]
  obtain ⟨d1, d2, _⟩ := dd n.toNat
  have := loose_val (Lib.decDigits n.toNat) 0 d1 (by omega)
  rw [d2] at this
  show (Lib.decDigits n.toNat).foldl loose 0 = n
  rw [show (0 : Int) = ((0 : Nat) : Int) from rfl, this]; omega
theorem lnum_num (l : List UInt8) (hb : ∀ v, Lib.atoiAll (cutR l) = .ok v → v ≤ 9223372036854775807) : (if lnum l < 1 ∨ run (lnum l) ≠ l then ((0 : Int), false) else (lnum l, true)) = num l := by
  rcases num_or l with ⟨v, hv⟩ | hv
  · have h1 := num_pos hv
    have h2 := num_max hv hb
    have h3 := num_ok hv
    have h4 : lnum l = v := by rw [← h3]; exact lnum_run h1 h2
    rw [hv, h4, if_neg (by intro h; rcases h with h | h; omega; exact h h3)]
  · rw [hv]
    by_cases h : lnum l < 1 ∨ run (lnum l) ≠ l
    · rw [if_pos h]
    · exfalso
      have h1 : ¬ lnum l < 1 := fun e => h (.inl e)
      have h2 : run (lnum l) = l := Classical.byContradiction fun e => h (.inr e)
      have h3 := num_run (n := lnum l) (by omega) (lnum_le l).2
      rw [h2, hv] at h3
      simp at h3

end Go.Proofs.YtffolfnaalijnaaDoor.Q
