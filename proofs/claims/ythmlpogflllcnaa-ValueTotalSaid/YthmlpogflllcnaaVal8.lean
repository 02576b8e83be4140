/-
  Plain mathematics of layer 2: the order is total.
-/
import Derived.Test.YthmlpogflllcnaaVal2
import Derived.Test.YthmlpogflllcnaaVal5
import Derived.Test.YthmlpogflllcnaaVal7
namespace Go.Proofs.Ythmlpogflllcnaa.M
open Go.Op (bytesLess)
set_option linter.unusedVariables false
set_option linter.unusedSimpArgs false

def lx (x y : Int) : Int := if x ≠ 0 then x else y
def Tr (x y z : Int) : Prop := x ≤ 0 → y ≤ 0 → z ≤ 0 ∧ (z = 0 → x = 0 ∧ y = 0)
theorem lx_zero {x y : Int} : lx x y = 0 ↔ x = 0 ∧ y = 0 := by unfold lx; split <;> omega
theorem lx_neg {x y : Int} : lx (-x) (-y) = - lx x y := by unfold lx; split <;> split <;> omega
theorem lx_tr {x y z x' y' z' : Int} (h : Tr x y z) (h' : x = 0 → y = 0 → Tr x' y' z') : Tr (lx x x') (lx y y') (lx z z') := by
  unfold lx Tr at *
  intro h1 h2
  have hx : x ≤ 0 := by split at h1 <;> omega
  have hy : y ≤ 0 := by split at h2 <;> omega
  obtain ⟨h3, h4⟩ := h hx hy
  by_cases hz : z = 0
  · obtain ⟨rfl, rfl⟩ := h4 hz
    subst hz
    simp only [ne_eq, not_true_eq_false, if_false] at h1 h2 ⊢
    exact h' rfl rfl h1 h2
  · rw [if_pos hz]
    exact ⟨h3, fun h => absurd h hz⟩
def ic (x y : Int) : Int := if x ≠ y then (if x < y then -1 else 1) else 0
theorem ic_neg (x y : Int) : ic y x = - ic x y := by unfold ic; repeat' split <;> try omega
theorem ic_zero {x y : Int} : ic x y = 0 ↔ x = y := by unfold ic; repeat' split <;> try omega
theorem ic_tr (x y z : Int) : Tr (ic x y) (ic y z) (ic x z) := by unfold ic Tr; repeat' split <;> try omega
def sc (s t : ByteArray) : Int := if s ≠ t then (if bytesLess s.toList t.toList = true then -1 else 1) else 0
theorem sc_zero {s t : ByteArray} : sc s t = 0 ↔ s = t := by
  unfold sc
  by_cases h : s = t
  · simp [h]
  · rw [if_pos h]
    constructor
    · intro h'; split at h' <;> omega
    · intro h'; exact absurd h' h
theorem sc_neg (s t : ByteArray) : sc t s = - sc s t := by
  unfold sc
  by_cases h : s = t
  · simp [h]
  · rw [if_pos h, if_pos (Ne.symm h)]
    cases hb : bytesLess s.toList t.toList with
    | true => rw [bl_asymm hb]; simp
    | false => rw [bl_flip hb (fun e => h (toList_inj e))]; simp
theorem sc_le {s t : ByteArray} : sc s t ≤ 0 ↔ s = t ∨ bytesLess s.toList t.toList = true := by
  unfold sc
  by_cases h : s = t
  · simp [h]
  · rw [if_pos h]
    cases hb : bytesLess s.toList t.toList with
    | true => simp
    | false => simp [h]
theorem sc_tr (s t u : ByteArray) : Tr (sc s t) (sc t u) (sc s u) := by
  intro h1 h2
  rcases sc_le.1 h1 with rfl | h1'
  · exact ⟨h2, fun h => ⟨sc_zero.2 rfl, h⟩⟩
  · rcases sc_le.1 h2 with rfl | h2'
    · exact ⟨h1, fun h => ⟨h, sc_zero.2 rfl⟩⟩
    · have h3 := bl_trans h1' h2'
      refine ⟨sc_le.2 (.inr h3), fun h => ?_⟩
      rw [sc_zero] at h
      subst h
      rw [bl_irrefl] at h3; cases h3
def kc (m : Bool) (s t : ByteArray) : Int := if m = true then sc s t else 0
theorem kc_neg (m : Bool) (s t : ByteArray) : kc m t s = - kc m s t := by unfold kc; split; exact sc_neg s t; rfl
theorem kc_tr (m : Bool) (s t u : ByteArray) : Tr (kc m s t) (kc m t u) (kc m s u) := by
  unfold kc; split
  · exact sc_tr s t u
  · exact fun _ _ => ⟨Int.le_refl _, fun _ => ⟨rfl, rfl⟩⟩

theorem cmp_lx (k n k' n' : Int) (s s' : ByteArray) (its its' : List V) (ks ks' : List ByteArray) :
    V.cmp (.mk k n s its ks) (.mk k' n' s' its' ks') = lx (ic k k') (lx (ic n n') (lx (sc s s') (V.cmps (k == 5) its ks its' ks'))) := by
  rw [V.cmp]
  simp only [V.k, V.n, V.s, V.its, V.ks]
  unfold lx ic sc
  by_cases h1 : k = k'
  · by_cases h2 : n = n'
    · by_cases h3 : s = s'
      · simp [h1, h2, h3]
      · by_cases hb : bytesLess s.toList s'.toList = true <;> simp [h1, h2, h3, hb]
    · by_cases hb : n < n' <;> simp [h1, h2, hb]
  · by_cases hb : k < k' <;> simp [h1, hb]
theorem cmps_nil (m : Bool) (ks : List ByteArray) (l : List V) (ks' : List ByteArray) : V.cmps m [] ks l ks' = if l.length = 0 then 0 else -1 := by rw [V.cmps]
theorem cmps_nil' (m : Bool) (x : V) (r : List V) (ks ks' : List ByteArray) : V.cmps m (x :: r) ks [] ks' = 1 := by rw [V.cmps]
theorem cmps_lx (m : Bool) (x y : V) (r r' : List V) (ks ks' : List ByteArray) :
    V.cmps m (x :: r) ks (y :: r') ks' = lx (kc m (ks.headD ByteArray.empty) (ks'.headD ByteArray.empty)) (lx (x.cmp y) (V.cmps m r ks.tail r' ks'.tail)) := by
  rw [V.cmps]
  unfold lx kc sc
  cases m with
  | false => simp
  | true =>
    by_cases h : ks.headD ByteArray.empty = ks'.headD ByteArray.empty
    · simp only [h, ne_eq, not_true_eq_false, and_false, if_true, if_false]
    · simp only [h, ne_eq, not_true_eq_false, not_false_eq_true, and_self, if_true, if_false]
      split <;> simp

theorem V.cmp_neg : ∀ a b : V, b.cmp a = - a.cmp b := by
  intro a
  apply V.rec (motive_1 := fun a => ∀ b, b.cmp a = - a.cmp b) (motive_2 := fun l => ∀ m ks l' ks', V.cmps m l' ks' l ks = - V.cmps m l ks l' ks')
  · intro k n s its ks ih b
    obtain ⟨k', n', s', its', ks'⟩ := b
    rw [cmp_lx, cmp_lx, ← lx_neg, ← lx_neg, ← lx_neg, ic_neg k k', ic_neg n n', sc_neg s s']
    by_cases h : k = k'
    · subst h; rw [ih]
    · unfold lx
      have h1 : ¬ ic k k' = 0 := fun e => h (ic_zero.1 e)
      rw [if_pos (by omega), if_pos (by omega)]
  · intro m ks l' ks'
    cases l' with
    | nil => rw [cmps_nil, cmps_nil]; rfl
    | cons y r' => rw [cmps_nil', cmps_nil, if_neg (by simp)]; rfl
  · intro x r ihx ihr m ks l' ks'
    cases l' with
    | nil => rw [cmps_nil, cmps_nil', if_neg (by simp)]
    | cons y r' => rw [cmps_lx, cmps_lx, ← lx_neg, ← lx_neg, kc_neg, ihx, ihr]

theorem V.cmp_tr : ∀ a b c : V, Tr (a.cmp b) (b.cmp c) (a.cmp c) := by
  intro a
  apply V.rec (motive_1 := fun a => ∀ b c : V, Tr (a.cmp b) (b.cmp c) (a.cmp c)) (motive_2 := fun l => ∀ m ks l' ks' l'' ks'', Tr (V.cmps m l ks l' ks') (V.cmps m l' ks' l'' ks'') (V.cmps m l ks l'' ks''))
  · intro k n s its ks ih b c
    obtain ⟨k', n', s', its', ks'⟩ := b
    obtain ⟨k'', n'', s'', its'', ks''⟩ := c
    rw [cmp_lx, cmp_lx, cmp_lx]
    refine lx_tr (ic_tr _ _ _) fun h1 h2 => lx_tr (ic_tr _ _ _) fun _ _ => lx_tr (sc_tr _ _ _) fun _ _ => ?_
    rw [ic_zero] at h1 h2
    subst h1; subst h2
    exact ih _ _ _ _ _ _
  · intro m ks l' ks' l'' ks''
    rw [cmps_nil, cmps_nil]
    cases l' with
    | nil => 
      rw [cmps_nil]
      intro h1 h2
      exact ⟨h2, fun h => ⟨rfl, h⟩⟩
    | cons y r' =>
      cases l'' with
      | nil => rw [cmps_nil']; intro h1 h2; omega
      | cons z r'' => intro h1 h2; simp
  · intro x r ihx ihr m ks l' ks' l'' ks''
    cases l' with
    | nil => rw [cmps_nil']; intro h1 h2; omega
    | cons y r' =>
      cases l'' with
      | nil => rw [cmps_nil', cmps_nil']; intro h1 h2; omega
      | cons z r'' =>
        rw [cmps_lx, cmps_lx, cmps_lx]
        exact lx_tr (kc_tr _ _ _ _) fun _ _ => lx_tr (ihx _ _) fun _ _ => ihr _ _ _ _ _ _

theorem V.cmp_self : ∀ a : V, a.cmp a = 0 := fun a => by have := V.cmp_neg a a; omega

theorem V.cmp_eq : ∀ a b : V, a.wf = true → b.wf = true → a.cmp b = 0 → a = b := by
  intro a
  apply V.rec (motive_1 := fun a => ∀ b : V, a.wf = true → b.wf = true → a.cmp b = 0 → a = b)
    (motive_2 := fun l => ∀ m ks l' ks', V.wfs l = true → V.wfs l' = true → V.cmps m l ks l' ks' = 0 → l = l' ∧ (m = true → ks.length = l.length → ks'.length = l'.length → ks = ks'))
  · intro k n s its ks ih b hw hw' h
    obtain ⟨k', n', s', its', ks'⟩ := b
    rw [cmp_lx, lx_zero, lx_zero, lx_zero, ic_zero, ic_zero, sc_zero] at h
    obtain ⟨rfl, rfl, rfl, h4⟩ := h
    rw [V.wf, Bool.and_eq_true] at hw hw'
    obtain ⟨rfl, hk⟩ := ih _ _ _ _ hw.2 hw'.2 h4
    have e : ks = ks' := by
      have t1 := hw.1
      have t2 := hw'.1
      simp only [V.top, uses] at t1 t2
      by_cases h5 : k = 5
      · subst h5
        simp at t1 t2
        exact hk rfl (by omega) (by omega)
      · have z : ∀ l : List ByteArray, ((l.length : Int) == 0) = true → l = [] := fun l hl => List.eq_nil_of_length_eq_zero (by simpa using hl)
        have z1 : ((ks.length : Int) == 0) = true := by
          repeat' split at t1
          all_goals simp_all
        have z2 : ((ks'.length : Int) == 0) = true := by
          repeat' split at t2
          all_goals simp_all
        rw [z _ z1, z _ z2]
    rw [e]
  · intro m ks l' ks' _ _ h
    rw [cmps_nil] at h
    cases l' with
    | nil => exact ⟨rfl, fun _ h1 h2 => by rw [List.eq_nil_of_length_eq_zero h1, List.eq_nil_of_length_eq_zero h2]⟩
    | cons y r' => rw [if_neg (by simp)] at h; omega
  · intro x r ihx ihr m ks l' ks' hw hw' h
    cases l' with
    | nil => rw [cmps_nil'] at h; omega
    | cons y r' =>
      rw [cmps_lx, lx_zero, lx_zero] at h
      rw [V.wfs, Bool.and_eq_true] at hw hw'
      obtain ⟨h1, h2, h3⟩ := h
      obtain rfl := ihx _ hw.1 hw'.1 h2
      obtain ⟨rfl, h4⟩ := ihr _ _ _ _ hw.2 hw'.2 h3
      refine ⟨rfl, fun hm l1 l2 => ?_⟩
      cases ks with
      | nil => simp at l1
      | cons q ks =>
        cases ks' with
        | nil => simp at l2
        | cons q' ks' =>
          simp at l1 l2
          unfold kc at h1
          rw [if_pos hm, sc_zero] at h1
          simp at h1 h4
          rw [h1, h4 hm l1 l2]
theorem ord_cmp {a b : V} (h : a.wf = true) (h' : b.wf = true) : V.ord a b = a.cmp b := if_pos ⟨h, h'⟩
/-- How three orders hang together. -/
theorem ord_three {a b c : V} (h1 : a.wf = true) (h2 : b.wf = true) (h3 : c.wf = true) : Tr (V.ord a b) (V.ord b c) (V.ord a c) ∧ Tr (- V.ord b c) (- V.ord a b) (- V.ord a c) := by
  rw [ord_cmp h1 h2, ord_cmp h2 h3, ord_cmp h1 h3]
  refine ⟨V.cmp_tr a b c, ?_⟩
  rw [← V.cmp_neg b c, ← V.cmp_neg a b, ← V.cmp_neg a c]
  exact V.cmp_tr c b a
theorem ord_back {a b : V} (h1 : a.wf = true) (h2 : b.wf = true) : V.ord b a = - V.ord a b := by
  rw [ord_cmp h1 h2, ord_cmp h2 h1]; exact V.cmp_neg a b
theorem ord_same {a b : V} (h1 : a.wf = true) (h2 : b.wf = true) : V.same a b = decide (V.ord a b = 0) := by
  rw [ord_cmp h1 h2]
  by_cases h : a = b
  · subst h; rw [V.same_yes rfl, V.cmp_self]; rfl
  · rw [V.same_no h, eq_comm, decide_eq_false_iff_not]
    exact fun h0 => h (V.cmp_eq a b h1 h2 h0)
theorem ord_small (a b : V) : V.ord a b = -1 ∨ V.ord a b = 0 ∨ V.ord a b = 1 := by
  unfold V.ord
  split
  · have := V.cmp_small a b; omega
  · exact .inr (.inl rfl)
end Go.Proofs.Ythmlpogflllcnaa.M
