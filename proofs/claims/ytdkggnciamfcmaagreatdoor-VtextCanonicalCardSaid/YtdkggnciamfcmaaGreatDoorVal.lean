/-
  Plain mathematics of layer 2 (no program): values as trees, and what the chapter says of them.
-/
import Derived.Test.YtdkggnciamfcmaaGreatDoorMath
import Derived.Lib.Bytealg
namespace Go.Proofs.YtdkggnciamfcmaaGreatDoor.M

inductive V where
  | mk (k n : Int) (s : ByteArray) (its : List V) (ks : List ByteArray)
def V.k : V → Int | .mk k _ _ _ _ => k
def V.n : V → Int | .mk _ n _ _ _ => n
def V.s : V → ByteArray | .mk _ _ s _ _ => s
def V.its : V → List V | .mk _ _ _ its _ => its
def V.ks : V → List ByteArray | .mk _ _ _ _ ks => ks
def V.null : V := .mk 0 0 ByteArray.empty [] []
instance : Inhabited V := ⟨V.null⟩
theorem V.eta (t : V) : t = .mk t.k t.n t.s t.its t.ks := by cases t; rfl

theorem toList_inj {s t : ByteArray} (h : s.toList = t.toList) : s = t := by
  rw [ByteArray.toList_eq, ByteArray.toList_eq] at h
  exact ByteArray.ext (Array.toList_inj.1 h)
theorem take_snoc {α : Type} [Inhabited α] {l : List α} {i : Nat} (h : i < l.length) : l.take (i + 1) = l.take i ++ [l.getD i default] := by
  rw [List.take_succ_eq_append_getElem h]
  simp [List.getD, List.getElem?_eq_getElem h]
theorem drop_cons {α : Type} [Inhabited α] {l : List α} {i : Nat} (h : i < l.length) : l.drop i = l.getD i default :: l.drop (i + 1) := by
  rw [List.drop_eq_getElem_cons h]
  simp [List.getD, List.getElem?_eq_getElem h]

/-! ### Sizes -/
mutual
def V.sz : V → Nat | .mk _ _ _ its _ => 1 + V.szs its
def V.szs : List V → Nat | [] => 0 | x :: r => x.sz + V.szs r
end
mutual
def V.dep : V → Nat | .mk _ _ _ its _ => V.deps its + 1
def V.deps : List V → Nat | [] => 0 | x :: r => max x.dep (V.deps r)
end
theorem V.szs_append (a b : List V) : V.szs (a ++ b) = V.szs a + V.szs b := by
  induction a with
  | nil => simp [V.szs]
  | cons x r ih => simp only [List.cons_append, V.szs, ih]; omega
theorem V.deps_append (a b : List V) : V.deps (a ++ b) = max (V.deps a) (V.deps b) := by
  induction a with
  | nil => simp [V.deps]
  | cons x r ih => simp only [List.cons_append, V.deps, ih]; omega
theorem V.szs_one (x : V) : V.szs [x] = x.sz := by simp [V.szs]
theorem V.deps_one (x : V) : V.deps [x] = x.dep := by simp [V.deps]
theorem V.szs_snoc {l : List V} {i : Nat} (h : i < l.length) : V.szs (l.take (i + 1)) = V.szs (l.take i) + (l.getD i default).sz := by
  rw [take_snoc h, V.szs_append, V.szs_one]
theorem V.deps_snoc {l : List V} {i : Nat} (h : i < l.length) : V.deps (l.take (i + 1)) = max (V.deps (l.take i)) (l.getD i default).dep := by
  rw [take_snoc h, V.deps_append, V.deps_one]
theorem V.sz_eq (t : V) : t.sz = 1 + V.szs t.its := by cases t; rfl
theorem V.dep_eq (t : V) : t.dep = V.deps t.its + 1 := by cases t; rfl
theorem V.szs_take_le (l : List V) (i : Nat) : V.szs (l.take i) ≤ V.szs l := by
  have := V.szs_append (l.take i) (l.drop i)
  rw [List.take_append_drop] at this; omega
theorem V.deps_take_le (l : List V) (i : Nat) : V.deps (l.take i) ≤ V.deps l := by
  have := V.deps_append (l.take i) (l.drop i)
  rw [List.take_append_drop] at this; omega
mutual
theorem V.dep_le_sz : ∀ t : V, t.dep ≤ t.sz
  | .mk _ _ _ its _ => by have := V.deps_le_szs its; simp only [V.dep, V.sz]; omega
theorem V.deps_le_szs : ∀ l : List V, V.deps l ≤ V.szs l
  | [] => by simp [V.deps]
  | x :: r => by have h1 := V.dep_le_sz x; have h2 := V.deps_le_szs r; simp only [V.deps, V.szs]; omega
end
theorem V.sz_pos (t : V) : 0 < t.sz := by cases t; simp only [V.sz]; omega
theorem V.dep_pos (t : V) : 0 < t.dep := by cases t; simp only [V.dep]; omega
theorem V.len_le_szs : ∀ l : List V, l.length ≤ V.szs l
  | [] => by simp [V.szs]
  | x :: r => by have h1 := V.sz_pos x; have h2 := V.len_le_szs r; simp only [List.length_cons, V.szs]; omega

def V.fews (l : List V) (n : Int) : Int := if (V.szs l : Int) ≤ n then n - V.szs l else -1
/-- What is left of n nodes; -1 if the value has more. -/
def V.few (t : V) (n : Int) : Int := if (t.sz : Int) ≤ n then n - t.sz else -1

theorem V.few_end {t : V} {l : List V} {n : Int} (h : t.its = l) : t.few n = V.fews l (n - 1) := by
  unfold V.few V.fews
  rw [V.sz_eq, h]
  split <;> split <;> omega
theorem V.fews_next {l : List V} {i : Nat} {n : Int} (h : i < l.length) (h0 : 0 ≤ V.fews (l.take i) n) : (l.getD i default).few (V.fews (l.take i) n) = V.fews (l.take (i + 1)) n := by
  have hs := V.szs_snoc h
  unfold V.fews at h0 ⊢
  unfold V.few
  rw [hs]
  split at h0
  · rename_i h1
    rw [if_pos h1]
    split <;> split <;> omega
  · omega
theorem V.fews_stop {l : List V} {i : Nat} {n : Int} (h : V.fews (l.take i) n < 0) : V.fews l n = V.fews (l.take i) n := by
  have := V.szs_take_le l i
  unfold V.fews at h ⊢
  split at h
  · omega
  · rename_i h1
    rw [if_neg h1, if_neg (by omega)]
theorem V.fews_all {l : List V} {i : Nat} {n : Int} (h : l.length ≤ i) : V.fews (l.take i) n = V.fews l n := by rw [List.take_of_length_le h]
theorem V.fews_le {l : List V} {n : Int} (h : -1 ≤ n) : -1 ≤ V.fews l n ∧ V.fews l n ≤ n := by
  unfold V.fews; split <;> omega

/-! ### Well formed -/
/-- The keys are ascending. -/
def Rise (ks : List ByteArray) : Prop := ∀ i, i + 1 < ks.length → Go.Op.bytesLess (ks.getD i ByteArray.empty).toList (ks.getD (i + 1) ByteArray.empty).toList = true
noncomputable def rise (ks : List ByteArray) : Bool := @decide (Rise ks) (Classical.propDecidable _)
theorem rise_yes {ks : List ByteArray} (h : Rise ks) : rise ks = true := by unfold rise; simp [h]
theorem rise_no {ks : List ByteArray} {i : Nat} (h : i + 1 < ks.length) (hn : Go.Op.bytesLess (ks.getD i ByteArray.empty).toList (ks.getD (i + 1) ByteArray.empty).toList = false) : rise ks = false := by
  have : ¬ Rise ks := fun H => by rw [H i h] at hn; cases hn
  unfold rise; simp [this]
theorem rise_iff {ks : List ByteArray} : rise ks = true ↔ Rise ks := by unfold rise; simp

/-- The fields of a value that is no list and no map of others. -/
def uses (k n : Int) (s0 i0 k0 ik r : Bool) : Bool :=
  if k = 0 then n == 0 && s0 && i0 && k0
  else if k = 1 then (n == 0 || n == 1) && s0 && i0 && k0
  else if k = 2 then s0 && i0 && k0
  else if k = 3 then n == 0 && i0 && k0
  else if k = 4 then n == 0 && s0 && k0
  else if k = 5 then n == 0 && s0 && ik && r
  else if k = 6 then decide (0 ≤ n) && s0 && i0 && k0
  else false
noncomputable def V.top : V → Bool
  | .mk k n s its ks => uses k n s.toList.isEmpty ((its.length : Int) == 0) ((ks.length : Int) == 0) ((ks.length : Int) == (its.length : Int)) (rise ks)
mutual
noncomputable def V.wf : V → Bool | .mk k n s its ks => V.top (.mk k n s its ks) && V.wfs its
noncomputable def V.wfs : List V → Bool | [] => true | x :: r => x.wf && V.wfs r
end
theorem V.wfs_append (a b : List V) : V.wfs (a ++ b) = (V.wfs a && V.wfs b) := by
  induction a with
  | nil => simp [V.wfs]
  | cons x r ih => simp only [List.cons_append, V.wfs, ih, Bool.and_assoc]
theorem V.wfs_snoc {l : List V} {i : Nat} (h : i < l.length) : V.wfs (l.take (i + 1)) = (V.wfs (l.take i) && (l.getD i default).wf) := by
  rw [take_snoc h, V.wfs_append]; simp [V.wfs]
theorem V.wfs_get : ∀ {l : List V} (_ : V.wfs l = true) (i : Nat) (_ : i < l.length), (l.getD i default).wf = true
  | x :: r, h, 0, _ => by simp only [V.wfs, Bool.and_eq_true] at h; exact h.1
  | x :: r, h, i + 1, hi => by
    simp only [V.wfs, Bool.and_eq_true] at h
    exact V.wfs_get h.2 i (by simpa using hi)
theorem V.wfs_bad {l : List V} {i : Nat} (h : i < l.length) (hn : (l.getD i default).wf = false) : V.wfs l = false := by
  cases hw : V.wfs l with
  | false => rfl
  | true => rw [V.wfs_get hw i h] at hn; cases hn
theorem V.wf_eq (t : V) : t.wf = (t.top && V.wfs t.its) := by cases t; rfl

/-! ### Futures, lengths, limits -/
mutual
def V.fut : V → Bool | .mk k _ _ its _ => k == 6 || V.futs its
def V.futs : List V → Bool | [] => false | x :: r => x.fut || V.futs r
end
theorem V.futs_append (a b : List V) : V.futs (a ++ b) = (V.futs a || V.futs b) := by
  induction a with
  | nil => simp [V.futs]
  | cons x r ih => simp only [List.cons_append, V.futs, ih, Bool.or_assoc]
theorem V.futs_snoc {l : List V} {i : Nat} (h : i < l.length) : V.futs (l.take (i + 1)) = (V.futs (l.take i) || (l.getD i default).fut) := by
  rw [take_snoc h, V.futs_append]; simp [V.futs]
theorem V.futs_get : ∀ {l : List V} {i : Nat} (_ : i < l.length) (_ : (l.getD i default).fut = true), V.futs l = true
  | x :: r, 0, _, h => by simp only [V.futs, Bool.or_eq_true]; exact .inl h
  | x :: r, i + 1, hi, h => by simp only [V.futs, Bool.or_eq_true]; exact .inr (V.futs_get (by simpa using hi) h)
theorem V.futs_take {l : List V} {i : Nat} (h : V.futs (l.take i) = true) : V.futs l = true := by
  have := V.futs_append (l.take i) (l.drop i)
  rw [List.take_append_drop] at this; rw [this, h]; rfl
theorem V.fut_eq (t : V) : t.fut = (t.k == 6 || V.futs t.its) := by cases t; rfl

def fits (s : ByteArray) : Bool := decide (s.size ≤ 4096)
theorem fits_no {s : ByteArray} (h : 4096 < s.size) : fits s = false := decide_eq_false (by omega)
theorem fits_yes {s : ByteArray} (h : ¬ 4096 < s.size) : fits s = true := decide_eq_true (by omega)
theorem all_fits {ks : List ByteArray} (h : ∀ q, q < ks.length → fits (ks.getD q ByteArray.empty) = true) : ks.all fits = true := by
  rw [List.all_eq_true]
  intro x hx
  obtain ⟨i, hi, rfl⟩ := List.getElem_of_mem hx
  have := h i hi
  simpa [List.getD, List.getElem?_eq_getElem hi] using this
theorem not_fits {ks : List ByteArray} {q : Nat} (hq : q < ks.length) (h : fits (ks.getD q ByteArray.empty) = false) : ks.all fits = false := by
  cases hc : ks.all fits with
  | false => rfl
  | true =>
    rw [List.all_eq_true] at hc
    have := hc (ks.getD q ByteArray.empty) (by simp [List.getD, List.getElem?_eq_getElem hq])
    rw [this] at h; cases h
def V.txt (t : V) : Bool := fits t.s && t.ks.all fits
mutual
def V.short : V → Bool | .mk k n s its ks => V.txt (.mk k n s its ks) && V.shorts its
def V.shorts : List V → Bool | [] => true | x :: r => x.short && V.shorts r
end
theorem V.shorts_append (a b : List V) : V.shorts (a ++ b) = (V.shorts a && V.shorts b) := by
  induction a with
  | nil => simp [V.shorts]
  | cons x r ih => simp only [List.cons_append, V.shorts, ih, Bool.and_assoc]
theorem V.shorts_snoc {l : List V} {i : Nat} (h : i < l.length) : V.shorts (l.take (i + 1)) = (V.shorts (l.take i) && (l.getD i default).short) := by
  rw [take_snoc h, V.shorts_append]; simp [V.shorts]
theorem V.shorts_get : ∀ {l : List V} (_ : V.shorts l = true) (i : Nat) (_ : i < l.length), (l.getD i default).short = true
  | x :: r, h, 0, _ => by simp only [V.shorts, Bool.and_eq_true] at h; exact h.1
  | x :: r, h, i + 1, hi => by
    simp only [V.shorts, Bool.and_eq_true] at h
    exact V.shorts_get h.2 i (by simpa using hi)
theorem V.shorts_bad {l : List V} {i : Nat} (h : i < l.length) (hn : (l.getD i default).short = false) : V.shorts l = false := by
  cases hw : V.shorts l with
  | false => rfl
  | true => rw [V.shorts_get hw i h] at hn; cases hn
theorem V.short_eq (t : V) : t.short = (t.txt && V.shorts t.its) := by cases t; rfl
def V.within (t : V) : Bool := t.short && decide (t.dep ≤ 16) && decide (t.sz ≤ 1000)
noncomputable def V.right (t : V) : Bool := t.wf && t.within && !t.fut

/-- How many of 'room' nodes are left after a value at a depth; -1 if it exceeds a limit. -/
def V.room (t : V) (depth room : Int) : Int := if t.short = true ∧ (t.dep : Int) + depth ≤ 17 ∧ (t.sz : Int) ≤ room then room - t.sz else -1
def V.rooms (l : List V) (depth room : Int) : Int := if V.shorts l = true ∧ (V.deps l : Int) + depth ≤ 17 ∧ (V.szs l : Int) ≤ room then room - V.szs l else -1
theorem V.within_room (t : V) : decide (0 ≤ t.room 1 1000) = t.within := by
  unfold V.room V.within
  by_cases h1 : t.short = true <;> by_cases h2 : t.dep ≤ 16 <;> by_cases h3 : t.sz ≤ 1000 <;> simp [h1, h2, h3] <;> omega

/-! ### Equal -/
noncomputable def V.same (a b : V) : Bool := @decide (a = b) (Classical.propDecidable _)
theorem V.same_yes {a b : V} (h : a = b) : V.same a b = true := by unfold V.same; simp [h]
theorem V.same_no {a b : V} (h : a ≠ b) : V.same a b = false := by unfold V.same; simp [h]
theorem V.same_iff {a b : V} : V.same a b = true ↔ a = b := by unfold V.same; simp
end Go.Proofs.YtdkggnciamfcmaaGreatDoor.M
