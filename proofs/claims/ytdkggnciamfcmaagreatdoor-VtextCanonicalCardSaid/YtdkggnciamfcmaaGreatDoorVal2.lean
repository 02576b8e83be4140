/-
  Plain mathematics of layer 2: the order of values.
-/
import Derived.Test.YtdkggnciamfcmaaGreatDoorVal
namespace Go.Proofs.YtdkggnciamfcmaaGreatDoor.M

mutual
def V.cmp : V → V → Int
  | .mk k n s its ks, t => if k ≠ t.k then (if k < t.k then -1 else 1) else if n ≠ t.n then (if n < t.n then -1 else 1)
      else if s ≠ t.s then (if Go.Op.bytesLess s.toList t.s.toList = true then -1 else 1) else V.cmps (k == 5) its ks t.its t.ks
def V.cmps : Bool → List V → List ByteArray → List V → List ByteArray → Int
  | _, [], _, its', _ => if its'.length = 0 then 0 else -1
  | m, x :: r, ks, its', ks' => match its' with
    | [] => 1
    | y :: r' => if m = true ∧ ks.headD ByteArray.empty ≠ ks'.headD ByteArray.empty then (if Go.Op.bytesLess (ks.headD ByteArray.empty).toList (ks'.headD ByteArray.empty).toList = true then -1 else 1)
      else if x.cmp y ≠ 0 then x.cmp y else V.cmps m r ks.tail r' ks'.tail
end
theorem headD_drop (ks : List ByteArray) (i : Nat) : (ks.drop i).headD ByteArray.empty = ks.getD i ByteArray.empty := by
  rw [List.headD_eq_head?_getD, List.head?_drop, List.getD_eq_getElem?_getD]
theorem V.cmps_step {m : Bool} {its its' : List V} {ks ks' : List ByteArray} {i : Nat} (h : i < its.length) (h' : i < its'.length) :
    V.cmps m (its.drop i) (ks.drop i) (its'.drop i) (ks'.drop i) =
      if m = true ∧ ks.getD i ByteArray.empty ≠ ks'.getD i ByteArray.empty then (if Go.Op.bytesLess (ks.getD i ByteArray.empty).toList (ks'.getD i ByteArray.empty).toList = true then -1 else 1)
      else if (its.getD i default).cmp (its'.getD i default) ≠ 0 then (its.getD i default).cmp (its'.getD i default) else V.cmps m (its.drop (i + 1)) (ks.drop (i + 1)) (its'.drop (i + 1)) (ks'.drop (i + 1)) := by
  rw [drop_cons h, drop_cons h', V.cmps, headD_drop, headD_drop, List.tail_drop, List.tail_drop]
theorem V.cmps_key {m : Bool} {its its' : List V} {ks ks' : List ByteArray} {i : Nat} (h : i < its.length) (h' : i < its'.length) (hm : m = true) (hne : ks.getD i ByteArray.empty ≠ ks'.getD i ByteArray.empty) :
    V.cmps m (its.drop i) (ks.drop i) (its'.drop i) (ks'.drop i) = if Go.Op.bytesLess (ks.getD i ByteArray.empty).toList (ks'.getD i ByteArray.empty).toList = true then -1 else 1 := by
  rw [V.cmps_step h h', if_pos ⟨hm, hne⟩]
theorem V.cmps_item {m : Bool} {its its' : List V} {ks ks' : List ByteArray} {i : Nat} (h : i < its.length) (h' : i < its'.length) (hm : m = true → ks.getD i ByteArray.empty = ks'.getD i ByteArray.empty)
    (hne : (its.getD i default).cmp (its'.getD i default) ≠ 0) :
    V.cmps m (its.drop i) (ks.drop i) (its'.drop i) (ks'.drop i) = (its.getD i default).cmp (its'.getD i default) := by
  rw [V.cmps_step h h', if_neg (fun ⟨a, b⟩ => b (hm a)), if_pos hne]
theorem V.cmps_next {m : Bool} {its its' : List V} {ks ks' : List ByteArray} {i : Nat} (h : i < its.length) (h' : i < its'.length) (hm : m = true → ks.getD i ByteArray.empty = ks'.getD i ByteArray.empty)
    (hne : (its.getD i default).cmp (its'.getD i default) = 0) :
    V.cmps m (its.drop i) (ks.drop i) (its'.drop i) (ks'.drop i) = V.cmps m (its.drop (i + 1)) (ks.drop (i + 1)) (its'.drop (i + 1)) (ks'.drop (i + 1)) := by
  rw [V.cmps_step h h', if_neg (fun ⟨a, b⟩ => b (hm a)), if_neg (fun h => h hne)]
theorem V.cmps_end {m : Bool} {its its' : List V} {ks ks' : List ByteArray} {i : Nat} (h : i ≤ its.length) (h' : i ≤ its'.length) (he : ¬ (i < its.length ∧ i < its'.length)) :
    V.cmps m (its.drop i) (ks.drop i) (its'.drop i) (ks'.drop i) = if its.length < its'.length then -1 else if its'.length < its.length then 1 else 0 := by
  by_cases h1 : i < its.length
  · have h2 : its'.length = i := by omega
    have e : its'.drop i = [] := List.drop_eq_nil_of_le (by omega)
    rw [drop_cons h1, e, V.cmps, if_neg (by omega), if_pos (by omega)]
  · have e : its.drop i = [] := List.drop_eq_nil_of_le (by omega)
    rw [e, V.cmps, List.length_drop]
    by_cases h2 : its.length < its'.length
    · rw [if_neg (by omega), if_pos h2]
    · rw [if_pos (by omega), if_neg h2, if_neg (by omega)]
theorem V.cmp_kind {k n k' n' : Int} {s s' : ByteArray} {its its' : List V} {ks ks' : List ByteArray} (h : k ≠ k') : V.cmp (.mk k n s its ks) (.mk k' n' s' its' ks') = if k < k' then -1 else 1 := by
  rw [V.cmp, if_pos (by exact h)]; rfl
theorem V.cmp_int {k n n' : Int} {s s' : ByteArray} {its its' : List V} {ks ks' : List ByteArray} (h : n ≠ n') : V.cmp (.mk k n s its ks) (.mk k n' s' its' ks') = if n < n' then -1 else 1 := by
  rw [V.cmp, if_neg (fun h => h rfl), if_pos (by exact h)]; rfl
theorem V.cmp_text {k n : Int} {s s' : ByteArray} {its its' : List V} {ks ks' : List ByteArray} (h : s ≠ s') : V.cmp (.mk k n s its ks) (.mk k n s' its' ks') = if Go.Op.bytesLess s.toList s'.toList = true then -1 else 1 := by
  rw [V.cmp, if_neg (fun h => h rfl), if_neg (fun h => h rfl), if_pos (by exact h)]; rfl
theorem V.cmp_items {k n : Int} {s : ByteArray} {its its' : List V} {ks ks' : List ByteArray} : V.cmp (.mk k n s its ks) (.mk k n s its' ks') = V.cmps (k == 5) its ks its' ks' := by
  rw [V.cmp, if_neg (fun h => h rfl), if_neg (fun h => h rfl), if_neg (fun h => h rfl)]; rfl
noncomputable def V.ord (a b : V) : Int := if a.wf = true ∧ b.wf = true then a.cmp b else 0

theorem V.cmp_small : ∀ a b : V, -1 ≤ a.cmp b ∧ a.cmp b ≤ 1 := by
  intro a
  apply V.rec (motive_1 := fun a => ∀ b, -1 ≤ a.cmp b ∧ a.cmp b ≤ 1) (motive_2 := fun l => ∀ m ks l' ks', -1 ≤ V.cmps m l ks l' ks' ∧ V.cmps m l ks l' ks' ≤ 1)
  · intro k n s its ks ih b
    rw [V.cmp]
    split
    · split <;> omega
    · split
      · split <;> omega
      · split
        · split <;> omega
        · exact ih _ _ _ _
  · intro m ks l' ks'
    rw [V.cmps]
    split <;> omega
  · intro x r ihx ihr m ks l' ks'
    cases l' with
    | nil => simp [V.cmps]
    | cons y r' =>
      rw [V.cmps]
      split
      · split <;> omega
      · split
        · exact ihx y
        · exact ihr _ _ _ _

theorem wf_map {k n : Int} {s : ByteArray} {its : List V} {ks : List ByteArray} (h : V.wf (.mk k n s its ks) = true) (hk : k = 5) : ks.length = its.length := by
  subst hk
  simp [V.wf, V.top, uses] at h
  omega
theorem wf_items {t : V} (h : t.wf = true) : V.wfs t.its = true := by
  rw [V.wf_eq, Bool.and_eq_true] at h; exact h.2
end Go.Proofs.YtdkggnciamfcmaaGreatDoor.M
