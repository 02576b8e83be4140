/-
  Plain mathematics of layer 2: the order, kind by kind.
-/
import Derived.Test.YtdkggnciamfcmaaGreatDoorVal4
namespace Go.Proofs.YtdkggnciamfcmaaGreatDoor.M

theorem cb_spec (a b : ByteArray) : Lib.compareBytes a.data.toList b.data.toList = if a = b then 0 else if Go.Op.bytesLess a.toList b.toList = true then -1 else 1 := by
  obtain ⟨h1, h2, h3⟩ := bl_cmp a.data.toList b.data.toList
  have e1 : a.toList = a.data.toList := ByteArray.toList_eq _
  have e2 : b.toList = b.data.toList := ByteArray.toList_eq _
  rw [e1, e2, h1]
  by_cases hab : a = b
  · subst hab
    rw [if_pos rfl]
    rw [beq_self_eq_true] at h2
    exact of_decide_eq_true h2.symm
  · rw [if_neg hab]
    have hne : (a.data.toList == b.data.toList) = false := by
      rw [beq_eq_false_iff_ne]; intro h; exact hab (toList_inj (by rw [e1, e2, h]))
    rw [hne] at h2
    have hn0 := of_decide_eq_false h2.symm
    rcases cb_small a.data.toList b.data.toList with h | h | h
    · rw [h]; rfl
    · exact absurd h hn0
    · rw [h]; rfl

def icmp (a b : Int) : Int := if a < b then -1 else if b < a then 1 else 0
theorem wf_top {t : V} (h : t.wf = true) : t.top = true := by rw [V.wf_eq, Bool.and_eq_true] at h; exact h.1
section
variable {k n n' : Int} {s s' : ByteArray} {its its' : List V} {ks ks' : List ByteArray}
theorem empty_eq {s s' : ByteArray} (h : s.toList = []) (h' : s'.toList = []) : s = s' := toList_inj (by rw [h, h'])
theorem V.cmp_text3 (h : V.wf (.mk 3 n s its ks) = true) (h' : V.wf (.mk 3 n' s' its' ks') = true) : V.cmp (.mk 3 n s its ks) (.mk 3 n' s' its' ks') = Lib.compareBytes s.data.toList s'.data.toList := by
  have h := wf_top h; have h' := wf_top h'
  simp [V.top, uses] at h h'
  obtain ⟨⟨rfl, h2⟩, h3⟩ := h
  obtain ⟨⟨rfl, h2'⟩, h3'⟩ := h'
  subst h2; subst h2'
  rw [cb_spec]
  by_cases hs : s = s'
  · subst hs
    rw [V.cmp_items, if_pos rfl, V.cmps]; rfl
  · rw [V.cmp_text hs, if_neg hs]
theorem V.cmp_list4 (h : V.wf (.mk 4 n s its ks) = true) (h' : V.wf (.mk 4 n' s' its' ks') = true) : V.cmp (.mk 4 n s its ks) (.mk 4 n' s' its' ks') = V.cmps false its ks its' ks' := by
  have h := wf_top h; have h' := wf_top h'
  simp [V.top, uses] at h h'
  obtain ⟨⟨rfl, h2⟩, h3⟩ := h
  obtain ⟨⟨rfl, h2'⟩, h3'⟩ := h'
  obtain rfl := empty_eq h2 h2'
  rw [V.cmp_items]; rfl
theorem V.cmp_map5 (h : V.wf (.mk 5 n s its ks) = true) (h' : V.wf (.mk 5 n' s' its' ks') = true) : V.cmp (.mk 5 n s its ks) (.mk 5 n' s' its' ks') = V.cmps true its ks its' ks' := by
  have h := wf_top h; have h' := wf_top h'
  simp [V.top, uses] at h h'
  obtain ⟨⟨⟨rfl, h2⟩, h3⟩, h4⟩ := h
  obtain ⟨⟨⟨rfl, h2'⟩, h3'⟩, h4'⟩ := h'
  obtain rfl := empty_eq h2 h2'
  rw [V.cmp_items]; rfl
theorem V.cmp_plain (h : V.wf (.mk k n s its ks) = true) (h' : V.wf (.mk k n' s' its' ks') = true) (h3 : k ≠ 3) (h4 : k ≠ 4) (h5 : k ≠ 5) : V.cmp (.mk k n s its ks) (.mk k n' s' its' ks') = icmp n n' := by
  have h := wf_top h; have h' := wf_top h'
  have hs : s.toList = [] ∧ s'.toList = [] ∧ its = [] ∧ its' = [] := by
    simp only [V.top, uses] at h h'
    by_cases k0 : k = 0
    · subst k0; simp at h h'; exact ⟨h.1.1.2, h'.1.1.2, h.1.2, h'.1.2⟩
    by_cases k1 : k = 1
    · subst k1; simp at h h'; exact ⟨h.1.1.2, h'.1.1.2, h.1.2, h'.1.2⟩
    by_cases k2 : k = 2
    · subst k2; simp at h h'; exact ⟨h.1.1, h'.1.1, h.1.2, h'.1.2⟩
    by_cases k6 : k = 6
    · subst k6; simp at h h'; exact ⟨h.1.1.2, h'.1.1.2, h.1.2, h'.1.2⟩
    · rw [if_neg k0, if_neg k1, if_neg k2, if_neg h3, if_neg h4, if_neg h5, if_neg k6] at h; cases h
  obtain ⟨a1, a2, rfl, rfl⟩ := hs
  obtain rfl := empty_eq a1 a2
  unfold icmp
  by_cases hn : n = n'
  · subst hn
    rw [V.cmp_items, V.cmps, if_neg (Int.lt_irrefl _), if_neg (Int.lt_irrefl _)]; rfl
  · rw [V.cmp_int hn]
    by_cases h1 : n < n'
    · rw [if_pos h1, if_pos h1]
    · rw [if_neg h1, if_neg h1, if_pos (by omega)]
end
end Go.Proofs.YtdkggnciamfcmaaGreatDoor.M
