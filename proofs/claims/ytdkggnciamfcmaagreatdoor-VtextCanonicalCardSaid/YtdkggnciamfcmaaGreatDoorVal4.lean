/-
  Plain mathematics of layer 2: how many nodes are left.
-/
import Derived.Test.YtdkggnciamfcmaaGreatDoorVal3
namespace Go.Proofs.YtdkggnciamfcmaaGreatDoor.M

theorem V.room_end {t : V} {depth room : Int} (ht : t.txt = true) : t.room depth room = V.rooms t.its (depth + 1) (room - 1) := by
  unfold V.room V.rooms
  rw [V.short_eq, V.dep_eq, V.sz_eq, ht, Bool.true_and]
  by_cases h1 : V.shorts t.its = true
  · simp only [h1, true_and]
    split <;> split <;> omega
  · simp [h1]
theorem V.room_deep {t : V} {depth room : Int} (h : 16 < depth) : t.room depth room = -1 := by
  have := t.dep_pos
  unfold V.room; rw [if_neg (by omega)]
theorem V.room_none {t : V} {depth : Int} : t.room depth 0 = -1 := by
  have := t.sz_pos
  unfold V.room; rw [if_neg (by omega)]
theorem V.room_long {t : V} {depth room : Int} (h : t.txt = false) : t.room depth room = -1 := by
  unfold V.room; rw [if_neg]
  rintro ⟨h1, _⟩
  rw [V.short_eq, h] at h1; cases h1
theorem V.rooms_nil {depth room : Int} (h : depth ≤ 17) (h0 : 0 ≤ room) : V.rooms [] depth room = room := by
  unfold V.rooms
  rw [if_pos ⟨rfl, by simp [V.deps]; omega, by simp [V.szs]; omega⟩]; simp [V.szs]
theorem V.rooms_next {l : List V} {i : Nat} {depth room : Int} (h : i < l.length) (h0 : 0 ≤ V.rooms (l.take i) depth room) : (l.getD i default).room depth (V.rooms (l.take i) depth room) = V.rooms (l.take (i + 1)) depth room := by
  have hs := V.szs_snoc h
  have hd := V.deps_snoc h
  have hh := V.shorts_snoc h
  unfold V.rooms at h0 ⊢
  unfold V.room
  rw [hs, hd, hh]
  by_cases hc : V.shorts (l.take i) = true ∧ (V.deps (l.take i) : Int) + depth ≤ 17 ∧ (V.szs (l.take i) : Int) ≤ room
  · simp only [if_pos hc] at h0 ⊢
    obtain ⟨a1, a2, a3⟩ := hc
    rw [a1, Bool.true_and]
    by_cases b1 : (l.getD i default).short = true
    · simp only [b1, true_and]
      split <;> split <;> omega
    · rw [if_neg (fun h => b1 h.1), if_neg (fun h => b1 h.1)]
  · rw [if_neg hc] at h0; omega
theorem V.rooms_stop {l : List V} {i : Nat} {depth room : Int} (h : V.rooms (l.take i) depth room < 0) : V.rooms l depth room = -1 := by
  have h1 := V.szs_take_le l i
  have h2 := V.deps_take_le l i
  have h3 := V.shorts_append (l.take i) (l.drop i)
  rw [List.take_append_drop] at h3
  unfold V.rooms at h ⊢
  split at h
  · omega
  · rename_i hn
    rw [if_neg]
    rintro ⟨b1, b2, b3⟩
    apply hn
    rw [h3, Bool.and_eq_true] at b1
    exact ⟨b1.1, by omega, by omega⟩
theorem V.rooms_le {l : List V} {depth room : Int} (h : -1 ≤ room) : -1 ≤ V.rooms l depth room ∧ V.rooms l depth room ≤ room := by
  unfold V.rooms; split <;> omega
theorem V.rooms_all {l : List V} {i : Nat} {depth room : Int} (h : l.length ≤ i) : V.rooms (l.take i) depth room = V.rooms l depth room := by rw [List.take_of_length_le h]
end Go.Proofs.YtdkggnciamfcmaaGreatDoor.M
