/-
  Layer 6: valid names, the code's test and the reference's.
-/
import Derived.Test.YthmdacpejhncgaaDoorQMath
import Derived.Test.YthmdacpejhncgaaDoorChecked
import Derived.WalkKit
import Derived.WalkLawsBesides
import Derived.BigQuiet
import Derived.Lib.Hide
namespace Go.Proofs.YthmdacpejhncgaaDoor
open Go.RowKit
set_option linter.unusedVariables false

set_option maxHeartbeats 400000 in
theorem qdig_any (c : Nat) (w : World) :
    Calls Tryd.prog 18 #[.int .u8 (c : Int)] w fun e w' => e = .returned (.bool (Q.dig c)) ∧ w' = w := by
  by_cases h1 : (48 : Int) ≤ (c : Int)
  all_goals (by_cases h2 : (c : Int) ≤ 57)
  all_goals (go_enter Tryd.func18, Tryd.ntmps18; go_wp2)
  all_goals go_ret
  all_goals (refine ⟨?_, rfl⟩; first | (rw [Q.dig_yes (by omega)]; rfl) | (rw [Q.dig_no (by omega)]; rfl))

set_option maxHeartbeats 1000000 in
theorem qpart_any (c : Nat) (w : World) :
    Calls Tryd.prog 19 #[.int .u8 (c : Int)] w fun e w' => e = .returned (.bool (Q.part c)) ∧ w' = w := by
  by_cases h1 : (97 : Int) ≤ (c : Int)
  all_goals (by_cases h2 : (c : Int) ≤ 122)
  all_goals (by_cases h3 : (65 : Int) ≤ (c : Int))
  all_goals (by_cases h4 : (c : Int) ≤ 90)
  all_goals (have h5 : (((c : Int) == 95) = true ∧ c = 95) ∨ (((c : Int) == 95) = false ∧ c ≠ 95) := by (rcases Nat.decEq c 95 with h | h; exact .inr ⟨by rw [beq_eq_false_iff_ne]; omega, h⟩; exact .inl ⟨by rw [h]; rfl, h⟩))
  all_goals (rcases h5 with ⟨h5, h5'⟩ | ⟨h5, h5'⟩)
  all_goals (by_cases h6 : (48 : Int) ≤ (c : Int))
  all_goals (by_cases h7 : (c : Int) ≤ 57)
  all_goals (first | (exfalso; omega) | skip)
  all_goals (go_enter Tryd.func19, Tryd.ntmps19; go_wp2)
  all_goals go_ret
  all_goals (refine ⟨?_, rfl⟩; first | (rw [Q.part_yes (by omega)]; rfl) | (rw [Q.part_no (by omega)]; rfl))

set_option maxHeartbeats 1000000 in
theorem rletter_any (c : Nat) (w : World) :
    Calls Tryd.prog 20 #[.int .u8 (c : Int)] w fun e w' => e = .returned (.bool (Q.part c)) ∧ w' = w := by
  by_cases h1 : (97 : Int) ≤ (c : Int)
  all_goals (by_cases h2 : (c : Int) ≤ 122)
  all_goals (by_cases h3 : (65 : Int) ≤ (c : Int))
  all_goals (by_cases h4 : (c : Int) ≤ 90)
  all_goals (have h5 : (((c : Int) == 95) = true ∧ c = 95) ∨ (((c : Int) == 95) = false ∧ c ≠ 95) := by (rcases Nat.decEq c 95 with h | h; exact .inr ⟨by rw [beq_eq_false_iff_ne]; omega, h⟩; exact .inl ⟨by rw [h]; rfl, h⟩))
  all_goals (rcases h5 with ⟨h5, h5'⟩ | ⟨h5, h5'⟩)
  all_goals (by_cases h6 : (48 : Int) ≤ (c : Int))
  all_goals (by_cases h7 : (c : Int) ≤ 57)
  all_goals (first | (exfalso; omega) | skip)
  all_goals (go_enter Tryd.func20, Tryd.ntmps20; go_wp2)
  all_goals go_ret
  all_goals (refine ⟨?_, rfl⟩; first | (rw [Q.part_yes (by omega)]; rfl) | (rw [Q.part_no (by omega)]; rfl))

theorem q_at (s : ByteArray) (k : Nat) (h : k < s.size) : s[k].toNat = (s.data.toList[k]'(by simpa using h)).toNat := rfl
theorem q_len (s : ByteArray) : s.data.toList.length = s.size := by rw [Array.length_toList]; rfl

theorem q_nil {s : ByteArray} (h : s.size = 0) : s = ⟨#[]⟩ := by
  obtain ⟨⟨l⟩⟩ := s
  cases l with
  | nil => rfl
  | cons a l => exact absurd h (by simp [ByteArray.size])
theorem q_ne {s : ByteArray} (h : 0 < s.size) : s.toList.isEmpty = false := by
  rw [ByteArray.toList_eq]
  obtain ⟨⟨l⟩⟩ := s
  cases l with
  | nil => exact absurd h (by simp [ByteArray.size])
  | cons a l => rfl

set_option maxHeartbeats 1000000 in
theorem qright_any (s : ByteArray) (w : World) (hs : s.size ≤ maxLen) :
    Calls Tryd.prog 7 #[.string s] w fun e w' => e = .returned (.bool (Q.right s.data.toList)) ∧ w' = w := by
  unfold maxLen at hs
  have hlen := q_len s
  by_cases h0 : s.size = 0
  · obtain rfl := q_nil h0
    clear h0 hlen hs
    go_enter Tryd.func7, Tryd.ntmps7
    go_wp2
    go_ret
    exact ⟨rfl, rfl⟩
  · have hp : 0 < s.size := by omega
    have hne := q_ne hp
    by_cases h64 : 64 < s.size
    · rw [Q.right_long (by omega)]
      clear hlen
      go_enter Tryd.func7, Tryd.ntmps7
      go_wp2
      go_ret
      exact ⟨rfl, rfl⟩
    · have hc := s[0].toNat_lt
      cases hd : Q.dig s[0].toNat with
      | true =>
        rw [Q.right_dig (by omega) hd]
        have HD := Lib.hid hd
        clear hd hlen
        go_enter Tryd.func7, Tryd.ntmps7
        go_wp2_with (first | (go_at_call 18; refine (qdig_any _ _).mono ?_; rintro e w' ⟨rfl, rfl⟩; rw [HD.out]))
        go_ret
        exact ⟨rfl, rfl⟩
      | false =>
        have hr : Q.right s.data.toList = s.data.toList.all fun b => Q.part b.toNat := Q.right_of (by omega) (by omega) hd
        obtain ⟨R, hR⟩ : ∃ R, R = s.data.toList.all fun b => Q.part b.toNat := ⟨_, rfl⟩
        rw [hr, ← hR]
        have HR := Lib.hid hR
        have HD := Lib.hid hd
        have HL := Lib.hid hlen
        have h64i : decide ((64 : Int) < (s.size : Int)) = false := by simp; omega
        clear hd hlen hr hR
        go_enter Tryd.func7, Tryd.ntmps7
        go_wp2_with (first | (go_at_call 18; refine (qdig_any _ _).mono ?_; rintro e w' ⟨rfl, rfl⟩; rw [HD.out]))
        go_loop [18] (fun i => ∃ k : Nat, k ≤ s.size ∧ i = .int .i64 k ∧ Hid ((s.data.toList.take k).all (fun b => Q.part b.toNat) = true)) (fun i => s.size - (intOf i).toNat)
        case atStart => exact ⟨0, Nat.zero_le _, rfl, Lib.hid rfl⟩
        case round =>
          obtain ⟨k, hk, rfl, HA⟩ := hrel
          by_cases hlt : k < s.size
          · have hkl : k < s.data.toList.length := by rw [HL.out]; exact hlt
            have HN := Lib.hid (Q.all_take hkl HA.out)
            have HQ := Lib.hid (q_at s k hlt)
            cases hp : Q.part s[k].toNat with
            | true =>
              have HP := Lib.hid hp
              clear hp
              go_wp2_with (first | (go_at_call 19; refine (qpart_any _ _).mono ?_; rintro e w' ⟨rfl, rfl⟩; rw [HP.out]))
              go_round
              case rel => exact ⟨k + 1, by omega, by go_num, Lib.hid (by rw [HN.out]; exact HP.out)⟩
              case measure => simp [intOf]; omega
            | false =>
              have HP := Lib.hid hp
              clear hp
              go_wp2_with (first | (go_at_call 19; refine (qpart_any _ _).mono ?_; rintro e w' ⟨rfl, rfl⟩; rw [HP.out]))
              go_ret
              exact ⟨by rw [HR.out, Q.all_no hkl HP.out]; rfl, rfl⟩
          · go_wp2
            go_ret
            have he : s.data.toList.take k = s.data.toList := List.take_of_length_le (by rw [HL.out]; omega)
            exact ⟨by rw [HR.out, ← he, HA.out]; rfl, rfl⟩

set_option maxHeartbeats 1000000 in
theorem rqright_any (s : ByteArray) (w : World) (hs : s.size ≤ maxLen) :
    Calls Tryd.prog 8 #[.string s] w fun e w' => e = .returned (.bool (Q.right s.data.toList)) ∧ w' = w := by
  unfold maxLen at hs
  have hlen := q_len s
  by_cases h0 : s.size = 0
  · obtain rfl := q_nil h0
    clear h0 hlen hs
    go_enter Tryd.func8, Tryd.ntmps8
    go_wp2
    go_ret
    exact ⟨rfl, rfl⟩
  · have hp : 0 < s.size := by omega
    by_cases h64 : 64 < s.size
    · rw [Q.right_long (by omega)]
      clear hlen
      go_enter Tryd.func8, Tryd.ntmps8
      go_wp2
      go_ret
      exact ⟨rfl, rfl⟩
    · have hc := s[0].toNat_lt
      have h64i : decide ((64 : Int) < (s.size : Int)) = false := by simp; omega
      have h1i : decide ((s.size : Int) < (1 : Int)) = false := by simp; omega
      by_cases hd : 48 ≤ s[0].toNat ∧ s[0].toNat ≤ 57
      · rw [Q.right_dig (by omega) (Q.dig_yes hd)]
        obtain ⟨hd1, hd2⟩ := hd
        clear hlen
        have d1 : decide ((48 : Int) ≤ (s[0].toNat : Int)) = true := by simp; omega
        have d2 : decide ((s[0].toNat : Int) ≤ (57 : Int)) = true := by simp; omega
        go_enter Tryd.func8, Tryd.ntmps8
        go_wp2
        go_ret
        exact ⟨rfl, rfl⟩
      · have hr : Q.right s.data.toList = s.data.toList.all fun b => Q.part b.toNat := Q.right_of (by omega) (by omega) (Q.dig_no hd)
        obtain ⟨R, hR⟩ : ∃ R, R = s.data.toList.all fun b => Q.part b.toNat := ⟨_, rfl⟩
        rw [hr, ← hR]
        have HR := Lib.hid hR
        have HL := Lib.hid hlen
        have hd0 : (decide ((48 : Int) ≤ (s[0].toNat : Int)) = false) ∨ (decide ((48 : Int) ≤ (s[0].toNat : Int)) = true ∧ decide ((s[0].toNat : Int) ≤ (57 : Int)) = false) := by simp; omega
        clear hlen hr hR hd
        go_enter Tryd.func8, Tryd.ntmps8
        rcases hd0 with d1 | ⟨d1, d2⟩
        all_goals go_wp2
        all_goals (go_loop [3] (fun i => ∃ k : Nat, k ≤ s.size ∧ i = .int .i64 k ∧ Hid ((s.data.toList.take k).all (fun b => Q.part b.toNat) = true)) (fun i => s.size - (intOf i).toNat))
        case atStart => exact ⟨0, Nat.zero_le _, rfl, Lib.hid rfl⟩
        case atStart => exact ⟨0, Nat.zero_le _, rfl, Lib.hid rfl⟩
        all_goals (
          obtain ⟨k, hk, rfl, HA⟩ := hrel
          by_cases hlt : k < s.size
          · have hkl : k < s.data.toList.length := by rw [HL.out]; exact hlt
            have HN := Lib.hid (Q.all_take hkl HA.out)
            have HQ := Lib.hid (q_at s k hlt)
            cases hp : Q.part s[k].toNat with
            | true =>
              have HP := Lib.hid hp
              clear hp
              go_wp2_with (first | (go_at_call 20; refine (rletter_any _ _).mono ?_; rintro e w' ⟨rfl, rfl⟩; rw [HP.out]))
              go_round
              case rel => exact ⟨k + 1, by omega, by go_num, Lib.hid (by rw [HN.out]; exact HP.out)⟩
              case measure => simp [intOf]; omega
            | false =>
              have HP := Lib.hid hp
              clear hp
              go_wp2_with (first | (go_at_call 20; refine (rletter_any _ _).mono ?_; rintro e w' ⟨rfl, rfl⟩; rw [HP.out]))
              go_ret
              exact ⟨by rw [HR.out, Q.all_no hkl HP.out]; rfl, rfl⟩
          · go_wp2
            go_ret
            have he : s.data.toList.take k = s.data.toList := List.take_of_length_le (by rw [HL.out]; omega)
            exact ⟨by rw [HR.out, ← he, HA.out]; rfl, rfl⟩)
end Go.Proofs.YthmdacpejhncgaaDoor
