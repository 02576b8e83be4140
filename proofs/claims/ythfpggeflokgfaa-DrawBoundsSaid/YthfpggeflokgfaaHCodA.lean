/-
  Layer 4: FNV-1a, the code's and the reference's.
-/
import Derived.Test.YthfpggeflokgfaaHMath
import Derived.Test.YthfpggeflokgfaaMem
import Derived.Laws.BitsAllLaws
namespace Go.Proofs.Ythfpggeflokgfaa
open Go.RowKit

theorem xor_n {a b : Nat} (ha : a < 4294967296) (hb : b < 4294967296) : bits .xor .u32 (a : Int) (b : Int) = ((a ^^^ b : Nat) : Int) := u32_xor_nat a b ha hb
theorem fb_eq (h c : Nat) : (((h ^^^ c : Nat) : Int) * 16777619) % 4294967296 = ((M.fb h c : Nat) : Int) := by unfold M.fb; omega
theorem take_snoc (s : ByteArray) (k : Nat) (h : k < s.size) : s.data.toList.take (k + 1) = s.data.toList.take k ++ [s[k]] := by
  rw [List.take_succ_eq_append_getElem (by simpa using h)]; rfl

set_option maxHeartbeats 400000 in
theorem addByte_any (h c : Nat) (w : World) (hh : h < 4294967296) (hc : c < 256) :
    Calls Try.prog 23 #[.int .u32 h, .int .u8 c] w fun e w' => e = .returned (.int .u32 (M.fb h c)) ∧ w = w' := by
  have hx := xor_n hh (show c < 4294967296 by omega)
  have hb := fb_eq h c
  go_enter Try.func23, Try.ntmps23
  go_wp2
  go_ret
  exact ⟨ret_int hb, rfl⟩

theorem u8_at (s : ByteArray) (k : Nat) (h : k < s.size) : s[k].toNat < 256 := s[k].toNat_lt
theorem fnv_take (s : ByteArray) (k : Nat) (h : k < s.size) : M.fnv (s.data.toList.take (k + 1)) = M.fb (M.fnv (s.data.toList.take k)) s[k].toNat := by
  rw [take_snoc s k h, M.fnv_snoc]
theorem fnv_all (s : ByteArray) : M.fnv (s.data.toList.take s.size) = M.fnv s.data.toList := by rw [List.take_of_length_le (by simp)]

set_option maxHeartbeats 400000 in
theorem fnv_any (s : ByteArray) (w : World) (hs : s.size ≤ maxLen) :
    Calls Try.prog 20 #[.string s] w fun e w' => e = .returned (.int .i64 (M.fnv s.data.toList)) ∧ w = w' := by
  unfold maxLen at hs
  go_enter Try.func20, Try.ntmps20
  go_wp2
  go_loop [3, 7] (fun h i => ∃ k : Nat, k ≤ s.size ∧ i = .int .i64 k ∧ h = .int .u32 (M.fnv (s.data.toList.take k))) (fun _ i => s.size - (intOf i).toNat)
  case atStart => exact ⟨0, Nat.zero_le _, rfl, rfl⟩
  case round =>
    obtain ⟨k, hk, rfl, rfl⟩ := hrel
    have hl := M.fnv_lt (s.data.toList.take k)
    by_cases hlt : k < s.size
    · have hc := u8_at s k hlt
      have HS := Lib.hid (fnv_take s k hlt)
      go_wp2_with (go_at_call 23; refine (addByte_any _ _ _ hl hc).mono ?_; rintro e w' ⟨rfl, rfl⟩)
      go_round
      case rel => exact ⟨k + 1, by omega, by go_num, by rw [HS.out]⟩
      case measure => simp [intOf]; omega
    · go_wp2
      go_ret
      exact ⟨ret_int (by rw [show k = s.size by omega, fnv_all]), rfl⟩

end Go.Proofs.Ythfpggeflokgfaa
