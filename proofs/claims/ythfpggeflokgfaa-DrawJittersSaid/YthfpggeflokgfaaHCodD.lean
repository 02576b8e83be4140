/-
  Layer 4: Mix and Bucket, the examples of the chapter.
-/
import Derived.Test.YthfpggeflokgfaaHCodC
import Derived.Lib.SlBytesConst
namespace Go.Proofs.Ythfpggeflokgfaa
open Go.RowKit

theorem low31 {r : Nat} (h : r < 4294967296) : bits .and .u32 (r : Int) 2147483647 = ((r % 2147483648 : Nat) : Int) := by
  have := and_n (b := 2147483647) h (by omega)
  rw [nat_mask31] at this
  exact this

set_option maxHeartbeats 400000 in
theorem mix_any (a b : Int) (w : World) :
    Calls Try.prog 16 #[.int .i64 a, .int .i64 b] w fun e w' => e = .returned (.int .i64 (M.mix a b)) ∧ w = w' := by
  have hl1 := M.fnvF_lt (h := 2166136261) (by omega) (M.eight a)
  have hl2 := M.fnvF_lt hl1 (M.eight b)
  have h3 := low31 hl2
  rw [M.mix_two] at h3
  have hm := M.mix_lt a b
  go_enter Try.func16, Try.ntmps16
  go_wp2_with fail
  refine (addInt_any 2166136261 a w (by omega)).mono ?_
  rintro e w' ⟨rfl, rfl⟩
  go_wp2_with fail
  refine (addInt_any _ b w hl1).mono ?_
  rintro e w' ⟨rfl, rfl⟩
  go_wp2_with fail
  go_ret
  exact ⟨rfl, rfl⟩

theorem mix_str (a b : Int) : (strOf (M.eight a) ++ strOf (M.eight b)).data.toList = M.eight a ++ M.eight b := by
  simp [strOf]
theorem str8 (a : Int) : (strOf (M.eight a)).size = 8 := by simp [strOf, ByteArray.size, M.eight]
theorem mix_size (a b : Int) : (strOf (M.eight a) ++ strOf (M.eight b)).size = 16 := by
  simp [strOf, ByteArray.size, M.eight]


/-- The bucket. -/
def bkt (l : List UInt8) (n : Int) : Int := if n < 1 then 0 else (M.fnv l : Int) % n

theorem RB.nine (w : World) : RB (w.alloc (.cells #[.int .u8 49, .int .u8 50, .int .u8 51, .int .u8 52, .int .u8 53, .int .u8 54, .int .u8 55, .int .u8 56, .int .u8 57] 5 (9, 10))) w.heap.size (w.heap.size + 1) (some ⟨w.heap.size, 0, none⟩) 9 9 [49, 50, 51, 52, 53, 54, 55, 56, 57] := by
  refine ⟨rfl, Nat.le_refl _, (by unfold maxLen; omega), (fun e => by cases e), fun _ => ⟨w.heap.size, 0, rfl, Nat.le_refl _, by omega, fun j hj => ?_⟩⟩
  rw [heap_cell (heap_alloc_new w _)]
  match j, hj with
  | 0, _ => rfl
  | 1, _ => rfl
  | 2, _ => rfl
  | 3, _ => rfl
  | 4, _ => rfl
  | 5, _ => rfl
  | 6, _ => rfl
  | 7, _ => rfl
  | 8, _ => rfl

theorem ex_fnv0 : M.fnv (ByteArray.mk #[]).data.toList = 2166136261 := by decide +kernel
theorem ex_fnv1 : M.fnv (ByteArray.mk #[97]).data.toList = 3826002220 := by decide +kernel
theorem ex_crc0 : M.crc [] = 0 := by decide +kernel
theorem ex_crc9 : M.crc [49, 50, 51, 52, 53, 54, 55, 56, 57] = 3421780262 := by decide +kernel
theorem ex_bkt : bkt (ByteArray.mk #[97]).data.toList 0 = 0 := by unfold bkt; rw [if_pos (by omega)]

end Go.Proofs.Ythfpggeflokgfaa
