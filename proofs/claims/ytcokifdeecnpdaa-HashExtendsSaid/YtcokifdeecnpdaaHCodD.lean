/-
  Layer 4: Mix and Bucket, the examples of the chapter.
-/
import Derived.Test.YtcokifdeecnpdaaHCodC
import Derived.Lib.SlBytesConst
namespace Go.Proofs.Ytcokifdeecnpdaa
open Go.RowKit

theorem low31 {r : Nat} (h : r < 4294967296) : bits .and .u32 (r : Int) 2147483647 = ((r % 2147483648 : Nat) : Int) := by
  have := and_n (b := 2147483647) h (by omega)
  rw [nat_mask31] at this
  exact this

set_option maxHeartbeats 400000 in
theorem mix_any (a b : Int) (w : World) :
    Calls Try.prog 14 #[.int .i64 a, .int .i64 b] w fun e w' => e = .returned (.int .i64 (M.mix a b)) ∧ w = w' := by
  have hl1 := M.fnvF_lt (h := 2166136261) (by omega) (M.eight a)
  have hl2 := M.fnvF_lt hl1 (M.eight b)
  have h3 := low31 hl2
  rw [M.mix_two] at h3
  have hm := M.mix_lt a b
  go_enter Try.func14, Try.ntmps14
  go_wp2_with fail
  refine (addInt_any 2166136261 a w (by omega)).mono ?_
  rintro e w' ⟨rfl, rfl⟩
  go_wp2_with fail
  refine (addInt_any _ b w hl1).mono ?_
  rintro e w' ⟨rfl, rfl⟩
  go_wp2_with fail
  go_ret
  exact ⟨rfl, rfl⟩

theorem mix_str (a b : Int) : (strOf (M.eight a) ++ strOf (M.eight b)).data.toList = M.eight a ++ M.eight b := by
  simp [strOf]
theorem str8 (a : Int) : (strOf (M.eight a)).size = 8 := by simp [strOf, ByteArray.size, M.eight]
theorem mix_size (a b : Int) : (strOf (M.eight a) ++ strOf (M.eight b)).size = 16 := by
  simp [strOf, ByteArray.size, M.eight]

set_option maxHeartbeats 400000 in
theorem rmix_any (a b : Int) (w : World) :
    Calls Try.prog 15 #[.int .i64 a, .int .i64 b] w fun e w' => e = .returned (.int .i64 (M.mix a b)) ∧ Below w.heap.size w w' := by
  have hm := M.mix_lt a b
  have hs1 := str8 a
  have hs2 := str8 b
  go_enter Try.func15, Try.ntmps15
  go_wp2_with fail
  refine (eight_any a w).mono ?_
  rintro e w1 ⟨rfl, hb1⟩
  go_wp2_with fail
  refine (eight_any b w1).mono ?_
  rintro e w2 ⟨rfl, hb2⟩
  go_wp2_with fail
  refine (rfnv_any (strOf (M.eight a) ++ strOf (M.eight b)) w2 (by rw [mix_size]; unfold maxLen; omega)).mono ?_
  rintro e w' ⟨rfl, rfl⟩
  rw [mix_str]
  have hl := M.fnv_lt (M.eight a ++ M.eight b)
  go_wp2_with fail
  go_ret
  exact ⟨ret_int (by unfold M.mix; omega), hb1.trans (hb2.mono hb1.size)⟩

/-- The bucket. -/
def bkt (l : List UInt8) (n : Int) : Int := if n < 1 then 0 else (M.fnv l : Int) % n
set_option maxHeartbeats 400000 in
theorem bucket_any (s : ByteArray) (n : Int) (w : World) (hs : s.size ≤ maxLen) :
    Calls Try.prog 16 #[.string s, .int .i64 n] w fun e w' => e = .returned (.int .i64 (bkt s.data.toList n)) ∧ w = w' := by
  by_cases h : n < 1
  · have hB : bkt s.data.toList n = 0 := by unfold bkt; rw [if_pos h]
    have HB := Lib.hid hB
    clear hB
    go_enter Try.func16, Try.ntmps16
    go_wp2_with fail
    go_ret
    exact ⟨ret_int HB.out.symm, rfl⟩
  · have hB : bkt s.data.toList n = (M.fnv s.data.toList : Int) % n := by unfold bkt; rw [if_neg h]
    have HB := Lib.hid hB
    clear hB
    have hl := M.fnv_lt s.data.toList
    go_enter Try.func16, Try.ntmps16
    go_wp2_with fail
    refine (fnv_any s w hs).mono ?_
    rintro e w' ⟨rfl, rfl⟩
    go_wp2_with fail
    go_ret
    exact ⟨ret_int (by rw [HB.out]), rfl⟩
set_option maxHeartbeats 400000 in
theorem rbucket_any (s : ByteArray) (n : Int) (w : World) (hs : s.size ≤ maxLen) :
    Calls Try.prog 17 #[.string s, .int .i64 n] w fun e w' => e = .returned (.int .i64 (bkt s.data.toList n)) ∧ w = w' := by
  by_cases h : n < 1
  · have hB : bkt s.data.toList n = 0 := by unfold bkt; rw [if_pos h]
    have HB := Lib.hid hB
    clear hB
    go_enter Try.func17, Try.ntmps17
    go_wp2_with fail
    go_ret
    exact ⟨ret_int HB.out.symm, rfl⟩
  · have hB : bkt s.data.toList n = (M.fnv s.data.toList : Int) % n := by unfold bkt; rw [if_neg h]
    have HB := Lib.hid hB
    clear hB
    have hl := M.fnv_lt s.data.toList
    go_enter Try.func17, Try.ntmps17
    go_wp2_with fail
    refine (rfnv_any s w hs).mono ?_
    rintro e w' ⟨rfl, rfl⟩
    go_wp2_with fail
    go_ret
    exact ⟨ret_int (by rw [HB.out]), rfl⟩

theorem RB.nine (w : World) : RB (w.alloc (.cells #[.int .u8 49, .int .u8 50, .int .u8 51, .int .u8 52, .int .u8 53, .int .u8 54, .int .u8 55, .int .u8 56, .int .u8 57] 5 (9, 10))) w.heap.size (w.heap.size + 1) (some ⟨w.heap.size, 0, none⟩) 9 9 [49, 50, 51, 52, 53, 54, 55, 56, 57] := by
  refine ⟨rfl, Nat.le_refl _, (by unfold maxLen; omega), (fun e => by cases e), fun _ => ⟨w.heap.size, 0, rfl, Nat.le_refl _, by omega, fun j hj => ?_⟩⟩
  rw [heap_cell (heap_alloc_new w _)]
  match j, hj with
  | 0, _ => rfl
  | 1, _ => rfl
  | 2, _ => rfl
  | 3, _ => rfl
  | 4, _ => rfl
  | 5, _ => rfl
  | 6, _ => rfl
  | 7, _ => rfl
  | 8, _ => rfl

theorem ex_fnv0 : M.fnv (ByteArray.mk #[]).data.toList = 2166136261 := by decide +kernel
theorem ex_fnv1 : M.fnv (ByteArray.mk #[97]).data.toList = 3826002220 := by decide +kernel
theorem ex_crc0 : M.crc [] = 0 := by decide +kernel
theorem ex_crc9 : M.crc [49, 50, 51, 52, 53, 54, 55, 56, 57] = 3421780262 := by decide +kernel
theorem ex_bkt : bkt (ByteArray.mk #[97]).data.toList 0 = 0 := by unfold bkt; rw [if_pos (by omega)]

set_option maxHeartbeats 1000000 in
set_option maxRecDepth 100000 in
theorem works_any (w : World) :
    Calls Try.prog 9 #[] w fun e w' => e = .returned (.bool true) ∧ Below w.heap.size w w' := by
  have kc := fun (w : World) (C : Array Value) (n c : Nat) => Lib.run_convert_bytes_const (P := Try.prog) w 25 5 C n c Try.underlying25 Try.underlying5
  go_enter Try.func9, Try.ntmps9
  go_wp2_with fail
  refine (fnv_any _ _ (by simp [ByteArray.size, maxLen])).mono ?_
  rintro e w' ⟨rfl, rfl⟩
  rw [ex_fnv0]
  go_wp2_with fail
  refine (fnv_any _ _ (by simp [ByteArray.size, maxLen])).mono ?_
  rintro e w' ⟨rfl, rfl⟩
  rw [ex_fnv1]
  go_wp2_with fail
  refine (crc_any (RB.nil_ _ 0 0)).mono ?_
  rintro e w' ⟨rfl, rfl⟩
  rw [ex_crc0]
  go_wp2_with fail
  refine (crc_any (RB.nine _)).mono ?_
  rintro e w' ⟨rfl, rfl⟩
  rw [ex_crc9]
  go_wp2_with fail
  refine (bucket_any _ _ _ (by simp [ByteArray.size, maxLen])).mono ?_
  rintro e w' ⟨rfl, rfl⟩
  rw [ex_bkt]
  go_wp2_with fail
  go_ret
  exact ⟨rfl, (Below.refl _ _).alloc (Nat.le_refl _) _⟩
end Go.Proofs.Ytcokifdeecnpdaa
