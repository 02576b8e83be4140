/-
  Layer 4: Mix, the code's and the reference's.
-/
import Derived.Test.YthfpggeflokgfaaHCodB
namespace Go.Proofs.Ythfpggeflokgfaa
open Go.RowKit

theorem addByteI {h c : Nat} {x : Int} {w : World} (hx : x = (c : Int)) (hh : h < 4294967296) (hc : c < 256) :
    Calls Try.prog 23 #[.int .u32 h, .int .u8 x] w fun e w' => e = .returned (.int .u32 (M.fb h c)) ∧ w = w' := by
  subst hx; exact addByte_any h c w hh hc

set_option maxHeartbeats 1000000 in
theorem addInt_any (h : Nat) (n : Int) (w : World) (hh : h < 4294967296) :
    Calls Try.prog 21 #[.int .u32 h, .int .i64 n] w fun e w' => e = .returned (.int .u32 (M.fnvF h (M.eight n))) ∧ w = w' := by
  go_enter Try.func21, Try.ntmps21
  go_wp2
  refine wp_loop_rounds 9 ?_
  rw [rounds_succ]
  go_wp2_with fail
  refine (addByteI (c := M.e8 n 0) (by unfold M.e8; omega) hh (M.e8_lt n 0)).mono ?_
  rintro e w' ⟨rfl, rfl⟩
  go_wp2_with fail
  rw [rounds_succ]
  go_wp2_with fail
  refine (addByteI (c := M.e8 n 1) (by unfold M.e8; omega) (M.fb_lt _ _) (M.e8_lt n 1)).mono ?_
  rintro e w' ⟨rfl, rfl⟩
  go_wp2_with fail
  rw [rounds_succ]
  go_wp2_with fail
  refine (addByteI (c := M.e8 n 2) (by unfold M.e8; omega) (M.fb_lt _ _) (M.e8_lt n 2)).mono ?_
  rintro e w' ⟨rfl, rfl⟩
  go_wp2_with fail
  rw [rounds_succ]
  go_wp2_with fail
  refine (addByteI (c := M.e8 n 3) (by unfold M.e8; omega) (M.fb_lt _ _) (M.e8_lt n 3)).mono ?_
  rintro e w' ⟨rfl, rfl⟩
  go_wp2_with fail
  rw [rounds_succ]
  go_wp2_with fail
  refine (addByteI (c := M.e8 n 4) (by unfold M.e8; omega) (M.fb_lt _ _) (M.e8_lt n 4)).mono ?_
  rintro e w' ⟨rfl, rfl⟩
  go_wp2_with fail
  rw [rounds_succ]
  go_wp2_with fail
  refine (addByteI (c := M.e8 n 5) (by unfold M.e8; omega) (M.fb_lt _ _) (M.e8_lt n 5)).mono ?_
  rintro e w' ⟨rfl, rfl⟩
  go_wp2_with fail
  rw [rounds_succ]
  go_wp2_with fail
  refine (addByteI (c := M.e8 n 6) (by unfold M.e8; omega) (M.fb_lt _ _) (M.e8_lt n 6)).mono ?_
  rintro e w' ⟨rfl, rfl⟩
  go_wp2_with fail
  rw [rounds_succ]
  go_wp2_with fail
  refine (addByteI (c := M.e8 n 7) (by unfold M.e8; omega) (M.fb_lt _ _) (M.e8_lt n 7)).mono ?_
  rintro e w' ⟨rfl, rfl⟩
  go_wp2_with fail
  rw [rounds_succ]
  go_wp2_with fail
  go_ret
  exact ⟨ret_int (by rw [M.fnvF_eight]), rfl⟩

/-- The string of a slice of bytes. -/
def strOf (l : List UInt8) : ByteArray := ⟨l.toArray⟩
theorem strOf_list (s : ByteArray) : strOf s.data.toList = s := rfl
theorem run_conv {w : World} {lo hi n c : Nat} {A : Option Addr} {l : List UInt8} (h : RB w lo hi A n c l) : (convert 32 9 (.slice A n c)).run Try.prog w = .ok (.string (strOf l)) w := by
  rcases A with _ | ad
  · obtain rfl := h.nil rfl
    obtain rfl : n = 0 := by have := h.cap; omega
    obtain rfl : l = [] := List.eq_nil_of_length_eq_zero h.len
    exact run_convert_bytes_nil w _ _ Try.underlying32 Try.underlying5 0 0 _ Try.underlying9
  · rcases Nat.eq_zero_or_pos n with h0 | h0
    · subst h0
      obtain rfl : l = [] := List.eq_nil_of_length_eq_zero h.len
      rw [run_convert_bytes_string w _ _ _ _ _ _ Try.underlying32 Try.underlying5 Try.underlying9]
      exact run_bytesToString w ad 0 c [] (by simp [loadCells, loadCellsFrom])
    · obtain ⟨b, off, e, _, _, hc⟩ := h.at_ h0
      injection e with e
      subst e
      rw [run_convert_bytes_arg w _ _ Try.underlying32 Try.underlying5 b off n c (l.map fun x => (x.toNat : Int)) (by rw [List.length_map, h.len]) ?_ _ Try.underlying9]
      · congr 2
        simp [strOfNums, strOf, List.map_map, Function.comp_def]
      · intro i hi
        rw [hc i hi]
        have hil : i < l.length := by rw [h.len]; exact hi
        simp [List.getD, hil]

theorem make8 (W : World) : (Instr.makeSlice 32 (.int .i64 8) (.int .i64 8)).run Try.prog W = .ok (.slice (some ⟨W.heap.size, 0, none⟩) 8 8) (W.alloc (.cells #[.int .u8 0, .int .u8 0, .int .u8 0, .int .u8 0, .int .u8 0, .int .u8 0, .int .u8 0, .int .u8 0] 5)) := by
  obtain ⟨i, hi0, hz0, hz1, hz2⟩ := info_parts u8_info
  have h := run_make (P := Try.prog) W 32 5 i _ Try.underlying32 hi0 hz0 .i64 .i64 8 8 (by omega) (by omega) (by rw [hz2]; omega) (by omega)
  rw [hz1] at h
  have e : madeCells (Value.int IntKind.u8 0).cells (Int.toNat 8 * 1) = #[.int .u8 0, .int .u8 0, .int .u8 0, .int .u8 0, .int .u8 0, .int .u8 0, .int .u8 0, .int .u8 0] := by kernel_rfl
  rw [e] at h
  exact h

theorem heap_cell {w : World} {g i : Nat} {cs : Array Value} {t : TypeId} {z : Nat × Nat} (h : w.heap[g]? = some (.cells cs t z)) : w.cell? ⟨g, i, none⟩ = cs[i]? := cell_of_row w g i cs t z h

theorem RB.eight {w : World} {g : Nat} {T : TypeId} {x0 x1 x2 x3 x4 x5 x6 x7 : Int} (n : Int) (hb : w.heap[g]? = some (.cells #[.int .u8 x0, .int .u8 x1, .int .u8 x2, .int .u8 x3, .int .u8 x4, .int .u8 x5, .int .u8 x6, .int .u8 x7] T))
    (h0 : x0 = (M.e8 n 0 : Int)) (h1 : x1 = (M.e8 n 1 : Int)) (h2 : x2 = (M.e8 n 2 : Int)) (h3 : x3 = (M.e8 n 3 : Int)) (h4 : x4 = (M.e8 n 4 : Int)) (h5 : x5 = (M.e8 n 5 : Int)) (h6 : x6 = (M.e8 n 6 : Int)) (h7 : x7 = (M.e8 n 7 : Int)) :
    RB w g (g + 1) (some ⟨g, 0, none⟩) 8 8 (M.eight n) := by
  subst h0 h1 h2 h3 h4 h5 h6 h7
  refine ⟨by rw [M.eight_list]; rfl, Nat.le_refl _, (by unfold maxLen; omega), (fun e => by cases e), fun _ => ⟨g, 0, rfl, Nat.le_refl _, by omega, fun j hj => ?_⟩⟩
  rw [heap_cell hb, M.eight_list]
  match j, hj with
  | 0, _ => show some (Value.int .u8 (M.e8 n 0 : Int)) = some (Value.int .u8 ((UInt8.ofNat (M.e8 n 0)).toNat : Int)); rw [M.e8_byte]
  | 1, _ => show some (Value.int .u8 (M.e8 n 1 : Int)) = some (Value.int .u8 ((UInt8.ofNat (M.e8 n 1)).toNat : Int)); rw [M.e8_byte]
  | 2, _ => show some (Value.int .u8 (M.e8 n 2 : Int)) = some (Value.int .u8 ((UInt8.ofNat (M.e8 n 2)).toNat : Int)); rw [M.e8_byte]
  | 3, _ => show some (Value.int .u8 (M.e8 n 3 : Int)) = some (Value.int .u8 ((UInt8.ofNat (M.e8 n 3)).toNat : Int)); rw [M.e8_byte]
  | 4, _ => show some (Value.int .u8 (M.e8 n 4 : Int)) = some (Value.int .u8 ((UInt8.ofNat (M.e8 n 4)).toNat : Int)); rw [M.e8_byte]
  | 5, _ => show some (Value.int .u8 (M.e8 n 5 : Int)) = some (Value.int .u8 ((UInt8.ofNat (M.e8 n 5)).toNat : Int)); rw [M.e8_byte]
  | 6, _ => show some (Value.int .u8 (M.e8 n 6 : Int)) = some (Value.int .u8 ((UInt8.ofNat (M.e8 n 6)).toNat : Int)); rw [M.e8_byte]
  | 7, _ => show some (Value.int .u8 (M.e8 n 7 : Int)) = some (Value.int .u8 ((UInt8.ofNat (M.e8 n 7)).toNat : Int)); rw [M.e8_byte]

theorem e8_0 {n : Int} {U : Nat} (h : n % 18446744073709551616 = (U : Int)) : ((U / 72057594037927936 % 256 : Nat) : Int) = (M.e8 n 0 : Int) ∧ ((U / 281474976710656 % 256 : Nat) : Int) = (M.e8 n 1 : Int) ∧ ((U / 1099511627776 % 256 : Nat) : Int) = (M.e8 n 2 : Int) ∧ ((U / 4294967296 % 256 : Nat) : Int) = (M.e8 n 3 : Int) ∧ ((U / 16777216 % 256 : Nat) : Int) = (M.e8 n 4 : Int) ∧ ((U / 65536 % 256 : Nat) : Int) = (M.e8 n 5 : Int) ∧ ((U / 256 % 256 : Nat) : Int) = (M.e8 n 6 : Int) ∧ ((U / 1 % 256 : Nat) : Int) = (M.e8 n 7 : Int) := by
  unfold M.e8
  refine ⟨?_, ?_, ?_, ?_, ?_, ?_, ?_, ?_⟩ <;> omega

end Go.Proofs.Ythfpggeflokgfaa
