/-
  Layer 4: CRC-32, the code's and the reference's.
-/
import Derived.Test.YthfpggeflokgfaaHCodA
namespace Go.Proofs.Ythfpggeflokgfaa
open Go.RowKit

theorem and_n {a b : Nat} (ha : a < 4294967296) (hb : b < 4294967296) : bits .and .u32 (a : Int) (b : Int) = ((a &&& b : Nat) : Int) := u32_and_nat a b ha hb
/-- The lowest bit. -/
theorem low_bit {r : Nat} (h : r < 4294967296) : bits .and .u32 (r : Int) 1 = ((r % 2 : Nat) : Int) := by
  have := and_n h (show 1 < 4294967296 by omega)
  rw [nat_mask1] at this
  exact this
theorem mask_one : bits .and .u32 3988292384 4294967295 = 3988292384 := by decide +kernel
theorem mask_zero : bits .and .u32 3988292384 0 = 0 := by decide +kernel
theorem poly_xor {r : Nat} (h : r < 4294967296) : bits .xor .u32 (r : Int) 3988292384 = ((r ^^^ 3988292384 : Nat) : Int) := by
  have := xor_n (b := 3988292384) h (by omega)
  rw [show ((3988292384 : Nat) : Int) = 3988292384 from rfl] at this
  exact this
theorem zero_xor {r : Nat} (h : r < 4294967296) : bits .xor .u32 (r : Int) 0 = (r : Int) := by
  have := xor_n h (show 0 < 4294967296 by omega)
  rw [Nat.xor_zero] at this
  exact this


/-- The complement. -/
theorem compl {r : Nat} (h : r < 4294967296) : bits .xor .u32 IntKind.u32.max (r : Int) = ((r ^^^ 4294967295 : Nat) : Int) := by
  have := xor_n (a := 4294967295) (show 4294967295 < 4294967296 by omega) h
  rw [show ((4294967295 : Nat) : Int) = IntKind.u32.max from rfl, Nat.xor_comm] at this
  exact this
theorem getD_snoc {l : List UInt8} {k : Nat} (h : k < l.length) : M.crcR (l.take (k + 1)) = M.cb (M.crcR (l.take k)) (l.getD k 0).toNat := by
  rw [List.take_succ_eq_append_getElem h, M.crcR_snoc, List.getD, List.getElem?_eq_getElem h, Option.getD_some]
theorem crc_all {l : List UInt8} {n : Nat} (h : l.length = n) : M.crcR (l.take n) ^^^ 4294967295 = M.crc l := by rw [List.take_of_length_le (by omega)]; rfl

theorem wrap64_nat {n : Nat} (h : n < 4294967296) : wrap64 (n : Int) = (n : Int) := by unfold wrap64; omega


end Go.Proofs.Ythfpggeflokgfaa
