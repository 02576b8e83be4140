/-
  Layer 4: CRC-32, the code's and the reference's.
-/
import Derived.Test.YtcokifdeecnpdaaHCodA
namespace Go.Proofs.Ytcokifdeecnpdaa
open Go.RowKit

theorem and_n {a b : Nat} (ha : a < 4294967296) (hb : b < 4294967296) : bits .and .u32 (a : Int) (b : Int) = ((a &&& b : Nat) : Int) := u32_and_nat a b ha hb
/-- The lowest bit. -/
theorem low_bit {r : Nat} (h : r < 4294967296) : bits .and .u32 (r : Int) 1 = ((r % 2 : Nat) : Int) := by
  have := and_n h (show 1 < 4294967296 by omega)
  rw [nat_mask1] at this
  exact this
theorem mask_one : bits .and .u32 3988292384 4294967295 = 3988292384 := by decide +kernel
theorem mask_zero : bits .and .u32 3988292384 0 = 0 := by decide +kernel
theorem poly_xor {r : Nat} (h : r < 4294967296) : bits .xor .u32 (r : Int) 3988292384 = ((r ^^^ 3988292384 : Nat) : Int) := by
  have := xor_n (b := 3988292384) h (by omega)
  rw [show ((3988292384 : Nat) : Int) = 3988292384 from rfl] at this
  exact this
theorem zero_xor {r : Nat} (h : r < 4294967296) : bits .xor .u32 (r : Int) 0 = (r : Int) := by
  have := xor_n h (show 0 < 4294967296 by omega)
  rw [Nat.xor_zero] at this
  exact this

set_option maxHeartbeats 400000 in
theorem cadd_any (r c : Nat) (w : World) (hr : r < 4294967296) (hc : c < 256) :
    Calls Try.prog 19 #[.int .u32 r, .int .u8 c] w fun e w' => e = .returned (.int .u32 (M.cb r c)) ∧ w = w' := by
  have hx := xor_n hr (show c < 4294967296 by omega)
  have hxl := M.xor_lt hr (show c < 4294967296 by omega)
  unfold M.cb
  obtain ⟨R, hR⟩ : ∃ R, R = r ^^^ c := ⟨_, rfl⟩
  rw [← hR] at hx hxl ⊢
  clear hR
  go_enter Try.func19, Try.ntmps19
  go_wp2
  clear hx
  go_loop [0, 10] (fun x i => ∃ k : Nat, k ≤ 8 ∧ i = .int .i64 k ∧ x = .int .u32 (M.cbits k R)) (fun _ i => 8 - (intOf i).toNat)
  case atStart => exact ⟨0, by omega, rfl, rfl⟩
  case round =>
    obtain ⟨k, hk, rfl, rfl⟩ := hrel
    have hl := M.cbits_lt hxl k
    by_cases hlt : k < 8
    · have HS : Hid (M.cbits (k + 1) R = M.cbit (M.cbits k R)) := Lib.hid rfl
      obtain ⟨X, hX⟩ : ∃ X, X = M.cbits k R := ⟨_, rfl⟩
      rw [← hX] at hl HS ⊢
      clear hX
      have h1 := low_bit hl
      obtain ⟨Y, hY⟩ : ∃ Y, Y = X / 2 := ⟨_, rfl⟩
      have h2 : (X : Int) / 2 = (Y : Int) := by omega
      have hl2 : Y < 4294967296 := by omega
      rcases Nat.mod_two_eq_zero_or_one X with h0 | h0
      · rw [h0] at h1
        have h3 := zero_xor hl2
        have HC : Hid (M.cbit X = Y) := Lib.hid (by rw [hY]; unfold M.cbit; rw [if_neg (by omega)])
        clear h0 hY
        have h4 := mask_zero
        go_wp2
        go_round
        case rel => exact ⟨k + 1, by omega, by go_num, by rw [HS.out, HC.out]⟩
        case measure => simp [intOf]; omega
      · rw [h0] at h1
        have h3 := poly_xor hl2
        have HC : Hid (M.cbit X = Y ^^^ 3988292384) := Lib.hid (by rw [hY]; unfold M.cbit; rw [if_pos h0])
        clear h0 hY
        have h4 := mask_one
        go_wp2
        go_round
        case rel => exact ⟨k + 1, by omega, by go_num, by rw [HS.out, HC.out]⟩
        case measure => simp [intOf]; omega
    · obtain rfl : k = 8 := by omega
      go_wp2
      go_ret
      exact ⟨rfl, rfl⟩

/-- The complement. -/
theorem compl {r : Nat} (h : r < 4294967296) : bits .xor .u32 IntKind.u32.max (r : Int) = ((r ^^^ 4294967295 : Nat) : Int) := by
  have := xor_n (a := 4294967295) (show 4294967295 < 4294967296 by omega) h
  rw [show ((4294967295 : Nat) : Int) = IntKind.u32.max from rfl, Nat.xor_comm] at this
  exact this
theorem getD_snoc {l : List UInt8} {k : Nat} (h : k < l.length) : M.crcR (l.take (k + 1)) = M.cb (M.crcR (l.take k)) (l.getD k 0).toNat := by
  rw [List.take_succ_eq_append_getElem h, M.crcR_snoc, List.getD, List.getElem?_eq_getElem h, Option.getD_some]
theorem crc_all {l : List UInt8} {n : Nat} (h : l.length = n) : M.crcR (l.take n) ^^^ 4294967295 = M.crc l := by rw [List.take_of_length_le (by omega)]; rfl

theorem wrap64_nat {n : Nat} (h : n < 4294967296) : wrap64 (n : Int) = (n : Int) := by unfold wrap64; omega

set_option maxHeartbeats 400000 in
theorem crc_any {A : Option Addr} {n c lo hi : Nat} {l : List UInt8} {w : World} (h : RB w lo hi A n c l) :
    Calls Try.prog 12 #[.slice A n c] w fun e w' => e = .returned (.int .i64 (M.crc l)) ∧ w = w' := by
  have hl := h.len
  have hcap := h.cap
  have hmx := h.most
  unfold maxLen at hmx
  have HL := Lib.hid hl
  clear hl
  go_enter Try.func12, Try.ntmps12
  go_wp2
  go_loop [3, 8] (fun r i => ∃ k : Nat, k ≤ n ∧ i = .int .i64 k ∧ r = .int .u32 (M.crcR (l.take k))) (fun _ i => n - (intOf i).toNat)
  case atStart => exact ⟨0, by omega, rfl, rfl⟩
  case round =>
    obtain ⟨k, hk, rfl, rfl⟩ := hrel
    have hr := M.crcR_lt (l.take k)
    by_cases hlt : k < n
    · obtain ⟨b, off, rfl, _, _, hc⟩ := h.at_ (by omega)
      have g1 := hc k hlt
      have hx : (l.getD k 0).toNat < 256 := (l.getD k 0).toNat_lt
      have hs := getD_snoc (l := l) (k := k) (by rw [HL.out]; exact hlt)
      clear hc
      obtain ⟨C, hC⟩ : ∃ C, C = (l.getD k 0).toNat := ⟨_, rfl⟩
      rw [← hC] at g1 hx hs
      clear hC
      have HS := Lib.hid hs
      clear hs
      go_wp2_with (go_at_call 19; refine (cadd_any _ _ _ hr hx).mono ?_; rintro e w' ⟨rfl, rfl⟩)
      go_round
      case rel => exact ⟨k + 1, by omega, by go_num, by rw [HS.out]⟩
      case measure => simp [intOf]; omega
    · obtain rfl : k = n := by omega
      have HC := Lib.hid (compl hr)
      go_wp2
      go_ret
      exact ⟨ret_int (by rw [HC.out, crc_all HL.out]; exact wrap64_nat (M.crc_lt l)), rfl⟩

set_option maxHeartbeats 1000000 in
theorem rcrc_any {A : Option Addr} {n c lo hi : Nat} {l : List UInt8} {w : World} (h : RB w lo hi A n c l) :
    Calls Try.prog 13 #[.slice A n c] w fun e w' => e = .returned (.int .i64 (M.crc l)) ∧ w = w' := by
  have hl := h.len
  have hcap := h.cap
  have hmx := h.most
  unfold maxLen at hmx
  have HL := Lib.hid hl
  clear hl
  go_enter Try.func13, Try.ntmps13
  go_wp2
  go_loop [3, 10] (fun r i => ∃ k : Nat, k ≤ n ∧ i = .int .i64 k ∧ r = .int .u32 (M.crcR (l.take k))) (fun _ i => n - (intOf i).toNat)
  case atStart => exact ⟨0, by omega, rfl, rfl⟩
  case round =>
    obtain ⟨k, hk, rfl, rfl⟩ := hrel
    have hr := M.crcR_lt (l.take k)
    by_cases hlt : k < n
    · obtain ⟨b, off, rfl, _, _, hc⟩ := h.at_ (by omega)
      have g1 := hc k hlt
      have hx : (l.getD k 0).toNat < 256 := (l.getD k 0).toNat_lt
      have hs := getD_snoc (l := l) (k := k) (by rw [HL.out]; exact hlt)
      clear hc
      obtain ⟨C, hC⟩ : ∃ C, C = (l.getD k 0).toNat := ⟨_, rfl⟩
      rw [← hC] at g1 hx hs
      clear hC
      have HS := Lib.hid hs
      clear hs
      unfold M.cb at HS
      have hxx := xor_n hr (show C < 4294967296 by omega)
      have hxl := M.xor_lt hr (show C < 4294967296 by omega)
      obtain ⟨R, hR⟩ : ∃ R, R = M.crcR (l.take k) ^^^ C := ⟨_, rfl⟩
      rw [← hR] at hxx hxl HS
      clear hR
      go_wp2
      clear hxx g1
      go_loop [3, 6] (fun x i => ∃ j : Nat, j ≤ 8 ∧ i = .int .i64 j ∧ x = .int .u32 (M.cbits j R)) (fun _ i => 8 - (intOf i).toNat)
      case atStart => exact ⟨0, by omega, rfl, rfl⟩
      case round =>
        obtain ⟨j, hj, rfl, rfl⟩ := hrel
        have hl := M.cbits_lt hxl j
        by_cases hjt : j < 8
        · have HT : Hid (M.cbits (j + 1) R = M.cbit (M.cbits j R)) := Lib.hid rfl
          obtain ⟨X, hX⟩ : ∃ X, X = M.cbits j R := ⟨_, rfl⟩
          rw [← hX] at hl HT ⊢
          clear hX
          obtain ⟨Y, hY⟩ : ∃ Y, Y = X / 2 := ⟨_, rfl⟩
          have h2 : (X : Int) / 2 = (Y : Int) := by omega
          have hl2 : Y < 4294967296 := by omega
          rcases Nat.mod_two_eq_zero_or_one X with h0 | h0
          · have h1 : (X : Int) % 2 = 0 := by omega
            have HC : Hid (M.cbit X = Y) := Lib.hid (by rw [hY]; unfold M.cbit; rw [if_neg (by omega)])
            clear h0 hY
            go_wp2
            go_round
            case rel => exact ⟨j + 1, by omega, by go_num, by rw [HT.out, HC.out]⟩
            case measure => simp [intOf]; omega
          · have h1 : (X : Int) % 2 = 1 := by omega
            have h3 := poly_xor hl2
            have HC : Hid (M.cbit X = Y ^^^ 3988292384) := Lib.hid (by rw [hY]; unfold M.cbit; rw [if_pos h0])
            clear h0 hY
            go_wp2
            go_round
            case rel => exact ⟨j + 1, by omega, by go_num, by rw [HT.out, HC.out]⟩
            case measure => simp [intOf]; omega
        · obtain rfl : j = 8 := by omega
          go_wp2
          go_round
          case rel => exact ⟨k + 1, by omega, by go_num, by rw [HS.out]⟩
          case measure => simp [intOf]; omega
    · obtain rfl : k = n := by omega
      have HC := Lib.hid (compl hr)
      go_wp2
      go_ret
      exact ⟨ret_int (by rw [HC.out, crc_all HL.out]; exact wrap64_nat (M.crc_lt l)), rfl⟩
end Go.Proofs.Ytcokifdeecnpdaa
