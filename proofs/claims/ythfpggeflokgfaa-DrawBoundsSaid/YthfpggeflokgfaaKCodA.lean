/-
  Layer 5: the reference's hash.
-/
import Derived.Test.YthfpggeflokgfaaHCodD
namespace Go.Proofs.Ythfpggeflokgfaa
open Go.RowKit

theorem dbl_odd {x q z P : Nat} (h : (z + x * (2 * q + 1)) % 4294967296 = P) : ((z + x) % 4294967296 + (x * 2 % 4294967296) * q) % 4294967296 = P := by
  rw [← h, Nat.add_mod, Nat.mod_mod, Nat.mod_mul_mod, ← Nat.add_mod]
  congr 1
  rw [Nat.mul_add, ← Nat.mul_assoc, Nat.mul_one]; omega
theorem dbl_even {x q z P : Nat} (h : (z + x * (2 * q)) % 4294967296 = P) : (z + (x * 2 % 4294967296) * q) % 4294967296 = P := by
  rw [← h, Nat.add_mod z, Nat.mod_mul_mod, ← Nat.add_mod, ← Nat.mul_assoc]

set_option maxHeartbeats 400000 in
theorem times_any (a b : Nat) (w : World) (ha : a < 4294967296) (hb : b < 4294967296) :
    Calls Try.prog 22 #[.int .u64 a, .int .u64 b] w fun e w' => e = .returned (.int .u64 ((a * b % 4294967296 : Nat) : Int)) ∧ w = w' := by
  obtain ⟨P, hP⟩ : ∃ P, P = a * b % 4294967296 := ⟨_, rfl⟩
  rw [← hP]
  have HP := Lib.hid hP
  clear hP
  go_enter Try.func22, Try.ntmps22
  go_wp2
  go_loop [0, 1, 5] (fun s t o => ∃ x y z : Nat, s = .int .u64 x ∧ t = .int .u64 y ∧ o = .int .u64 z ∧ x < 4294967296 ∧ y < 4294967296 ∧ z < 4294967296 ∧ Hid ((z + x * y) % 4294967296 = P)) (fun _ t _ => (intOf t).toNat)
  case atStart => exact ⟨a, b, 0, rfl, rfl, rfl, ha, hb, by omega, Lib.hid (by rw [Nat.zero_add]; exact HP.out.symm)⟩
  case round =>
    obtain ⟨x, y, z, rfl, rfl, rfl, hx, hy, hz, HI⟩ := hrel
    rcases Nat.eq_zero_or_pos y with h0 | h0
    · subst h0
      have hz' : z = P := by have := HI.out; rw [Nat.mul_zero, Nat.add_zero] at this; rw [← this, Nat.mod_eq_of_lt hz]
      have HZ := Lib.hid hz'
      clear hz'
      go_wp2
      go_ret
      exact ⟨ret_int (by rw [HZ.out]), rfl⟩
    · obtain ⟨q, hq⟩ : ∃ q, q = y / 2 := ⟨_, rfl⟩
      have hd : (y : Int) / 2 = (q : Int) := by omega
      have hql : q < y := by omega
      obtain ⟨x', hx'⟩ : ∃ x', x' = x * 2 % 4294967296 := ⟨_, rfl⟩
      have hdx : ((x : Int) * 2) % 4294967296 = (x' : Int) := by omega
      have hxl : x' < 4294967296 := by omega
      rcases Nat.mod_two_eq_zero_or_one y with h2 | h2
      · have h2' : (y : Int) % 2 = 0 := by omega
        have HJ : Hid ((z + x' * q) % 4294967296 = P) := Lib.hid (by rw [hx']; exact dbl_even (by rw [show 2 * q = y by omega]; exact HI.out))
        clear hq hx' h2
        go_wp2
        go_round
        case rel => exact ⟨x', q, z, by first | rfl | rw [hdx], rfl, rfl, hxl, by omega, hz, HJ⟩
        case measure => simp [intOf]; omega
      · have h2' : (y : Int) % 2 = 1 := by omega
        obtain ⟨z', hz'⟩ : ∃ z', z' = (z + x) % 4294967296 := ⟨_, rfl⟩
        have hdz : ((z : Int) + (x : Int)) % 4294967296 = (z' : Int) := by omega
        have hzl : z' < 4294967296 := by omega
        have HJ : Hid ((z' + x' * q) % 4294967296 = P) := Lib.hid (by rw [hx', hz']; exact dbl_odd (by rw [show 2 * q + 1 = y by omega]; exact HI.out))
        clear hq hx' hz' h2
        go_wp2
        go_round
        case rel => exact ⟨x', q, z', by first | rfl | rw [hdx], rfl, by first | rfl | rw [hdz], hxl, by omega, hzl, HJ⟩
        case measure => simp [intOf]; omega

theorem timesP {Y Z : Nat} (w : World) (hY : Y < 4294967296) (hZ : Hid (Z = Y * 16777619 % 4294967296)) :
    Calls Try.prog 22 #[.int .u64 Y, .int .u64 16777619] w fun e w' => e = .returned (.int .u64 (Z : Int)) ∧ w = w' := by
  rw [hZ.out]; exact times_any Y 16777619 w hY (by omega)

theorem split_xor (h c : Nat) (hc : c < 256) : h / 256 * 256 + ((h % 256) ^^^ c) = h ^^^ c := by
  have h1 : (h ^^^ c) / 2 ^ 8 = h / 2 ^ 8 ^^^ c / 2 ^ 8 := Nat.xor_div_two_pow
  have h2 : (h ^^^ c) % 2 ^ 8 = (h % 2 ^ 8) ^^^ (c % 2 ^ 8) := Nat.xor_mod_two_pow
  rw [show (2 : Nat) ^ 8 = 256 from rfl] at h1 h2
  rw [show c / 256 = 0 by omega, Nat.xor_zero] at h1
  rw [show c % 256 = c by omega] at h2
  rw [← h2]; omega
theorem x8_lt {a b : Nat} (ha : a < 256) (hb : b < 256) : a ^^^ b < 256 := Nat.xor_lt_two_pow (n := 8) ha hb
theorem fnv_getD {l : List UInt8} {k : Nat} (h : k < l.length) : M.fnv (l.take (k + 1)) = M.fb (M.fnv (l.take k)) (l.getD k 0).toNat := by
  rw [List.take_succ_eq_append_getElem h, M.fnv_snoc, List.getD, List.getElem?_eq_getElem h, Option.getD_some]
theorem fnv_take_all {l : List UInt8} {n : Nat} (h : l.length = n) : M.fnv (l.take n) = M.fnv l := by rw [List.take_of_length_le (by omega)]

set_option maxHeartbeats 400000 in
theorem rfnv5_any {A : Option Addr} {n c lo hi : Nat} {l : List UInt8} {w : World} (h : RB w lo hi A n c l) :
    Calls Try.prog 18 #[.slice A n c] w fun e w' => e = .returned (.int .i64 (M.fnv l)) ∧ w = w' := by
  have hl := h.len
  have hcap := h.cap
  have hmx := h.most
  unfold maxLen at hmx
  have HL := Lib.hid hl
  clear hl
  go_enter Try.func18, Try.ntmps18
  go_wp2
  go_loop [3, 4] (fun r i => ∃ k : Nat, k ≤ n ∧ i = .int .i64 k ∧ r = .int .u64 (M.fnv (l.take k))) (fun _ i => n - (intOf i).toNat)
  case atStart => exact ⟨0, by omega, rfl, rfl⟩
  case round =>
    obtain ⟨k, hk, rfl, rfl⟩ := hrel
    have hr := M.fnv_lt (l.take k)
    by_cases hlt : k < n
    · obtain ⟨b, off, rfl, _, _, hc⟩ := h.at_ (by omega)
      have g1 := hc k hlt
      have hx : (l.getD k 0).toNat < 256 := (l.getD k 0).toNat_lt
      have hs := fnv_getD (l := l) (k := k) (by rw [HL.out]; exact hlt)
      clear hc
      obtain ⟨C, hC⟩ : ∃ C, C = (l.getD k 0).toNat := ⟨_, rfl⟩
      rw [← hC] at g1 hx hs
      clear hC
      have HS := Lib.hid hs
      clear hs
      obtain ⟨F, hF⟩ : ∃ F, F = M.fnv (l.take k) := ⟨_, rfl⟩
      rw [← hF] at hr HS ⊢
      clear hF
      obtain ⟨L, hL⟩ : ∃ L, L = F % 256 := ⟨_, rfl⟩
      have hm : (F : Int) % 256 = (L : Int) := by omega
      have hL8 : L < 256 := by omega
      have hxx := u8_xor_nat L C hL8 hx
      have hX8 := x8_lt hL8 hx
      have hsp := split_xor F C hx
      rw [← hL] at hsp
      obtain ⟨X, hX⟩ : ∃ X, X = L ^^^ C := ⟨_, rfl⟩
      rw [← hX] at hxx hX8 hsp
      obtain ⟨Q, hQ⟩ : ∃ Q, Q = F / 256 := ⟨_, rfl⟩
      have hdq : (F : Int) / 256 = (Q : Int) := by omega
      have hQl : Q < 16777216 := by omega
      rw [← hQ] at hsp
      obtain ⟨Y, hY⟩ : ∃ Y, Y = Q * 256 + X := ⟨_, rfl⟩
      have hYl : Y < 4294967296 := by omega
      have hYi : (Q : Int) * 256 + (X : Int) = (Y : Int) := by omega
      have HB : Hid (M.fb F C = Y * 16777619 % 4294967296) := Lib.hid (by unfold M.fb; rw [← hsp, hY])
      have hZl := M.fb_lt F C
      obtain ⟨Z, hZ⟩ : ∃ Z, Z = M.fb F C := ⟨_, rfl⟩
      rw [← hZ] at hZl HB HS
      clear hZ
      clear hL hX hQ hY hsp
      go_wp2_with (go_at_call 22; refine (timesP _ hYl HB).mono ?_; rintro e w' ⟨rfl, rfl⟩)
      go_round
      case rel => exact ⟨k + 1, by omega, by go_num, by rw [HS.out]⟩
      case measure => simp [intOf]; omega
    · obtain rfl : k = n := by omega
      go_wp2
      go_ret
      exact ⟨ret_int (by rw [fnv_take_all HL.out]), rfl⟩
end Go.Proofs.Ythfpggeflokgfaa
