/-
  Layer 5: the random numbers, the code's and the reference's; seeds.
-/
import Derived.Test.YthfpggeflokgfaaKCodA
namespace Go.Proofs.Ythfpggeflokgfaa
open Go.RowKit

theorem OB.eight {w : World} {x0 x1 x2 x3 x4 x5 x6 x7 : Int} (n : Int)
    (h0 : x0 = (M.e8 n 0 : Int)) (h1 : x1 = (M.e8 n 1 : Int)) (h2 : x2 = (M.e8 n 2 : Int)) (h3 : x3 = (M.e8 n 3 : Int)) (h4 : x4 = (M.e8 n 4 : Int)) (h5 : x5 = (M.e8 n 5 : Int)) (h6 : x6 = (M.e8 n 6 : Int)) (h7 : x7 = (M.e8 n 7 : Int)) :
    OB (w.alloc (.cells #[.int .u8 x0, .int .u8 x1, .int .u8 x2, .int .u8 x3, .int .u8 x4, .int .u8 x5, .int .u8 x6, .int .u8 x7] 5)) w.heap.size (.slice (some ⟨w.heap.size, 0, none⟩) 8 8) (M.eight n) := by
  subst h0 h1 h2 h3 h4 h5 h6 h7
  have h := World.ownsRow_lit (base := w.heap.size) (e := 5) (size := 1) w #[.int .u8 (M.e8 n 0 : Int), .int .u8 (M.e8 n 1 : Int), .int .u8 (M.e8 n 2 : Int), .int .u8 (M.e8 n 3 : Int), .int .u8 (M.e8 n 4 : Int), .int .u8 (M.e8 n 5 : Int), .int .u8 (M.e8 n 6 : Int), .int .u8 (M.e8 n 7 : Int)] 8 (Nat.le_refl _) (by unfold maxLen; omega) rfl
  unfold OB
  have e1 : (M.eight n).length = 8 := by rw [M.eight_list]; rfl
  rw [e1]
  have e2 : (M.eight n).map bv = [.int .u8 (M.e8 n 0 : Int), .int .u8 (M.e8 n 1 : Int), .int .u8 (M.e8 n 2 : Int), .int .u8 (M.e8 n 3 : Int), .int .u8 (M.e8 n 4 : Int), .int .u8 (M.e8 n 5 : Int), .int .u8 (M.e8 n 6 : Int), .int .u8 (M.e8 n 7 : Int)] := by
    rw [M.eight_list]
    simp only [List.map_cons, List.map_nil, bv, M.e8_byte]
  rw [e2]
  exact h

set_option maxHeartbeats 1000000 in
theorem eight5_any (n : Int) (w : World) :
    Calls Try.prog 17 #[.int .i64 n] w fun e w' => ∃ v, e = .returned v ∧ OB w' w.heap.size v (M.eight n) ∧ Below w.heap.size w w' := by
  have hm := make8 w
  obtain ⟨U0, hU⟩ : ∃ U : Nat, n % 18446744073709551616 = (U : Int) := ⟨(n % 18446744073709551616).toNat, by omega⟩
  have hn : IntKind.u64.wrap n = (U0 : Int) := by rw [IntKind.wrap_u64]; exact hU
  have hb0 : U0 < 18446744073709551616 := by omega
  obtain ⟨U1, hq1⟩ : ∃ q, q = U0 / 256 := ⟨_, rfl⟩
  have hd1 : (U0 : Int) / 256 = (U1 : Int) := by omega
  have hb1 : U1 < 18446744073709551616 := by omega
  obtain ⟨U2, hq2⟩ : ∃ q, q = U1 / 256 := ⟨_, rfl⟩
  have hd2 : (U1 : Int) / 256 = (U2 : Int) := by omega
  have hb2 : U2 < 18446744073709551616 := by omega
  obtain ⟨U3, hq3⟩ : ∃ q, q = U2 / 256 := ⟨_, rfl⟩
  have hd3 : (U2 : Int) / 256 = (U3 : Int) := by omega
  have hb3 : U3 < 18446744073709551616 := by omega
  obtain ⟨U4, hq4⟩ : ∃ q, q = U3 / 256 := ⟨_, rfl⟩
  have hd4 : (U3 : Int) / 256 = (U4 : Int) := by omega
  have hb4 : U4 < 18446744073709551616 := by omega
  obtain ⟨U5, hq5⟩ : ∃ q, q = U4 / 256 := ⟨_, rfl⟩
  have hd5 : (U4 : Int) / 256 = (U5 : Int) := by omega
  have hb5 : U5 < 18446744073709551616 := by omega
  obtain ⟨U6, hq6⟩ : ∃ q, q = U5 / 256 := ⟨_, rfl⟩
  have hd6 : (U5 : Int) / 256 = (U6 : Int) := by omega
  have hb6 : U6 < 18446744073709551616 := by omega
  obtain ⟨U7, hq7⟩ : ∃ q, q = U6 / 256 := ⟨_, rfl⟩
  have hd7 : (U6 : Int) / 256 = (U7 : Int) := by omega
  have hb7 : U7 < 18446744073709551616 := by omega
  obtain ⟨U8, hq8⟩ : ∃ q, q = U7 / 256 := ⟨_, rfl⟩
  have hd8 : (U7 : Int) / 256 = (U8 : Int) := by omega
  have hb8 : U8 < 18446744073709551616 := by omega
  have HE := Lib.hid (e8_0 hU)
  have HQ := Lib.hid (And.intro hq1 (And.intro hq2 (And.intro hq3 (And.intro hq4 (And.intro hq5 (And.intro hq6 hq7))))))
  clear hq1 hq2 hq3 hq4 hq5 hq6 hq7 hq8 hU
  go_enter Try.func17, Try.ntmps17
  go_wp2
  refine wp_loop_rounds 9 ?_
  rw [rounds_succ]
  go_wp2_with fail
  rw [rounds_succ]
  go_wp2_with fail
  rw [rounds_succ]
  go_wp2_with fail
  rw [rounds_succ]
  go_wp2_with fail
  rw [rounds_succ]
  go_wp2_with fail
  rw [rounds_succ]
  go_wp2_with fail
  rw [rounds_succ]
  go_wp2_with fail
  rw [rounds_succ]
  go_wp2_with fail
  rw [rounds_succ]
  go_wp2_with fail
  go_ret
  obtain ⟨q1, q2, q3, q4, q5, q6, q7⟩ := HQ.out
  obtain ⟨e0, e1, e2, e3, e4, e5, e6, e7⟩ := HE.out
  refine ⟨_, rfl, OB.eight n ?_ ?_ ?_ ?_ ?_ ?_ ?_ ?_, (Below.refl _ _).alloc (Nat.le_refl _) _⟩ <;> omega

theorem eight_len (n : Int) : (M.eight n).length = 8 := by rw [M.eight_list]; rfl

set_option maxHeartbeats 400000 in
theorem rdraw_any (a b : Int) (w : World) :
    Calls Try.prog 8 #[.int .i64 a, .int .i64 b] w fun e w' => e = .returned (.int .i64 (M.mix a b)) ∧ Below w.heap.size w w' := by
  go_enter Try.func8, Try.ntmps8
  go_wp2_with fail
  refine (eight5_any a w).mono ?_
  rintro e w1 ⟨v1, rfl, ho1, hb1⟩
  go_wp2_with fail
  refine (eight5_any b w1).mono ?_
  rintro e w2 ⟨v2, rfl, ho2, hb2⟩
  obtain ⟨A2, n2, c2, rfl, hr2⟩ := ho2.form
  have hn2 : n2 = 8 := by rw [← hr2.len, eight_len]
  subst hn2
  have ho1' := ho1.below hb2 (Nat.le_refl _)
  have hs1 := hb1.size
  have hs2 := hb2.size
  go_wp2_with (at_builtin; refine wpList_append_rb rfl _ _ rfl w.heap.size _ _ rfl ho1' _ _ _ _ _ _ rfl hr2 ?c1 ?c2 ?_)
  case c1 => rw [eight_len]; omega
  case c2 => omega
  intro v3 w3 ho3 hb3
  obtain ⟨A3, n3, c3, rfl, hr3⟩ := ho3.form
  go_wp2_with fail
  refine (rfnv5_any hr3).mono ?_
  rintro e w' ⟨rfl, rfl⟩
  have hl := M.fnv_lt (M.eight a ++ M.eight b)
  obtain ⟨F, hF⟩ : ∃ F, F = M.fnv (M.eight a ++ M.eight b) := ⟨_, rfl⟩
  rw [← hF] at hl ⊢
  have HF : Hid (M.mix a b = F % 2147483648) := Lib.hid (by rw [hF]; rfl)
  clear hF
  go_wp2_with fail
  go_ret
  exact ⟨ret_int (by rw [HF.out]; omega), (hb1.trans (hb2.mono hs1)).trans hb3⟩

set_option maxHeartbeats 400000 in
theorem draw_any (a b : Int) (w : World) :
    Calls Try.prog 7 #[.int .i64 a, .int .i64 b] w fun e w' => e = .returned (.int .i64 (M.mix a b)) ∧ w = w' := by
  go_enter Try.func7, Try.ntmps7
  go_wp2_with fail
  refine (mix_any a b w).mono ?_
  rintro e w' ⟨rfl, rfl⟩
  go_wp2_with fail
  go_ret
  exact ⟨rfl, rfl⟩

/-- Below, as a number. -/
def blw (a b n : Int) : Int := if n < 1 then 0 else (M.mix a b : Int) % n
theorem blw_pos {a b n : Int} (h : ¬ n < 1) : 0 ≤ blw a b n ∧ blw a b n < n ∧ blw a b n = (M.mix a b : Int) % n := by
  unfold blw; rw [if_neg h]; exact ⟨Int.emod_nonneg _ (by omega), Int.emod_lt_of_pos _ (by omega), rfl⟩

set_option maxHeartbeats 400000 in
theorem below_any (a b n : Int) (w : World) :
    Calls Try.prog 9 #[.int .i64 a, .int .i64 b, .int .i64 n] w fun e w' => e = .returned (.int .i64 (blw a b n)) ∧ w = w' := by
  by_cases h : n < 1
  · have HB : Hid (blw a b n = 0) := Lib.hid (by unfold blw; rw [if_pos h])
    go_enter Try.func9, Try.ntmps9
    go_wp2_with fail
    go_ret
    exact ⟨ret_int HB.out.symm, rfl⟩
  · have HB := Lib.hid (blw_pos (a := a) (b := b) h).2.2
    have hm := M.mix_lt a b
    go_enter Try.func9, Try.ntmps9
    go_wp2_with fail
    refine (draw_any a b w).mono ?_
    rintro e w' ⟨rfl, rfl⟩
    go_wp2_with fail
    go_ret
    exact ⟨ret_int (by rw [HB.out]), rfl⟩
set_option maxHeartbeats 400000 in
theorem rbelow_any (a b n : Int) (w : World) :
    Calls Try.prog 10 #[.int .i64 a, .int .i64 b, .int .i64 n] w fun e w' => e = .returned (.int .i64 (blw a b n)) ∧ Below w.heap.size w w' := by
  by_cases h : n < 1
  · have HB : Hid (blw a b n = 0) := Lib.hid (by unfold blw; rw [if_pos h])
    go_enter Try.func10, Try.ntmps10
    go_wp2_with fail
    go_ret
    exact ⟨ret_int HB.out.symm, Below.refl _ _⟩
  · have HB := Lib.hid (blw_pos (a := a) (b := b) h).2.2
    have hm := M.mix_lt a b
    go_enter Try.func10, Try.ntmps10
    go_wp2_with fail
    refine (rdraw_any a b w).mono ?_
    rintro e w' ⟨rfl, hb⟩
    go_wp2_with fail
    go_ret
    exact ⟨ret_int (by rw [HB.out]), hb⟩
end Go.Proofs.Ythfpggeflokgfaa
