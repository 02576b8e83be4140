/-
  Layer 1: the laws WireRange, WirePrefix, WireRound.
-/
import Derived.Test.YtakinfkjimfkhaaLawA
import Derived.Test.YtakinfkjimfkhaaMathB
namespace Go.Proofs.Ytakinfkjimfkhaa
open Go.RowKit

theorem nilApp (l : List UInt8) : [] ++ l = l := rfl

set_option maxHeartbeats 2000000 in
set_option maxRecDepth 100000 in
theorem rangeW (n x y : Int) (w : World) (h1 : -9223372036854775808 ≤ n) (h2 : n ≤ 9223372036854775807) :
    Calls Try.prog 8 #[.int .i64 n, .int .i64 x, .int .i64 y] w fun e w' => e = .returned (.bool true) ∧ Below w.heap.size w w' := by
  go_enter Try.func8, Try.ntmps8
  go_wp2_with fail
  refine (refPutInt_any _ _ _ [] _ _ n _ (RB.nil_ _ 0 0) (by omega) h1 h2 (by omega)).mono ?_
  rintro e w1 ⟨v1, rfl, ho1, hb1⟩
  obtain ⟨A1, n1, c1, rfl, hv1⟩ := ho1.form
  have hn1 : n1 ≤ 10 := by rw [← hv1.len, nilApp]; exact (M.enc_len _ (M.zig_lt n h1 h2)).2
  go_wp2_with fail
  refine (openX _ _ _ _ _ _ _ hv1 (Nat.le_refl _) (by omega)).mono ?_
  rintro e w2 ⟨g, rfl, hR2, hb2⟩
  have hB2 := b_step hb1 hb2
  have hge := hR2.ge
  have hs1 := hb1.size
  clear ho1 hv1 hb1 hb2
  go_wp2_with fail
  refine (intX x y hR2).mono ?_
  rintro e w3 ⟨rfl, hR3, hg3⟩
  have hB3 := b_only hB2 hg3 (by omega)
  clear hR2 hB2 hg3
  by_cases hr : x ≤ n ∧ n ≤ y
  · have hI := M.St.int_enc (s := ⟨[] ++ M.enc (M.zig n), 0⟩) (r := []) rfl (by simp) h1 h2 hr
    rw [hI] at hR3 ⊢
    obtain ⟨hr1, hr2⟩ := hr
    clear hI h1 h2
    go_wp2_with fail
    refine (errX hR3).mono ?_
    rintro e w' ⟨rfl, rfl⟩
    go_wp2_with fail
    refine (works_any _).mono ?_
    rintro e w4 ⟨rfl, hb4⟩
    go_wp2_with fail
    go_ret
    exact ⟨rfl, b_step hB3 hb4⟩
  · have hI := M.St.int_enc_out (s := ⟨[] ++ M.enc (M.zig n), 0⟩) (r := []) rfl (by simp) h1 h2 hr
    rw [hI] at hR3 ⊢
    clear hI h1 h2
    rcases (show n < x ∨ (x ≤ n ∧ y < n) by omega) with hr1 | ⟨hr1, hr2⟩
    all_goals
      clear hr
      go_wp2_with fail
      refine (errX hR3).mono ?_
      rintro e w' ⟨rfl, rfl⟩
      go_wp2_with fail
      refine (leftX hR3).mono ?_
      rintro e w' ⟨rfl, rfl⟩
      go_wp2_with fail
      refine (works_any _).mono ?_
      rintro e w4 ⟨rfl, hb4⟩
      go_wp2_with fail
      go_ret
      exact ⟨rfl, b_step hB3 hb4⟩

theorem pfx {m n : Int} (h1 : -9223372036854775808 ≤ m) (h2 : m ≤ 9223372036854775807) (h3 : -9223372036854775808 ≤ n) (h4 : n ≤ 9223372036854775807) {k : Nat} (hk : k = (M.enc (M.zig m)).length) :
    decide (([] : List UInt8) ++ M.enc (M.zig m) = ([] ++ M.enc (M.zig n)).take k) = (m == n) := by
  subst hk
  rw [Bool.eq_iff_iff, decide_eq_true_eq, beq_iff_eq, nilApp, nilApp]
  constructor
  · intro h
    have h5 : M.enc (M.zig n) = M.enc (M.zig m) ++ (M.enc (M.zig n)).drop (M.enc (M.zig m)).length := by
      conv => rhs; lhs; rw [h]
      rw [List.take_append_drop]
    have := M.enc_prefix (M.zig_lt m h1 h2) (M.zig_lt n h3 h4) h5
    rw [← M.zag_zig m, ← M.zag_zig n, this]
  · rintro rfl
    rw [List.take_length]
theorem eq_comm' (m n : Int) : (m == n) = (n == m) := by rw [Bool.eq_iff_iff, beq_iff_eq, beq_iff_eq]; exact eq_comm

set_option maxHeartbeats 2000000 in
set_option maxRecDepth 100000 in
theorem prefixW (m n : Int) (w : World) (h1 : -9223372036854775808 ≤ m) (h2 : m ≤ 9223372036854775807) (h3 : -9223372036854775808 ≤ n) (h4 : n ≤ 9223372036854775807) :
    Calls Try.prog 7 #[.int .i64 m, .int .i64 n] w fun e w' => e = .returned (.bool true) ∧ Below w.heap.size w w' := by
  go_enter Try.func7, Try.ntmps7
  go_wp2_with fail
  refine (putInt_any _ _ _ [] _ _ m _ (RB.nil_ _ 0 0) (by omega) h1 h2 (by omega)).mono ?_
  rintro e w1 ⟨v1, rfl, ho1, hb1⟩
  go_wp2_with fail
  refine (putInt_any _ _ _ [] _ _ n _ (RB.nil_ _ 0 0) (by omega) h3 h4 (by omega)).mono ?_
  rintro e w2 ⟨v2, rfl, ho2, hb2⟩
  obtain ⟨A1, n1, c1, rfl, hv1⟩ := (ho1.below hb2 (Nat.le_refl _)).form
  obtain ⟨A2, n2, c2, rfl, hv2⟩ := ho2.form
  have hB2 := b_step hb1 hb2
  have hl1 := hv1.len
  have hl2 := hv2.len
  have hc1 := hv1.cap
  have hc2 := hv2.cap
  have hx1 := hv1.most
  have hx2 := hv2.most
  unfold maxLen at hx1 hx2
  rw [nilApp] at hl1 hl2
  have HL1 := Lib.hid hl1
  have HL2 := Lib.hid hl2
  have HV1 := Lib.hid hv1
  have HV2 := Lib.hid hv2
  clear ho1 ho2 hb1 hb2 hl1 hl2 hv1 hv2
  by_cases hle : n2 < n1
  · go_wp2_with fail
    refine (equalX HV2.out (HV1.out.front (k := n2) (by omega))).mono ?_
    rintro e w3 ⟨rfl, hb3⟩
    rw [pfx h3 h4 h1 h2 HL2.out.symm, ← eq_comm' m n]
    have hB3 := hB2.trans (hb3 _)
    go_wp2_with fail
    refine (works_any _).mono ?_
    rintro e w4 ⟨rfl, hb4⟩
    go_wp2_with fail
    go_ret
    exact ⟨rfl, b_step hB3 hb4⟩
  · go_wp2_with fail
    refine (equalX HV1.out (HV2.out.front (k := n1) (by omega))).mono ?_
    rintro e w3 ⟨rfl, hb3⟩
    rw [pfx h1 h2 h3 h4 HL1.out.symm]
    have hB3 := hB2.trans (hb3 _)
    go_wp2_with fail
    refine (works_any _).mono ?_
    rintro e w4 ⟨rfl, hb4⟩
    go_wp2_with fail
    go_ret
    exact ⟨rfl, b_step hB3 hb4⟩
end Go.Proofs.Ytakinfkjimfkhaa
