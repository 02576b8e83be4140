/-
  Layer 6: the laws NameKeys, NameGrows.
-/
import Derived.Test.YthmdacpejhncgaaDoorQLawA
namespace Go.Proofs.YthmdacpejhncgaaDoor
open Go.RowKit
set_option linter.unusedVariables false

set_option maxHeartbeats 2000000 in
set_option maxRecDepth 100000 in
theorem nameKeysW (a b : ByteArray) (w : World) (ha : a.size ≤ maxLen) (hb : b.size ≤ maxLen) (G : Gates w) :
    Calls Tryd.prog 5 #[.string a, .string b] w fun e w' => e = .returned (.bool true) ∧ Below w.heap.size w w' := by
  unfold maxLen at ha hb
  have HG := Lib.hid G
  clear G
  by_cases h : (10000 : Int) < (a.size : Int)
  · go_enter Tryd.func5, Tryd.ntmps5
    go_wp2_with fail
    refine (lives_any _ HG.out).mono ?_
    rintro e w1 ⟨rfl, hb⟩
    go_wp2_with fail
    go_ret
    exact ⟨rfl, hb⟩
  by_cases h2 : (10000 : Int) < (b.size : Int)
  · go_enter Tryd.func5, Tryd.ntmps5
    go_wp2_with fail
    refine (lives_any _ HG.out).mono ?_
    rintro e w1 ⟨rfl, hb⟩
    go_wp2_with fail
    go_ret
    exact ⟨rfl, hb⟩
  obtain ⟨k, hk⟩ : ∃ k, k = keyS a b := ⟨_, rfl⟩
  have hkz : k.size ≤ 1000000 := by rw [hk, key_size]; omega
  have HK := Lib.hid hk
  clear hk
  go_enter Tryd.func5, Tryd.ntmps5
  go_wp2_with fail
  refine (qkey_any a b _ (by omega) (by omega)).mono ?_
  rintro e w1 ⟨rfl, rfl⟩
  rw [← HK.out]
  go_wp2_with fail
  refine (qsplit_any k _ hkz).mono ?_
  rintro e w1 ⟨x, y, ok, rfl, hb, hs⟩
  have G1 := Lib.hid (HG.out.below hb)
  have B1 := Lib.hid hb
  have HS := Lib.hid hs
  clear hb hs
  go_wp2_with fail
  refine (rqsplit_any k _ hkz).mono ?_
  rintro e w2 ⟨x', y', ok', rfl, hb, hs⟩
  obtain ⟨rfl, rfl, rfl⟩ := split_same HS.out hs
  have G2 := Lib.hid (G1.out.below hb)
  have B2 := Lib.hid (B1.out.trans (hb.mono B1.out.size))
  clear hb hs
  have hxy : ok' = true → x' = a ∧ y' = b := fun e => split_key (by rw [← HK.out]; exact HS.out) e
  go_wp2_with fail
  refine (rqkey_any a b _ (by omega) (by omega)).mono ?_
  rintro e w3 ⟨rfl, rfl⟩
  rw [← HK.out]
  have hz : ∀ p : ByteArray × ByteArray × Bool, p = p := fun _ => rfl
  cases ok' with
  | true =>
    obtain ⟨rfl, rfl⟩ := hxy rfl
    clear hxy HS
    go_wp2_with fail
    refine (qsplit_any x' _ (by omega)).mono ?_
    rintro e w3 ⟨u, v, ok, rfl, hb, hs⟩
    have G3 := Lib.hid (G2.out.below hb)
    have B3 := Lib.hid (B2.out.trans (hb.mono B2.out.size))
    clear hb
    cases ok with
    | true =>
      have hu := split_back hs rfl
      have huv := key_size u v
      rw [hu] at huv
      have HU := Lib.hid hu
      clear hs hu
      go_wp2_with fail
      refine (qkey_any u v _ (by omega) (by omega)).mono ?_
      rintro e w4 ⟨rfl, rfl⟩
      rw [HU.out]
      go_wp2_with fail
      refine (lives_any _ G3.out).mono ?_
      rintro e w4 ⟨rfl, hb⟩
      go_wp2_with fail
      go_ret
      exact ⟨rfl, B3.out.trans (hb.mono B3.out.size)⟩
    | false =>
      clear hs
      go_wp2_with fail
      refine (lives_any _ G3.out).mono ?_
      rintro e w4 ⟨rfl, hb⟩
      go_wp2_with fail
      go_ret
      exact ⟨rfl, B3.out.trans (hb.mono B3.out.size)⟩
  | false =>
    clear hxy HS
    go_wp2_with fail
    refine (qsplit_any a _ (by omega)).mono ?_
    rintro e w3 ⟨u, v, ok, rfl, hb, hs⟩
    have G3 := Lib.hid (G2.out.below hb)
    have B3 := Lib.hid (B2.out.trans (hb.mono B2.out.size))
    clear hb
    cases ok with
    | true =>
      have hu := split_back hs rfl
      have huv := key_size u v
      rw [hu] at huv
      have HU := Lib.hid hu
      clear hs hu
      go_wp2_with fail
      refine (qkey_any u v _ (by omega) (by omega)).mono ?_
      rintro e w4 ⟨rfl, rfl⟩
      rw [HU.out]
      go_wp2_with fail
      refine (lives_any _ G3.out).mono ?_
      rintro e w4 ⟨rfl, hb⟩
      go_wp2_with fail
      go_ret
      exact ⟨rfl, B3.out.trans (hb.mono B3.out.size)⟩
    | false =>
      clear hs
      go_wp2_with fail
      refine (lives_any _ G3.out).mono ?_
      rintro e w4 ⟨rfl, hb⟩
      go_wp2_with fail
      go_ret
      exact ⟨rfl, B3.out.trans (hb.mono B3.out.size)⟩

theorem right_join (s : ByteArray) (b : UInt8) (h : Q.right s.data.toList = true) : Q.right (s ++ ⟨#[b]⟩).data.toList = (Q.part b.toNat && decide (s.size < 64)) := by
  rw [show (s ++ ⟨#[b]⟩).data.toList = s.data.toList ++ [b] by simp, Q.right_snoc b h, q_len]
theorem right_join7 (s : ByteArray) : Q.right ((⟨#[55]⟩ : ByteArray) ++ s).data.toList = false := by
  rw [show ((⟨#[55]⟩ : ByteArray) ++ s).data.toList = 55 :: s.data.toList by simp, Q.right_seven]

set_option maxHeartbeats 4000000 in
set_option maxRecDepth 100000 in
theorem nameGrowsW (s : ByteArray) (c : Nat) (w : World) (hs : s.size ≤ maxLen) (hc : c < 256) (G : Gates w) :
    Calls Tryd.prog 6 #[.string s, .int .u8 (c : Int)] w fun e w' => e = .returned (.bool true) ∧ Below w.heap.size w w' := by
  have hm := hs
  unfold maxLen at hs
  have HG := Lib.hid G
  clear G
  by_cases h : (1000 : Int) < (s.size : Int)
  · go_enter Tryd.func6, Tryd.ntmps6
    go_wp2_with fail
    refine (lives_any _ HG.out).mono ?_
    rintro e w1 ⟨rfl, hb⟩
    go_wp2_with fail
    go_ret
    exact ⟨rfl, hb⟩
  cases hr : Q.right s.data.toList with
  | false =>
    have HR := Lib.hid hr
    clear hr
    go_enter Tryd.func6, Tryd.ntmps6
    go_wp2_with fail
    refine (qright_any _ _ hm).mono ?_
    rintro e w1 ⟨rfl, rfl⟩
    rw [HR.out]
    go_wp2_with fail
    refine (lives_any _ HG.out).mono ?_
    rintro e w1 ⟨rfl, hb⟩
    go_wp2_with fail
    go_ret
    exact ⟨rfl, hb⟩
  | true =>
    have HR := Lib.hid hr
    have hbn : (UInt8.ofNat c).toNat = c := by simp [UInt8.toNat_ofNat']; omega
    have hj := right_join s (UInt8.ofNat c) hr
    rw [hbn] at hj
    have hkk := dec_one w (c : Int)
    rw [show (c : Int).toNat = c from rfl] at hkk
    have hB : Below w.heap.size w (w.alloc (.cells #[.int .u8 (c : Int)] 5)) := (Below.refl _ _).alloc (Nat.le_refl _) _
    have HB := Lib.hid hB
    obtain ⟨D, hD⟩ : ∃ D : ByteArray, D = ⟨#[UInt8.ofNat c]⟩ := ⟨_, rfl⟩
    have hd1 : D.size = 1 := by rw [hD]; rfl
    rw [← hD] at hkk hj
    have HJ := Lib.hid hj
    have H7 := Lib.hid (right_join7 s)
    have hz1 : (s ++ D).size ≤ 10000 := by rw [ByteArray.size_append]; omega
    have hz7 : ((⟨#[55]⟩ : ByteArray) ++ s).size ≤ 10000 := by rw [ByteArray.size_append]; have : (⟨#[55]⟩ : ByteArray).size = 1 := rfl; omega
    have HZ1 := Lib.hid hz1; have HZ7 := Lib.hid hz7
    clear hr hj hbn hB hD hz1 hz7
    have h64 : (decide ((s.size : Int) < 64) = true ∧ s.size < 64) ∨ (decide ((s.size : Int) < 64) = false ∧ ¬ s.size < 64) := by simp; omega
    by_cases h1 : (97 : Int) ≤ (c : Int)
    all_goals (by_cases h2 : (c : Int) ≤ 122)
    all_goals (by_cases h3 : (65 : Int) ≤ (c : Int))
    all_goals (by_cases h4 : (c : Int) ≤ 90)
    all_goals (have h5 : (((c : Int) == 95) = true ∧ c = 95) ∨ (((c : Int) == 95) = false ∧ c ≠ 95) := by (rcases Nat.decEq c 95 with h | h; exact .inr ⟨by rw [beq_eq_false_iff_ne]; omega, h⟩; exact .inl ⟨by rw [h]; rfl, h⟩))
    all_goals (rcases h5 with ⟨h5, h5'⟩ | ⟨h5, h5'⟩)
    all_goals (by_cases h6 : (48 : Int) ≤ (c : Int))
    all_goals (by_cases h7 : (c : Int) ≤ 57)
    all_goals (first | (exfalso; omega) | skip)
    all_goals (
      have hp : ∃ p, Q.part c = p := ⟨_, rfl⟩
      obtain ⟨p, hp⟩ := hp
      have hp2 : (p = true ∧ ((97 ≤ c ∧ c ≤ 122) ∨ (65 ≤ c ∧ c ≤ 90) ∨ c = 95 ∨ (48 ≤ c ∧ c ≤ 57))) ∨ (p = false ∧ ¬ ((97 ≤ c ∧ c ≤ 122) ∨ (65 ≤ c ∧ c ≤ 90) ∨ c = 95 ∨ (48 ≤ c ∧ c ≤ 57))) := by
        by_cases hx : (97 ≤ c ∧ c ≤ 122) ∨ (65 ≤ c ∧ c ≤ 90) ∨ c = 95 ∨ (48 ≤ c ∧ c ≤ 57)
        · exact .inl ⟨by rw [← hp, Q.part_yes hx], hx⟩
        · exact .inr ⟨by rw [← hp, Q.part_no hx], hx⟩
      rcases hp2 with ⟨rfl, hx⟩ | ⟨rfl, hx⟩
      all_goals (first | (exfalso; omega) | skip)
      all_goals (
        have HP := Lib.hid hp
        clear hp hx
        rcases h64 with ⟨g1, g2⟩ | ⟨g1, g2⟩
        all_goals (
          have hj2 := HJ.out
          rw [HP.out] at hj2
          simp only [g2, decide_true, decide_false, Bool.and_true, Bool.and_false] at hj2
          have HJ2 := Lib.hid hj2
          clear hj2 h5' g2
          go_enter Tryd.func6, Tryd.ntmps6
          go_wp2_with fail
          refine (qright_any _ _ hm).mono ?_
          rintro e w1 ⟨rfl, rfl⟩
          rw [HR.out]
          go_wp2_with fail
          refine (qright_any _ _ (Nat.le_trans HZ1.out (by decide))).mono ?_
          rintro e w1 ⟨rfl, rfl⟩
          rw [HJ2.out]
          go_wp2_with fail
          refine (qright_any _ _ (Nat.le_trans HZ7.out (by decide))).mono ?_
          rintro e w1 ⟨rfl, rfl⟩
          rw [H7.out]
          go_wp2_with fail
          refine (lives_any _ (HG.out.below HB.out)).mono ?_
          rintro e w1 ⟨rfl, hb⟩
          go_wp2_with fail
          go_ret
          exact ⟨rfl, HB.out.trans (hb.mono HB.out.size)⟩)))

theorem nameGrowsI (s : ByteArray) (a : Int) (ha : (Lit.int .u8 a).wf = true) (w : World) (hs : s.size ≤ maxLen) (G : Gates w) :
    Calls Tryd.prog 6 #[.string s, .int .u8 a] w fun e w' => e = .returned (.bool true) ∧ Below w.heap.size w w' := by
  have e0 : IntKind.u8.min = 0 := rfl
  have e1 : IntKind.u8.max = 255 := rfl
  simp [Lit.wf, e0, e1] at ha
  obtain ⟨c, rfl⟩ : ∃ c : Nat, a = (c : Int) := ⟨a.toNat, by omega⟩
  exact nameGrowsW s c w hs (by omega) G
end Go.Proofs.YthmdacpejhncgaaDoor
