/-
  Layer 7: the reference's decimal form of an integer.
-/
import Derived.Test.YtffolfnaalijnaaDoorSRefQ
import Derived.Lib.ItoaNum
import Derived.Lib.ItoaMem
import Derived.Lib.ItoaLen
namespace Go.Proofs.YtffolfnaalijnaaDoor
set_option linter.unusedVariables false
open Go.RowKit
set_option maxRecDepth 100000

theorem digcut : ∀ n : Nat, n < 10 → ∀ w, (Instr.slice 9 (.string ⟨#[48, 49, 50, 51, 52, 53, 54, 55, 56, 57]⟩) (some (.int .i64 (n : Int))) (some (.int .i64 ((n : Int) + 1))) none).run Tryd.prog w = .ok (.string (bS [UInt8.ofNat (48 + n)])) w
  | 0, _ => fun w => by kernel_rfl
  | 1, _ => fun w => by kernel_rfl
  | 2, _ => fun w => by kernel_rfl
  | 3, _ => fun w => by kernel_rfl
  | 4, _ => fun w => by kernel_rfl
  | 5, _ => fun w => by kernel_rfl
  | 6, _ => fun w => by kernel_rfl
  | 7, _ => fun w => by kernel_rfl
  | 8, _ => fun w => by kernel_rfl
  | 9, _ => fun w => by kernel_rfl
  | n + 10, h => absurd h (by omega)

set_option maxHeartbeats 4000000 in
theorem rdecimal_any (n : Int) (w : World) (h0 : -9223372036854775808 ≤ n) (h1 : n ≤ 9223372036854775807) :
    Calls Tryd.prog 27 #[.int .i64 n] w fun e w' => e = .returned (.string (bS (Lib.itoa n))) ∧ w' = w := by
  by_cases hn : n < 0
  · obtain ⟨u, hu⟩ : ∃ u : Nat, -(u : Int) = n := ⟨n.natAbs, by omega⟩
    have hu0 : 1 ≤ u := by omega
    have hul : u ≤ 9223372036854775808 := by omega
    have hD : Lib.itoa n = 45 :: Lib.decDigits u := by rw [← hu, Lib.itoa_neg u hu0]
    rw [hD]
    have HLN : Hid ((Lib.decDigits u).length ≤ 20) := Lib.hid (by rw [Lib.decDigits_length]; exact Lib.nDigits_le20 u (by omega))
    clear hD
    go_enter Tryd.func27, Tryd.ntmps27
    go_wp2_with fail
    go_loopw [3, 4, 5] (fun x y _ wr => ∃ (m : Nat) (X : ByteArray), x = .string X ∧ y = .int .i64 (-(m : Int)) ∧ m ≤ 9223372036854775808 ∧ Hid (Lib.decDigits m ++ X.data.toList = Lib.decDigits u) ∧ wr = w) (fun _ y _ _ => (intOf y).natAbs)
    case atStart => exact ⟨u, _, rfl, by rw [hu], hul, Lib.hid (by simp), rfl⟩
    case round =>
      obtain ⟨m, X, rfl, rfl, hm, HX, rfl⟩ := hrel
      have hXz : X.size ≤ 20 := by
        have h1 := HX.out
        have h2 := HLN.out
        rw [← h1, List.length_append, l7_len] at h2; omega
      obtain ⟨d, hd⟩ : ∃ d, d = m % 10 := ⟨_, rfl⟩
      have hd10 : d < 10 := by omega
      have hcd : (m : Int) % 10 = (d : Int) := by omega
      have hcut := digcut d hd10
      have zD : (bS [UInt8.ofNat (48 + d)]).size = 1 := rfl
      have HDL : Hid ((bS [UInt8.ofNat (48 + d)]).data.toList = [UInt8.ofNat (48 + d)]) := Lib.hid rfl
      have HE : Hid (d = 0 → (⟨#[48, 49, 50, 51, 52, 53, 54, 55, 56, 57]⟩ : ByteArray).extract 0 1 = bS [UInt8.ofNat (48 + d)]) := Lib.hid (by rintro rfl; rfl)
      have HDD := Lib.hid hd
      generalize bS [UInt8.ofNat (48 + d)] = D at *
      clear hd
      by_cases h10 : m < 10
      · have HF : Hid (D.data.toList ++ X.data.toList = Lib.decDigits u) := Lib.hid (by
          rw [← HX.out, HDL.out, Lib.decDigits_one h10, HDD.out, Nat.mod_eq_of_lt h10])
        have hq : (m : Int) / 10 = 0 := by omega
        rcases Nat.eq_zero_or_pos d with h | h
        · have HE0 := Lib.hid (HE.out h)
          have zE : ((⟨#[48, 49, 50, 51, 52, 53, 54, 55, 56, 57]⟩ : ByteArray).extract 0 1).size = 1 := rfl
          subst h
          have g1 : decide (0 < (0 : Nat)) = false := rfl
          go_wp2_with fail
          go_ret
          have e : ⟨#[45]⟩ ++ ((⟨#[48, 49, 50, 51, 52, 53, 54, 55, 56, 57]⟩ : ByteArray).extract 0 1 ++ X) = bS (45 :: Lib.decDigits u) := bS_is (by rw [HE0.out, app7_list, app7_list, HF.out]; rfl)
          refine ⟨?_, rfl⟩
          rw [← e]
          rfl
        · have g1 : decide (0 < d) = true := by simp; omega
          have g2 : decide (0 < (d : Int)) = true := by simp; omega
          have g3 : (0 : Int) < (d : Int) := by omega
          go_wp2_with fail
          go_ret
          have e : ⟨#[45]⟩ ++ (D ++ X) = bS (45 :: Lib.decDigits u) := bS_is (by rw [app7_list, app7_list, HF.out]; rfl)
          refine ⟨?_, rfl⟩
          rw [← e]
          rfl
      · obtain ⟨q, hq⟩ : ∃ q, q = m / 10 := ⟨_, rfl⟩
        have hq1 : (m : Int) / 10 = (q : Int) := by omega
        have hqp : 1 ≤ q := by omega
        have HF : Hid (Lib.decDigits q ++ (D.data.toList ++ X.data.toList) = Lib.decDigits u) := Lib.hid (by
          have e : Lib.decDigits m = Lib.decDigits (m / 10) ++ [UInt8.ofNat (48 + m % 10)] := by rw [Lib.decDigits, dif_neg h10]
          rw [← HX.out, e, HDL.out, ← HDD.out, ← hq, List.append_assoc])
        have hmq : q < m := by omega
        clear hq
        have g0 : ((q : Int) == 0) = false := by rw [beq_eq_false_iff_ne]; omega
        rcases Nat.eq_zero_or_pos d with h | h
        · have HE0 := Lib.hid (HE.out h)
          have zE : ((⟨#[48, 49, 50, 51, 52, 53, 54, 55, 56, 57]⟩ : ByteArray).extract 0 1).size = 1 := rfl
          subst h
          have g1 : decide (0 < (0 : Nat)) = false := rfl
          go_wp2_with fail
          exact ⟨⟨q, _, rfl, rfl, by omega, Lib.hid (by rw [HE0.out, app7_list]; exact HF.out), by first | rfl | trivial⟩, by simp [intOf]; omega⟩
        · have g1 : decide (0 < d) = true := by simp; omega
          have g2 : decide (0 < (d : Int)) = true := by simp; omega
          have g3 : (0 : Int) < (d : Int) := by omega
          go_wp2_with fail
          exact ⟨⟨q, _, rfl, rfl, by omega, Lib.hid (by rw [app7_list]; exact HF.out), by first | rfl | trivial⟩, by simp [intOf]; omega⟩
  · obtain ⟨u, hu⟩ : ∃ u : Nat, (u : Int) = n := ⟨n.toNat, by omega⟩
    have hul : u ≤ 9223372036854775807 := by omega
    have hD : Lib.itoa n = Lib.decDigits u := by rw [← hu, Lib.itoa_nonneg u]
    rw [hD]
    have HLN : Hid ((Lib.decDigits u).length ≤ 20) := Lib.hid (by rw [Lib.decDigits_length]; exact Lib.nDigits_le20 u (by omega))
    clear hD
    go_enter Tryd.func27, Tryd.ntmps27
    go_wp2_with fail
    go_loopw [3, 4, 5] (fun x y _ wr => ∃ (m : Nat) (X : ByteArray), x = .string X ∧ y = .int .i64 ((m : Int)) ∧ m ≤ 9223372036854775807 ∧ Hid (Lib.decDigits m ++ X.data.toList = Lib.decDigits u) ∧ wr = w) (fun _ y _ _ => (intOf y).natAbs)
    case atStart => exact ⟨u, _, rfl, by rw [hu], hul, Lib.hid (by simp), rfl⟩
    case round =>
      obtain ⟨m, X, rfl, rfl, hm, HX, rfl⟩ := hrel
      have hXz : X.size ≤ 20 := by
        have h1 := HX.out
        have h2 := HLN.out
        rw [← h1, List.length_append, l7_len] at h2; omega
      obtain ⟨d, hd⟩ : ∃ d, d = m % 10 := ⟨_, rfl⟩
      have hd10 : d < 10 := by omega
      have hcd : (m : Int) % 10 = (d : Int) := by omega
      have hcut := digcut d hd10
      have zD : (bS [UInt8.ofNat (48 + d)]).size = 1 := rfl
      have HDL : Hid ((bS [UInt8.ofNat (48 + d)]).data.toList = [UInt8.ofNat (48 + d)]) := Lib.hid rfl
      have HE : Hid (d = 0 → (⟨#[48, 49, 50, 51, 52, 53, 54, 55, 56, 57]⟩ : ByteArray).extract 0 1 = bS [UInt8.ofNat (48 + d)]) := Lib.hid (by rintro rfl; rfl)
      have HDD := Lib.hid hd
      generalize bS [UInt8.ofNat (48 + d)] = D at *
      clear hd
      by_cases h10 : m < 10
      · have HF : Hid (D.data.toList ++ X.data.toList = Lib.decDigits u) := Lib.hid (by
          rw [← HX.out, HDL.out, Lib.decDigits_one h10, HDD.out, Nat.mod_eq_of_lt h10])
        have hq : (m : Int) / 10 = 0 := by omega
        rcases Nat.eq_zero_or_pos d with h | h
        · have HE0 := Lib.hid (HE.out h)
          have zE : ((⟨#[48, 49, 50, 51, 52, 53, 54, 55, 56, 57]⟩ : ByteArray).extract 0 1).size = 1 := rfl
          subst h
          have g1 : decide (0 < (0 : Nat)) = false := rfl
          go_wp2_with fail
          go_ret
          have e : (⟨#[48, 49, 50, 51, 52, 53, 54, 55, 56, 57]⟩ : ByteArray).extract 0 1 ++ X = bS (Lib.decDigits u) := bS_is (by rw [HE0.out, app7_list, HF.out])
          refine ⟨?_, rfl⟩
          rw [← e]
          rfl
        · have g1 : decide (0 < d) = true := by simp; omega
          have g2 : decide (0 < (d : Int)) = true := by simp; omega
          have g3 : (0 : Int) < (d : Int) := by omega
          go_wp2_with fail
          go_ret
          have e : D ++ X = bS (Lib.decDigits u) := bS_is (by rw [app7_list, HF.out])
          refine ⟨?_, rfl⟩
          rw [← e]
          rfl
      · obtain ⟨q, hq⟩ : ∃ q, q = m / 10 := ⟨_, rfl⟩
        have hq1 : (m : Int) / 10 = (q : Int) := by omega
        have hqp : 1 ≤ q := by omega
        have HF : Hid (Lib.decDigits q ++ (D.data.toList ++ X.data.toList) = Lib.decDigits u) := Lib.hid (by
          have e : Lib.decDigits m = Lib.decDigits (m / 10) ++ [UInt8.ofNat (48 + m % 10)] := by rw [Lib.decDigits, dif_neg h10]
          rw [← HX.out, e, HDL.out, ← HDD.out, ← hq, List.append_assoc])
        have hmq : q < m := by omega
        clear hq
        have g0 : ((q : Int) == 0) = false := by rw [beq_eq_false_iff_ne]; omega
        rcases Nat.eq_zero_or_pos d with h | h
        · have HE0 := Lib.hid (HE.out h)
          have zE : ((⟨#[48, 49, 50, 51, 52, 53, 54, 55, 56, 57]⟩ : ByteArray).extract 0 1).size = 1 := rfl
          subst h
          have g1 : decide (0 < (0 : Nat)) = false := rfl
          go_wp2_with fail
          exact ⟨⟨q, _, rfl, rfl, by omega, Lib.hid (by rw [HE0.out, app7_list]; exact HF.out), by first | rfl | trivial⟩, by simp [intOf]; omega⟩
        · have g1 : decide (0 < d) = true := by simp; omega
          have g2 : decide (0 < (d : Int)) = true := by simp; omega
          have g3 : (0 : Int) < (d : Int) := by omega
          go_wp2_with fail
          exact ⟨⟨q, _, rfl, rfl, by omega, Lib.hid (by rw [app7_list]; exact HF.out), by first | rfl | trivial⟩, by simp [intOf]; omega⟩
end Go.Proofs.YtffolfnaalijnaaDoor
