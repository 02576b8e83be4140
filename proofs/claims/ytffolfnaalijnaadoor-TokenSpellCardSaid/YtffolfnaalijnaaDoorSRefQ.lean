/-
  Layer 7: the reference's literal.
-/
import Derived.Test.YtffolfnaalijnaaDoorSCodM
namespace Go.Proofs.YtffolfnaalijnaaDoor
set_option linter.unusedVariables false
open Go.RowKit
set_option maxRecDepth 100000

theorem hexsl8 (n : Nat) (hn : n < 16) : ∀ w, (Instr.slice 9 (.string ⟨#[48, 49, 50, 51, 52, 53, 54, 55, 56, 57, 97, 98, 99, 100, 101, 102]⟩) (some (.int .u8 (n : Int))) (some (.int .u8 ((n : Int) + 1))) none).run Tryd.prog w = .ok (.string (bS [Z.hexc n])) w :=
  match n, hn with
  | 0, _ => fun w => by kernel_rfl
  | 1, _ => fun w => by kernel_rfl
  | 2, _ => fun w => by kernel_rfl
  | 3, _ => fun w => by kernel_rfl
  | 4, _ => fun w => by kernel_rfl
  | 5, _ => fun w => by kernel_rfl
  | 6, _ => fun w => by kernel_rfl
  | 7, _ => fun w => by kernel_rfl
  | 8, _ => fun w => by kernel_rfl
  | 9, _ => fun w => by kernel_rfl
  | 10, _ => fun w => by kernel_rfl
  | 11, _ => fun w => by kernel_rfl
  | 12, _ => fun w => by kernel_rfl
  | 13, _ => fun w => by kernel_rfl
  | 14, _ => fun w => by kernel_rfl
  | 15, _ => fun w => by kernel_rfl
  | n + 16, h => absurd h (by omega)
theorem ext7_one {s : ByteArray} {j : Nat} (h : j < s.size) : (s.extract j (j + 1)).data.toList = [s[j]] := by
  have hl : j < s.data.toList.length := by rw [l7_len]; exact h
  have e1 : (s.extract j (j + 1)).data.toList = (s.data.toList.take (j + 1)).drop j := by
    rw [ByteArray.data_extract, Array.toList_extract]
    simp [List.drop_take]
  rw [e1, List.take_succ_eq_append_getElem hl, List.drop_append_of_le_length (by rw [List.length_take]; omega), List.drop_eq_nil_of_le (by rw [List.length_take]; omega)]
  rfl
theorem app7_list (a b : ByteArray) : (a ++ b).data.toList = a.data.toList ++ b.data.toList := by rw [ByteArray.data_append, Array.toList_append]
theorem bS_is {X : ByteArray} {l : List UInt8} (h : X.data.toList = l) : X = bS l := by subst h; rfl

set_option maxHeartbeats 4000000 in
theorem rquote7_any (s : ByteArray) (w : World) (hs : s.size ≤ 100000000) :
    Calls Tryd.prog 19 #[.string s] w fun e w' => e = .returned (.string (bS (Z.quote s.data.toList))) ∧ Below w.heap.size w w' := by
  have HL := Lib.hid (l7_len s)
  go_enter Tryd.func19, Tryd.ntmps19
  go_wp2_with fail
  go_loopw [4, 5, 6] (fun x y z wr => ∃ (j : Nat) (X : ByteArray), x = .string X ∧ y = .int .i64 j ∧ j ≤ s.size ∧ Hid (X.data.toList = 34 :: Z.escs (s.data.toList.take j)) ∧ Hid (Below w.heap.size w wr)) (fun _ y _ _ => s.size - (intOf y).toNat)
  case atStart => exact ⟨0, _, rfl, rfl, by omega, Lib.hid rfl, Lib.hid (Below.refl _ _)⟩
  case round =>
    obtain ⟨j, X, rfl, rfl, hj, HX, HB⟩ := hrel
    have hXs : X.size ≤ 500000000 := by
      rw [← l7_len, HX.out]
      have h1 := Z.escs_take_le s.data.toList j
      have h2 := Z.escs_len s.data.toList
      rw [HL.out] at h2
      simp; omega
    by_cases hlt : j < s.size
    · have hkl : j < s.data.toList.length := by rw [HL.out]; exact hlt
      have HT := Lib.hid (Z.escs_take hkl)
      have HE1 := Lib.hid (ext7_one hlt)
      have HTJ : Hid (s.data.toList[j] = s[j]) := Lib.hid rfl
      rw [HTJ.out] at HT
      have HOF : Hid (UInt8.ofNat s[j].toNat = s[j]) := Lib.hid (by simp)
      have HLT : Hid (s[j].toNat < 256) := Lib.hid s[j].toNat_lt
      by_cases h1 : s[j].toNat = 34
      · have HE : Hid (Z.esc1 s[j].toNat = [92, s[j]]) := Lib.hid (by unfold Z.esc1; rw [if_pos (.inl h1), HOF.out])
        have e1 : ((s[j].toNat : Int) == 34) = true := by rw [h1]; rfl
        clear h1
        go_wp2_with fail
        go_roundw
        case rel => exact ⟨j + 1, _, rfl, by go_num, by omega, Lib.hid (by simp only [app7_list]; (try rw [HE1.out]); rw [HX.out, HT.out, HE.out]; simp), HB⟩
        case measure => simp [intOf]; omega
      by_cases h2 : s[j].toNat = 92
      · have HE : Hid (Z.esc1 s[j].toNat = [92, s[j]]) := Lib.hid (by unfold Z.esc1; rw [if_pos (.inr h2), HOF.out])
        have e1 : ((s[j].toNat : Int) == 34) = false := by rw [h2]; rfl
        have e2 : ((s[j].toNat : Int) == 92) = true := by rw [h2]; rfl
        clear h1 h2
        go_wp2_with fail
        go_roundw
        case rel => exact ⟨j + 1, _, rfl, by go_num, by omega, Lib.hid (by simp only [app7_list]; (try rw [HE1.out]); rw [HX.out, HT.out, HE.out]; simp), HB⟩
        case measure => simp [intOf]; omega
      have e1 : ((s[j].toNat : Int) == 34) = false := by rw [beq_eq_false_iff_ne]; omega
      have e2 : ((s[j].toNat : Int) == 92) = false := by rw [beq_eq_false_iff_ne]; omega
      by_cases h3 : s[j].toNat = 10
      · have HE : Hid (Z.esc1 s[j].toNat = [92, 110]) := Lib.hid (by unfold Z.esc1; rw [if_neg (by omega), if_pos h3])
        have e3 : ((s[j].toNat : Int) == 10) = true := by rw [h3]; rfl
        clear h1 h2 h3
        go_wp2_with fail
        go_roundw
        case rel => exact ⟨j + 1, _, rfl, by go_num, by omega, Lib.hid (by simp only [app7_list]; (try rw [HE1.out]); rw [HX.out, HT.out, HE.out]; simp), HB⟩
        case measure => simp [intOf]; omega
      have e3 : ((s[j].toNat : Int) == 10) = false := by rw [beq_eq_false_iff_ne]; omega
      by_cases h4 : s[j].toNat = 9
      · have HE : Hid (Z.esc1 s[j].toNat = [92, 116]) := Lib.hid (by unfold Z.esc1; rw [if_neg (by omega), if_neg h3, if_pos h4])
        have e4 : ((s[j].toNat : Int) == 9) = true := by rw [h4]; rfl
        clear h1 h2 h3 h4
        go_wp2_with fail
        go_roundw
        case rel => exact ⟨j + 1, _, rfl, by go_num, by omega, Lib.hid (by simp only [app7_list]; (try rw [HE1.out]); rw [HX.out, HT.out, HE.out]; simp), HB⟩
        case measure => simp [intOf]; omega
      have e4 : ((s[j].toNat : Int) == 9) = false := by rw [beq_eq_false_iff_ne]; omega
      by_cases h5 : 32 ≤ s[j].toNat ∧ s[j].toNat ≤ 126
      · have HE : Hid (Z.esc1 s[j].toNat = [s[j]]) := Lib.hid (by unfold Z.esc1; rw [if_neg (by omega), if_neg h3, if_neg h4, if_pos h5, HOF.out])
        have g1 : ¬ (s[j].toNat : Int) < 32 := by omega
        have g2 : ¬ (126 : Int) < (s[j].toNat : Int) := by omega
        clear h1 h2 h3 h4 h5
        go_wp2_with fail
        go_roundw
        case rel => exact ⟨j + 1, _, rfl, by go_num, by omega, Lib.hid (by simp only [app7_list]; (try rw [HE1.out]); rw [HX.out, HT.out, HE.out]; simp), HB⟩
        case measure => simp [intOf]; omega
      have HE : Hid (Z.esc1 s[j].toNat = [92, 120, Z.hexc (s[j].toNat / 16), Z.hexc (s[j].toNat % 16)]) := Lib.hid (by unfold Z.esc1; rw [if_neg (by omega), if_neg h3, if_neg h4, if_neg h5])
      have hex : (s[j].toNat : Int) < 32 ∨ (¬ (s[j].toNat : Int) < 32 ∧ (126 : Int) < (s[j].toNat : Int)) := by omega
      have hlt2 := HLT.out
      obtain ⟨x, hx⟩ : ∃ x, x = s[j].toNat / 16 := ⟨_, rfl⟩
      obtain ⟨y, hy⟩ : ∃ y, y = s[j].toNat % 16 := ⟨_, rfl⟩
      rw [← hx, ← hy] at HE
      have hx16 : x < 16 := by omega
      have hy16 : y < 16 := by omega
      have hcx : (s[j].toNat : Int) / 16 = (x : Int) := by omega
      have hcy : (s[j].toNat : Int) % 16 = (y : Int) := by omega
      have hwx : IntKind.u8.wrap ((x : Int) + 1) = (x : Int) + 1 := by unfold IntKind.wrap; simp [IntKind.bits, IntKind.signed]; omega
      have hwy : IntKind.u8.wrap ((y : Int) + 1) = (y : Int) + 1 := by unfold IntKind.wrap; simp [IntKind.bits, IntKind.signed]; omega
      have hsx := hexsl8 x hx16
      have hsy := hexsl8 y hy16
      have zx : (bS [Z.hexc x]).size = 1 := rfl
      have zy : (bS [Z.hexc y]).size = 1 := rfl
      have HBX : Hid ((bS [Z.hexc x]).data.toList = [Z.hexc x]) := Lib.hid rfl
      have HBY : Hid ((bS [Z.hexc y]).data.toList = [Z.hexc y]) := Lib.hid rfl
      generalize bS [Z.hexc x] = sx at *
      generalize bS [Z.hexc y] = sy at *
      clear h1 h2 h3 h4 h5 hx hy
      rcases hex with g1 | ⟨g1, g2⟩
      all_goals (
        go_wp2_with fail
        go_quiet (fail)
        go_wp2_with fail
        go_roundw
        case rel => exact ⟨j + 1, _, rfl, by go_num, by omega, Lib.hid (by simp only [app7_list]; rw [HX.out, HT.out, HE.out, HBX.out, HBY.out]; simp), Lib.hid (below7_drewN HB.out _)⟩
        case measure => simp [intOf]; omega)
    · have HF : Hid (X.data.toList = 34 :: Z.escs s.data.toList) := Lib.hid (by have := HX.out; rwa [List.take_of_length_le (by rw [HL.out]; omega)] at this)
      go_wp2_with fail
      go_ret
      have e : X ++ ⟨#[34]⟩ = bS (Z.quote s.data.toList) := bS_is (by rw [app7_list, HF.out]; rfl)
      refine ⟨?_, HB.out⟩
      rw [← e]
      rfl
end Go.Proofs.YtffolfnaalijnaaDoor
