/-
  Layer 7: the reference's Spell.
-/
import Derived.Test.YtffolfnaalijnaaDoorSRefP
import Derived.Test.YtffolfnaalijnaaDoorSSpl
namespace Go.Proofs.YtffolfnaalijnaaDoor
set_option linter.unusedVariables false
open Go.RowKit

theorem bS_app (a b : List UInt8) : bS a ++ bS b = bS (a ++ b) := bS_is (by rw [app7_list]; rfl)
set_option maxRecDepth 100000 in
set_option maxHeartbeats 8000000 in
theorem rspell_any {w : World} {lo hi n c : Nat} {A : Option Addr} {l : List Z.Tok} (h : TR w lo hi A n c l) (hhi : hi ≤ w.heap.size) (hf : Z.Fits 100000 l) (hn : n ≤ 100000) :
    Calls Tryd.prog 17 #[.slice A n c] w fun e w' => e = .returned (.string (bS (Z.spell l))) ∧ Below w.heap.size w w' := by
  have hl := h.len
  have HL := Lib.hid hl
  have HH := Lib.hid h
  have HF := Lib.hid hf
  have HHI := Lib.hid hhi
  have HSL : Hid (∀ j, (Z.spell (l.take j)).length ≤ 40002200000) := Lib.hid fun j => Nat.le_trans (Z.spell_take_len hf) (by rw [hl]; omega)
  clear h hf hhi hl
  go_enter Tryd.func17, Tryd.ntmps17
  go_wp2_with fail
  go_loopw [3, 4, 6, 7, 10] (fun x f _ _ i wr => ∃ j : Nat, j ≤ n ∧ x = .string (bS (Z.spell (l.take j))) ∧ f = .bool (decide (Z.spells (l.take j) = [])) ∧ i = .int .i64 j ∧ Hid (Below w.heap.size w wr)) (fun _ _ _ _ i _ => n - (intOf i).toNat)
  case atStart => exact ⟨0, Nat.zero_le _, rfl, by simp [Z.spells], rfl, Lib.hid (Below.refl _ _)⟩
  case round =>
    obtain ⟨j, hj, rfl, rfl, rfl, HB⟩ := hrel
    by_cases hlt : j < n
    · have hjl : j < l.length := by rw [HL.out]; exact hlt
      have hTR := HH.out.below HB.out HHI.out
      obtain ⟨b, off, rfl, _, hbh, hc⟩ := hTR.at_ (by omega)
      obtain ⟨c0, c1, c2, c3⟩ := hc j hlt
      obtain ⟨hz, hv0, hv1⟩ := HF.out.at_ hjl
      obtain ⟨t, ht⟩ : ∃ t, t = l.getD j default := ⟨_, rfl⟩
      rw [← ht] at c0 c1 c2 c3 hz hv0 hv1
      have HT := Lib.hid ht
      have HJL := Lib.hid hjl
      clear hc hTR ht hjl
      obtain ⟨k, p, tx, v⟩ := t
      simp only at c0 c1 c2 c3 hz hv0 hv1
      obtain ⟨T, hT⟩ : ∃ T, T = bS tx := ⟨_, rfl⟩
      rw [← hT] at c2
      have zT : T.size ≤ 100000 := by rw [hT, bS_size]; exact hz
      have HTT := Lib.hid hT
      clear hT hz
      obtain ⟨O, hO⟩ : ∃ O, O = bS (Z.spell (l.take j)) := ⟨_, rfl⟩
      have zO : O.size ≤ 40002200000 := by rw [hO, bS_size]; exact HSL.out j
      rw [← hO]
      have HO := Lib.hid hO
      clear hO
      obtain ⟨F, hF⟩ : ∃ F, F = decide (Z.spells (l.take j) = []) := ⟨_, rfl⟩
      rw [← hF]
      have HFF := Lib.hid hF
      clear hF
      have j0 : (0 : Int) ≤ (j : Int) := by omega
      have j1 : (j : Int) < (n : Int) := by omega
      have hji : decide ((j : Int) < (n : Int)) = true := by simp; omega
      have HB1 := Lib.hid (HB.out.alloc HB.out.size (.cells #[.int .i64 k, .int .i64 p, .string T, .int .i64 v] 30))
      obtain ⟨⟨r0, r1, r2, r3⟩, t0, t1, t2, t3⟩ := row4_cells (al1_heap wr (.cells #[.int .i64 k, .int .i64 p, .string T, .int .i64 v] 30))
      have HS1 : Hid (Z.spell1 (l.getD j default) = if k = 1 ∨ k = 2 ∨ k = 5 then some tx else if k = 3 then some (Lib.itoa v) else if k = 4 then some (Z.quote tx) else none) := Lib.hid (by rw [← HT.out]; rfl)
      by_cases hk0 : k = 1
      · have HS : Hid (Z.spell1 (l.getD j default) = some tx) := Lib.hid (by rw [HS1.out, if_pos (by omega)])
        have e1 : ((k : Int) == 1) = true := by rw [beq_iff_eq]; omega
        clear hk0
        cases F with
        | true =>
          have h0 : Z.spells (l.take j) = [] := of_decide_eq_true HFF.out.symm
          have HE : Hid (O ++ T = bS (Z.spell (l.take (j + 1)))) := Lib.hid (by rw [Z.spell_first HJL.out HS.out h0, HO.out, HTT.out, bS_app])
          have HM : Hid (decide (Z.spells (l.take (j + 1)) = []) = false) := Lib.hid (decide_eq_false (Z.spells_more HJL.out HS.out))
          clear h0
          go_wp2_with fail
          go_roundw
          case rel => exact ⟨j + 1, hlt, by rw [← HE.out], by rw [HM.out], by go_num, HB1⟩
          case measure => simp [intOf]; omega
        | false =>
          have h0 : Z.spells (l.take j) ≠ [] := of_decide_eq_false HFF.out.symm
          have HE : Hid (O ++ ⟨#[32]⟩ ++ T = bS (Z.spell (l.take (j + 1)))) := Lib.hid (by rw [Z.spell_next HJL.out HS.out h0, HO.out, HTT.out, show (⟨#[32]⟩ : ByteArray) = bS [32] from rfl, bS_app, bS_app])
          have HM : Hid (decide (Z.spells (l.take (j + 1)) = []) = false) := Lib.hid (decide_eq_false (Z.spells_more HJL.out HS.out))
          clear h0
          go_wp2_with fail
          go_roundw
          case rel => exact ⟨j + 1, hlt, by rw [← HE.out], by rw [HM.out], by go_num, HB1⟩
          case measure => simp [intOf]; omega
      by_cases hk1 : k = 2
      · have HS : Hid (Z.spell1 (l.getD j default) = some tx) := Lib.hid (by rw [HS1.out, if_pos (by omega)])
        have e1 : ((k : Int) == 1) = false := by rw [beq_eq_false_iff_ne]; omega
        have e2 : ((k : Int) == 2) = true := by rw [beq_iff_eq]; omega
        clear hk0 hk1
        cases F with
        | true =>
          have h0 : Z.spells (l.take j) = [] := of_decide_eq_true HFF.out.symm
          have HE : Hid (O ++ T = bS (Z.spell (l.take (j + 1)))) := Lib.hid (by rw [Z.spell_first HJL.out HS.out h0, HO.out, HTT.out, bS_app])
          have HM : Hid (decide (Z.spells (l.take (j + 1)) = []) = false) := Lib.hid (decide_eq_false (Z.spells_more HJL.out HS.out))
          clear h0
          go_wp2_with fail
          go_roundw
          case rel => exact ⟨j + 1, hlt, by rw [← HE.out], by rw [HM.out], by go_num, HB1⟩
          case measure => simp [intOf]; omega
        | false =>
          have h0 : Z.spells (l.take j) ≠ [] := of_decide_eq_false HFF.out.symm
          have HE : Hid (O ++ ⟨#[32]⟩ ++ T = bS (Z.spell (l.take (j + 1)))) := Lib.hid (by rw [Z.spell_next HJL.out HS.out h0, HO.out, HTT.out, show (⟨#[32]⟩ : ByteArray) = bS [32] from rfl, bS_app, bS_app])
          have HM : Hid (decide (Z.spells (l.take (j + 1)) = []) = false) := Lib.hid (decide_eq_false (Z.spells_more HJL.out HS.out))
          clear h0
          go_wp2_with fail
          go_roundw
          case rel => exact ⟨j + 1, hlt, by rw [← HE.out], by rw [HM.out], by go_num, HB1⟩
          case measure => simp [intOf]; omega
      by_cases hk2 : k = 5
      · have HS : Hid (Z.spell1 (l.getD j default) = some tx) := Lib.hid (by rw [HS1.out, if_pos (by omega)])
        have e1 : ((k : Int) == 1) = false := by rw [beq_eq_false_iff_ne]; omega
        have e2 : ((k : Int) == 2) = false := by rw [beq_eq_false_iff_ne]; omega
        have e5 : ((k : Int) == 5) = true := by rw [beq_iff_eq]; omega
        clear hk0 hk1 hk2
        cases F with
        | true =>
          have h0 : Z.spells (l.take j) = [] := of_decide_eq_true HFF.out.symm
          have HE : Hid (O ++ T = bS (Z.spell (l.take (j + 1)))) := Lib.hid (by rw [Z.spell_first HJL.out HS.out h0, HO.out, HTT.out, bS_app])
          have HM : Hid (decide (Z.spells (l.take (j + 1)) = []) = false) := Lib.hid (decide_eq_false (Z.spells_more HJL.out HS.out))
          clear h0
          go_wp2_with fail
          go_roundw
          case rel => exact ⟨j + 1, hlt, by rw [← HE.out], by rw [HM.out], by go_num, HB1⟩
          case measure => simp [intOf]; omega
        | false =>
          have h0 : Z.spells (l.take j) ≠ [] := of_decide_eq_false HFF.out.symm
          have HE : Hid (O ++ ⟨#[32]⟩ ++ T = bS (Z.spell (l.take (j + 1)))) := Lib.hid (by rw [Z.spell_next HJL.out HS.out h0, HO.out, HTT.out, show (⟨#[32]⟩ : ByteArray) = bS [32] from rfl, bS_app, bS_app])
          have HM : Hid (decide (Z.spells (l.take (j + 1)) = []) = false) := Lib.hid (decide_eq_false (Z.spells_more HJL.out HS.out))
          clear h0
          go_wp2_with fail
          go_roundw
          case rel => exact ⟨j + 1, hlt, by rw [← HE.out], by rw [HM.out], by go_num, HB1⟩
          case measure => simp [intOf]; omega
      by_cases hk3 : k = 3
      · have HS : Hid (Z.spell1 (l.getD j default) = some (Lib.itoa v)) := Lib.hid (by rw [HS1.out, if_neg (by omega), if_pos hk3])
        have e1 : ((k : Int) == 1) = false := by rw [beq_eq_false_iff_ne]; omega
        have e2 : ((k : Int) == 2) = false := by rw [beq_eq_false_iff_ne]; omega
        have e5 : ((k : Int) == 5) = false := by rw [beq_eq_false_iff_ne]; omega
        have e3 : ((k : Int) == 3) = true := by rw [beq_iff_eq]; omega
        clear hk0 hk1 hk2 hk3
        have hlen := Lib.itoa_length_le v hv0 hv1
        obtain ⟨X, hX⟩ : ∃ X, X = bS (Lib.itoa v) := ⟨_, rfl⟩
        have zX : X.size ≤ 21 := by rw [hX, bS_size]; exact hlen
        have HX := Lib.hid hX
        have HC : Hid (∀ w, Calls Tryd.prog 27 #[.int .i64 v] w fun e w' => e = .returned (.string X) ∧ w' = w) := Lib.hid fun w => by rw [hX]; exact rdecimal_any v w hv0 hv1
        clear hX hlen
        cases F with
        | true =>
          have h0 : Z.spells (l.take j) = [] := of_decide_eq_true HFF.out.symm
          have HE : Hid (O ++ X = bS (Z.spell (l.take (j + 1)))) := Lib.hid (by rw [Z.spell_first HJL.out HS.out h0, HO.out, HX.out, bS_app])
          have HM : Hid (decide (Z.spells (l.take (j + 1)) = []) = false) := Lib.hid (decide_eq_false (Z.spells_more HJL.out HS.out))
          clear h0
          go_wp2_with fail
          refine (HC.out _).mono ?_
          rintro e w2 ⟨rfl, rfl⟩
          go_wp2_with fail
          go_roundw
          case rel => exact ⟨j + 1, hlt, by rw [← HE.out], by rw [HM.out], by go_num, HB1⟩
          case measure => simp [intOf]; omega
        | false =>
          have h0 : Z.spells (l.take j) ≠ [] := of_decide_eq_false HFF.out.symm
          have HE : Hid (O ++ ⟨#[32]⟩ ++ X = bS (Z.spell (l.take (j + 1)))) := Lib.hid (by rw [Z.spell_next HJL.out HS.out h0, HO.out, HX.out, show (⟨#[32]⟩ : ByteArray) = bS [32] from rfl, bS_app, bS_app])
          have HM : Hid (decide (Z.spells (l.take (j + 1)) = []) = false) := Lib.hid (decide_eq_false (Z.spells_more HJL.out HS.out))
          clear h0
          go_wp2_with fail
          refine (HC.out _).mono ?_
          rintro e w2 ⟨rfl, rfl⟩
          go_wp2_with fail
          go_roundw
          case rel => exact ⟨j + 1, hlt, by rw [← HE.out], by rw [HM.out], by go_num, HB1⟩
          case measure => simp [intOf]; omega
      by_cases hk4 : k = 4
      · have HS : Hid (Z.spell1 (l.getD j default) = some (Z.quote tx)) := Lib.hid (by rw [HS1.out, if_neg (by omega), if_neg hk3, if_pos hk4])
        have e1 : ((k : Int) == 1) = false := by rw [beq_eq_false_iff_ne]; omega
        have e2 : ((k : Int) == 2) = false := by rw [beq_eq_false_iff_ne]; omega
        have e5 : ((k : Int) == 5) = false := by rw [beq_eq_false_iff_ne]; omega
        have e3 : ((k : Int) == 3) = false := by rw [beq_eq_false_iff_ne]; omega
        have e4 : ((k : Int) == 4) = true := by rw [beq_iff_eq]; omega
        clear hk0 hk1 hk2 hk3 hk4
        have hlen := Z.quote_len tx
        obtain ⟨X, hX⟩ : ∃ X, X = bS (Z.quote tx) := ⟨_, rfl⟩
        have zX : X.size ≤ 400002 := by
          rw [hX, bS_size]
          have e : T.size = tx.length := by rw [HTT.out, bS_size]
          omega
        have HX := Lib.hid hX
        have HC : Hid (∀ w : World, Calls Tryd.prog 19 #[.string T] w fun e w' => e = .returned (.string X) ∧ Below w.heap.size w w') := Lib.hid fun w => by
          have := rquote7_any T w (by omega)
          rw [show T.data.toList = tx by rw [HTT.out]; rfl] at this
          rw [hX]; exact this
        clear hX hlen
        cases F with
        | true =>
          have h0 : Z.spells (l.take j) = [] := of_decide_eq_true HFF.out.symm
          have HE : Hid (O ++ X = bS (Z.spell (l.take (j + 1)))) := Lib.hid (by rw [Z.spell_first HJL.out HS.out h0, HO.out, HX.out, bS_app])
          have HM : Hid (decide (Z.spells (l.take (j + 1)) = []) = false) := Lib.hid (decide_eq_false (Z.spells_more HJL.out HS.out))
          clear h0
          go_wp2_with fail
          refine (HC.out _).mono ?_
          rintro e w2 ⟨rfl, hb2⟩
          have HB2 := Lib.hid (HB1.out.trans (hb2.mono HB1.out.size))
          clear hb2
          go_wp2_with fail
          go_roundw
          case rel => exact ⟨j + 1, hlt, by rw [← HE.out], by rw [HM.out], by go_num, HB2⟩
          case measure => simp [intOf]; omega
        | false =>
          have h0 : Z.spells (l.take j) ≠ [] := of_decide_eq_false HFF.out.symm
          have HE : Hid (O ++ ⟨#[32]⟩ ++ X = bS (Z.spell (l.take (j + 1)))) := Lib.hid (by rw [Z.spell_next HJL.out HS.out h0, HO.out, HX.out, show (⟨#[32]⟩ : ByteArray) = bS [32] from rfl, bS_app, bS_app])
          have HM : Hid (decide (Z.spells (l.take (j + 1)) = []) = false) := Lib.hid (decide_eq_false (Z.spells_more HJL.out HS.out))
          clear h0
          go_wp2_with fail
          refine (HC.out _).mono ?_
          rintro e w2 ⟨rfl, hb2⟩
          have HB2 := Lib.hid (HB1.out.trans (hb2.mono HB1.out.size))
          clear hb2
          go_wp2_with fail
          go_roundw
          case rel => exact ⟨j + 1, hlt, by rw [← HE.out], by rw [HM.out], by go_num, HB2⟩
          case measure => simp [intOf]; omega
      have HS : Hid (Z.spell1 (l.getD j default) = none) := Lib.hid (by rw [HS1.out, if_neg (by omega), if_neg hk3, if_neg hk4])
      have e1 : ((k : Int) == 1) = false := by rw [beq_eq_false_iff_ne]; omega
      have e2 : ((k : Int) == 2) = false := by rw [beq_eq_false_iff_ne]; omega
      have e5 : ((k : Int) == 5) = false := by rw [beq_eq_false_iff_ne]; omega
      have e3 : ((k : Int) == 3) = false := by rw [beq_eq_false_iff_ne]; omega
      have e4 : ((k : Int) == 4) = false := by rw [beq_eq_false_iff_ne]; omega
      clear hk0 hk1 hk2 hk3 hk4
      go_wp2_with fail
      go_roundw
      case rel => exact ⟨j + 1, hlt, by rw [Z.spell_none HJL.out HS.out, ← HO.out], by rw [Z.spell_snoc_none HJL.out HS.out, ← HFF.out], by go_num, HB1⟩
      case measure => simp [intOf]; omega
    · obtain rfl : j = n := by omega
      have hji : decide ((j : Int) < (j : Int)) = false := by simp
      have HE : Hid (l.take j = l) := Lib.hid (List.take_of_length_le (by rw [HL.out]; omega))
      go_wp2_with fail
      go_ret
      refine ⟨?_, HB.out⟩
      rw [HE.out]
      rfl
end Go.Proofs.YtffolfnaalijnaaDoor
