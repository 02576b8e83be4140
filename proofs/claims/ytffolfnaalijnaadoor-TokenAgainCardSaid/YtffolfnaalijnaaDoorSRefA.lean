/-
  Layer 7: the reference: keywords, classes of bytes.
-/
import Derived.Test.YtffolfnaalijnaaDoorSCodM
namespace Go.Proofs.YtffolfnaalijnaaDoor
set_option linter.unusedVariables false
open Go.RowKit

def kwCells : Array Value := (Z.keywords.map fun l => Value.string (bS l)).toArray
theorem kw_len : Z.keywords.length = 27 := rfl
theorem kw_cell {w : World} {b j : Nat} (h : w.heap[b]? = some (.cells kwCells 9 (0, 0))) (hj : j < 27) : w.cell? ⟨b, j, none⟩ = some (.string (bS (Z.keywords.getD j []))) := by
  rw [cell_of_row w b j _ _ _ h]
  have hj' : j < Z.keywords.length := by rw [kw_len]; exact hj
  simp [kwCells, List.getD, hj']

set_option maxRecDepth 100000 in
set_option maxHeartbeats 1000000 in
theorem keywords_any (w : World) :
    Calls Tryd.prog 24 #[] w fun e w' => e = .returned (.slice (some ⟨w.heap.size, 0, none⟩) 27 27) ∧ w' = w.alloc (.cells kwCells 9) := by
  go_enter Tryd.func24, Tryd.ntmps24
  go_wp2_with fail
  go_ret
  exact ⟨rfl, rfl⟩

theorem kw_no {l : List UInt8} {j : Nat} (hj : ¬ j < 27) (h : ∀ q, q < j → q < 27 → Z.keywords.getD q [] ≠ l) : Z.kw l = false := by
  unfold Z.kw
  rw [Bool.eq_false_iff]
  intro hc
  have hm : l ∈ Z.keywords := by simpa using hc
  obtain ⟨q, hq, e⟩ := List.getElem_of_mem hm
  rw [kw_len] at hq
  exact h q (by omega) hq (by simp [List.getD, show q < Z.keywords.length from hq, e])
theorem kw_yes {l : List UInt8} {j : Nat} (hj : j < 27) (h : Z.keywords.getD j [] = l) : Z.kw l = true := by
  unfold Z.kw
  have hj' : j < Z.keywords.length := hj
  have : l ∈ Z.keywords := by rw [← h]; simp [List.getD, hj']
  simpa using this
theorem bS_beq (l : List UInt8) (s : ByteArray) : ((bS l).toList == s.toList) = decide (l = s.data.toList) := by
  have h : (bS l).toList = l := by rw [ByteArray.toList_eq]; rfl
  rw [h, ByteArray.toList_eq]
  by_cases e : l = s.data.toList
  · simp [e]
  · simp [e]

set_option maxRecDepth 100000 in
set_option maxHeartbeats 2000000 in
theorem rkeyword_any (s : ByteArray) (w : World) :
    Calls Tryd.prog 15 #[.string s] w fun e w' => e = .returned (.bool (Z.kw s.data.toList)) ∧ Below w.heap.size w w' := by
  obtain ⟨B, hB⟩ : ∃ B, B = Z.kw s.data.toList := ⟨_, rfl⟩
  rw [← hB]
  have HB := Lib.hid hB
  clear hB
  go_enter Tryd.func15, Tryd.ntmps15
  go_wp2_with fail
  refine (keywords_any w).mono ?_
  rintro e w1 ⟨rfl, rfl⟩
  have hrow : (w.alloc (.cells kwCells 9)).heap[w.heap.size]? = some (.cells kwCells 9 (0, 0)) := al1_heap _ _
  have hbel : Below w.heap.size w (w.alloc (.cells kwCells 9)) := (Below.refl _ w).alloc (Nat.le_refl _) _
  have HR := Lib.hid hrow; have HBL := Lib.hid hbel
  clear hrow hbel
  generalize w.alloc (.cells kwCells 9) = w1 at *
  go_wp2_with fail
  go_loop [4, 7] (fun _ i => ∃ j : Nat, j ≤ 27 ∧ i = .int .i64 j ∧ Hid (∀ q, q < j → q < 27 → Z.keywords.getD q [] ≠ s.data.toList)) (fun _ i => 27 - (intOf i).toNat)
  case atStart => exact ⟨0, Nat.zero_le _, rfl, Lib.hid fun q hq => absurd hq (Nat.not_lt_zero _)⟩
  case round =>
    obtain ⟨j, hj, rfl, HA⟩ := hrel
    by_cases hlt : j < 27
    · have hc := kw_cell HR.out hlt
      have hbq := bS_beq (Z.keywords.getD j []) s
      obtain ⟨x, hx⟩ : ∃ x, x = Z.keywords.getD j [] := ⟨_, rfl⟩
      rw [← hx] at hc hbq
      have HX := Lib.hid hx
      have hlti : decide ((j : Int) < 27) = true := by simp; omega
      have j0 : (0 : Int) ≤ (j : Int) := by omega
      have j1 : (j : Int) < 27 := by omega
      clear hx
      obtain ⟨D, hD⟩ : ∃ D, D = decide (x = s.data.toList) := ⟨_, rfl⟩
      rw [← hD] at hbq
      have HD := Lib.hid hD
      clear hD
      cases D with
      | true =>
        go_wp2_with fail
        go_ret
        refine ⟨?_, HBL.out⟩
        have := of_decide_eq_true HD.out.symm
        rw [HB.out, kw_yes hlt (by rw [← HX.out]; exact this)]
        rfl
      | false =>
        go_wp2_with fail
        go_round
        case rel =>
          refine ⟨j + 1, hlt, by go_num, Lib.hid fun q hq h2 => ?_⟩
          rcases Nat.lt_or_ge q j with h1 | h1
          · exact HA.out q h1 h2
          · obtain rfl : q = j := by omega
            rw [← HX.out]
            exact of_decide_eq_false HD.out.symm
        case measure => simp [intOf]; omega
    · have hlti : decide ((j : Int) < 27) = false := by simp; omega
      go_wp2_with fail
      go_ret
      refine ⟨?_, HBL.out⟩
      rw [HB.out, kw_no hlt HA.out]
      rfl
end Go.Proofs.YtffolfnaalijnaaDoor
