/-
  Layer 5: the examples of the chapter; the laws.
-/
import Derived.Test.YthfpggeflokgfaaKCodC
import Derived.Deep.RegionHeld3
import Derived.ProofKit
import Derived.OpenShut
import Derived.WideShapes
namespace Go.Proofs.Ythfpggeflokgfaa
open Go.RowKit

theorem RB.slash (w : World) : RB (w.alloc (.cells #[.int .u8 47] 5 (1, 2))) w.heap.size (w.heap.size + 1) (some ⟨w.heap.size, 0, none⟩) 1 1 (seedS (ByteArray.mk #[]) (ByteArray.mk #[])).data.toList := by
  refine ⟨rfl, Nat.le_refl _, (by unfold maxLen; omega), (fun e => by cases e), fun _ => ⟨w.heap.size, 0, rfl, Nat.le_refl _, by omega, fun j hj => ?_⟩⟩
  rw [heap_cell (heap_alloc_new w _)]
  match j, hj with
  | 0, _ => rfl

theorem ex_below : blw 3 4 1 = 0 := by unfold blw; rw [if_neg (by omega)]; omega
theorem ex_jit1 : jit 1 2 50 0 = 50 := by
  rw [jit_yes (by unfold Vary; omega)]
  have : blw 1 2 (2 * 0 + 1) = 0 := by unfold blw; rw [if_neg (by omega)]; omega
  rw [this]; decide
theorem ex_jit2 : jit 1 2 (-5) 10 = -5 := jit_no (by unfold Vary; omega)

set_option maxHeartbeats 1000000 in
set_option maxRecDepth 100000 in
theorem works_any (w : World) :
    Calls Try.prog 11 #[] w fun e w' => e = .returned (.bool true) ∧ Below w.heap.size w w' := by
  have kc := fun (w : World) (C : Array Value) (n c : Nat) => Lib.run_convert_bytes_const (P := Try.prog) w 32 5 C n c Try.underlying32 Try.underlying5
  go_enter Try.func11, Try.ntmps11
  go_wp2_with fail
  refine (below_any _ _ _ _).mono ?_
  rintro e w' ⟨rfl, rfl⟩
  rw [ex_below]
  go_wp2_with fail
  refine (jitter_any _ _ _ _ _).mono ?_
  rintro e w' ⟨rfl, rfl⟩
  rw [ex_jit1]
  go_wp2_with fail
  refine (jitter_any _ _ _ _ _).mono ?_
  rintro e w' ⟨rfl, rfl⟩
  rw [ex_jit2]
  go_wp2_with fail
  refine (seed_any _ _ _ (by simp [ByteArray.size]) (by simp [ByteArray.size])).mono ?_
  rintro e w' ⟨rfl, rfl⟩
  obtain ⟨F, hF⟩ : ∃ F : Int, F = (M.fnv (seedS (ByteArray.mk #[]) (ByteArray.mk #[])).data.toList : Int) := ⟨_, rfl⟩
  rw [← hF]
  have HF := Lib.hid hF
  clear hF
  go_wp2_with fail
  refine (rfnv5_any (RB.slash _)).mono ?_
  rintro e w' ⟨rfl, rfl⟩
  rw [← HF.out]
  go_wp2_with fail
  refine (draw_any _ _ _).mono ?_
  rintro e w' ⟨rfl, rfl⟩
  obtain ⟨D, hD⟩ : ∃ D : Int, D = (M.mix 1 2 : Int) := ⟨_, rfl⟩
  rw [← hD]
  have HD := Lib.hid hD
  clear hD
  go_wp2_with fail
  refine (rdraw_any _ _ _).mono ?_
  rintro e w2 ⟨rfl, hb2⟩
  rw [← HD.out]
  go_wp2_with fail
  go_ret
  exact ⟨rfl, ((Below.refl _ _).alloc (Nat.le_refl _) _).trans (hb2.mono (by simp))⟩

set_option maxHeartbeats 1000000 in
theorem drawNumbersW (a b n : Int) (w : World) :
    Calls Try.prog 3 #[.int .i64 a, .int .i64 b, .int .i64 n] w fun e w' => e = .returned (.bool true) ∧ Below w.heap.size w w' := by
  obtain ⟨m, hm⟩ : ∃ m : Int, m = (M.mix a b : Int) := ⟨_, rfl⟩
  obtain ⟨k, hk⟩ : ∃ k : Int, k = blw a b n := ⟨_, rfl⟩
  have HM := Lib.hid hm
  have HK := Lib.hid hk
  clear hm hk
  go_enter Try.func3, Try.ntmps3
  go_wp2_with fail
  refine (draw_any _ _ _).mono ?_
  rintro e w' ⟨rfl, rfl⟩
  rw [← HM.out]
  go_wp2_with fail
  refine (rdraw_any _ _ _).mono ?_
  rintro e w1 ⟨rfl, hb1⟩
  rw [← HM.out]
  go_wp2_with fail
  refine (below_any _ _ _ _).mono ?_
  rintro e w' ⟨rfl, rfl⟩
  rw [← HK.out]
  go_wp2_with fail
  refine (rbelow_any _ _ _ _).mono ?_
  rintro e w2 ⟨rfl, hb2⟩
  rw [← HK.out]
  go_wp2_with fail
  refine (works_any _).mono ?_
  rintro e w3 ⟨rfl, hb3⟩
  go_wp2_with fail
  go_ret
  exact ⟨rfl, (hb1.trans (hb2.mono hb1.size)).trans (hb3.mono (Nat.le_trans hb1.size hb2.size))⟩

set_option maxHeartbeats 1000000 in
theorem drawSeedsW (s t : ByteArray) (w : World) (hs : s.size ≤ maxLen) (ht : t.size ≤ maxLen) :
    Calls Try.prog 6 #[.string s, .string t] w fun e w' => e = .returned (.bool true) ∧ Below w.heap.size w w' := by
  unfold maxLen at hs ht
  by_cases h : s.size ≤ 200
  · by_cases h2 : t.size ≤ 200
    · obtain ⟨F, hF⟩ : ∃ F : Int, F = (M.fnv (seedS s t).data.toList : Int) := ⟨_, rfl⟩
      have HF := Lib.hid hF
      clear hF
      go_enter Try.func6, Try.ntmps6
      go_wp2_with fail
      refine (seed_any _ _ _ h h2).mono ?_
      rintro e w' ⟨rfl, rfl⟩
      rw [← HF.out]
      go_wp2_with fail
      refine (rseed_any _ _ _ h h2).mono ?_
      rintro e w1 ⟨rfl, hb1⟩
      rw [← HF.out]
      go_wp2_with fail
      refine (works_any _).mono ?_
      rintro e w3 ⟨rfl, hb3⟩
      go_wp2_with fail
      go_ret
      exact ⟨rfl, hb1.trans (hb3.mono hb1.size)⟩
    · go_enter Try.func6, Try.ntmps6
      go_wp2_with fail
      refine (works_any _).mono ?_
      rintro e w1 ⟨rfl, hb⟩
      go_wp2_with fail
      go_ret
      exact ⟨rfl, hb⟩
  · go_enter Try.func6, Try.ntmps6
    go_wp2_with fail
    refine (works_any _).mono ?_
    rintro e w1 ⟨rfl, hb⟩
    go_wp2_with fail
    go_ret
    exact ⟨rfl, hb⟩
end Go.Proofs.Ythfpggeflokgfaa
