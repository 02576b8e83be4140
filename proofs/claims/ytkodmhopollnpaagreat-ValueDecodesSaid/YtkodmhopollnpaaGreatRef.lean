/-
  Layer 1: the reference's reader.
-/
import Derived.Test.YtkodmhopollnpaaGreatReadC
namespace Go.Proofs.YtkodmhopollnpaaGreat
open Go.RowKit

/-- The reference's reader in block g. -/
structure Rf (w : World) (lo g : Nat) (s : M.St) (A : Option Addr) (n c : Nat) : Prop where
  blk : w.heap[g]? = some (.cells #[.bool true, .slice A n c, .int .i64 s.e] 55 (0, 0))
  low : lo ≤ g
  live : RB w lo g A n c s.l
def RfX (w : World) (lo g : Nat) (s : M.St) : Prop := ∃ A n c, Rf w lo g s A n c
theorem Rf.kept {w w' : World} {lo g n c : Nat} {s : M.St} {A : Option Addr} (h : Rf w lo g s A n c) (k : Kept lo (g + 1) w w') : Rf w' lo g s A n c :=
  ⟨(k g h.low (by omega)).trans h.blk, h.low, h.live.kept fun b h1 h2 => k b h1 (by omega)⟩
theorem RfX.kept {w w' : World} {lo g : Nat} {s : M.St} (h : RfX w lo g s) (k : Kept lo (g + 1) w w') : RfX w' lo g s := by
  obtain ⟨A, n, c, h⟩ := h
  exact ⟨A, n, c, h.kept k⟩
theorem RfX.lt {w : World} {lo g : Nat} {s : M.St} (h : RfX w lo g s) : g < w.heap.size := by
  obtain ⟨A, n, c, h⟩ := h
  exact heap_lt h.blk

set_option maxHeartbeats 400000 in
theorem rErr_any {w : World} {lo g n c : Nat} {s : M.St} {A : Option Addr} (h : Rf w lo g s A n c) :
    Calls Tryz.prog 12 #[.pointer (some ⟨g, 0, none⟩)] w fun e w' => e = .returned (.int .i64 s.e) ∧ w = w' := by
  have c1 : w.cell? ⟨g, 2, none⟩ = some (.int .i64 s.e) := heap_cell h.blk
  have c2 : w.cell? ⟨g, 0, none⟩ = some (.bool true) := heap_cell h.blk
  go_enter Tryz.func12, Tryz.ntmps12
  go_wp2
  go_ret
  exact ⟨rfl, rfl⟩

set_option maxHeartbeats 400000 in
theorem stopped_any {w : World} {lo g n c : Nat} {s : M.St} {A : Option Addr} (h : Rf w lo g s A n c) :
    Calls Tryz.prog 31 #[.pointer (some ⟨g, 0, none⟩)] w fun e w' => e = .returned (.bool (!(s.e == 0))) ∧ w = w' := by
  have c1 : w.cell? ⟨g, 2, none⟩ = some (.int .i64 s.e) := heap_cell h.blk
  have c2 : w.cell? ⟨g, 0, none⟩ = some (.bool true) := heap_cell h.blk
  go_enter Tryz.func31, Tryz.ntmps31
  go_wp2
  go_ret
  exact ⟨rfl, rfl⟩

set_option maxHeartbeats 400000 in
theorem set_any {w : World} {lo g n c : Nat} {s : M.St} {A : Option Addr} (x : Int) (h : Rf w lo g s A n c) :
    Calls Tryz.prog 97 #[.pointer (some ⟨g, 0, none⟩), .int .i64 x] w fun e w' => e = .returned (.tuple #[]) ∧ RfX w' lo g ⟨[], x⟩ ∧ w.grownBy w' (some g) := by
  have c1 : w.cell? ⟨g, 2, none⟩ = some (.int .i64 s.e) := heap_cell h.blk
  have c2 : w.cell? ⟨g, 1, none⟩ = some (.slice A n c) := heap_cell h.blk
  have f1 : w.frozen? ⟨g, 1, none⟩ = false := heap_free h.blk
  have f2 : w.frozen? ⟨g, 2, none⟩ = false := heap_free h.blk
  go_enter Tryz.func97, Tryz.ntmps97
  go_wp2
  go_end0
  refine ⟨rfl, ⟨none, 0, 0, ?_, h.low, RB.nil_ _ _ _⟩, only_set (only_set (only_refl _ _) _) _⟩
  rw [heap_set (heap_set h.blk _)]; rfl

set_option maxHeartbeats 2000000 in
set_option maxRecDepth 100000 in
theorem count_any {w : World} {lo g n c : Nat} {s : M.St} {A : Option Addr} (hR : Rf w lo g s A n c) :
    Calls Tryz.prog 98 #[.pointer (some ⟨g, 0, none⟩)] w fun e w' => e = .returned (.tuple #[.int .i64 (M.cnt s.l).1, .int .i64 (M.cnt s.l).2]) ∧ w = w' := by
  obtain ⟨l, e⟩ := s
  have c0 : w.cell? ⟨g, 1, none⟩ = some (.slice A n c) := heap_cell hR.blk
  have h : RB w lo g A n c l := hR.live
  have hl := h.len
  have hcap := h.cap
  show Calls _ _ _ _ fun e w' => e = .returned (.tuple #[.int .i64 (M.cnt l).1, .int .i64 (M.cnt l).2]) ∧ w = w'
  go_enter Tryz.func98, Tryz.ntmps98
  go_wp2
  go_loop [4] (fun i => ∃ k : Nat, i = .int .i64 ((k : Int) + 1) ∧ k ≤ 10 ∧ k ≤ n ∧ Hid (M.cnt l = M.cntAt k (l.drop k))) (fun i => 20 - (intOf i).toNat)
  case atStart => exact ⟨0, rfl, by omega, by omega, Lib.hid rfl⟩
  case round =>
    obtain ⟨k, rfl, hk10, hk, HE⟩ := hrel
    by_cases h11 : k < 10
    · by_cases hlt : k < n
      · obtain ⟨b, off, rfl, _, _, hc⟩ := h.at_ (by omega)
        have g1 := hc k (by omega)
        have hx : (l.getD k 0).toNat < 256 := (l.getD k 0).toNat_lt
        have HC := Lib.hid hc
        clear hc
        obtain ⟨X, hX⟩ : ∃ X, X = (l.getD k 0).toNat := ⟨_, rfl⟩
        rw [← hX] at g1 hx
        have HX := Lib.hid hX
        clear hX
        by_cases hbig : 128 ≤ X
        · go_wp2
          go_round
          case rel => exact ⟨k + 1, by go_num, by omega, by omega, Lib.hid (HE.out.trans (M.cntAt_more (by omega) (by omega) (by rw [← HX.out]; omega)))⟩
          case measure => simp [intOf]; omega
        · by_cases hform : (0 < k ∧ X = 0) ∨ (k = 9 ∧ 1 < X)
          · have HE3 := Lib.hid (HE.out.trans (M.cntAt_form (by omega) (by omega) (by rw [← HX.out]; omega) (by rw [← HX.out]; omega)))
            have HF := Lib.hid hform
            clear hform HE
            rcases (show k = 0 ∨ (1 ≤ k ∧ k ≤ 8) ∨ k = 9 by omega) with rfl | ⟨q, q'⟩ | rfl <;> rcases (show X = 0 ∨ X = 1 ∨ 2 ≤ X by omega) with rfl | rfl | z
            all_goals first
              | (exfalso; have := HF.out; omega)
              | (have z0 : ((X : Int) == 0) = false := (by rw [beq_eq_false_iff_ne]; omega); go_wp2; go_ret2; exact ⟨tup_cnt HE3.out rfl, rfl⟩)
              | (go_wp2; go_ret2; exact ⟨tup_cnt HE3.out rfl, rfl⟩)
          · have HE3 := Lib.hid (HE.out.trans (M.cntAt_last (by omega) (by omega) (by rw [← HX.out]; omega) (by rw [← HX.out]; omega)))
            have HF := Lib.hid hform
            clear hform HE
            rcases (show k = 0 ∨ (1 ≤ k ∧ k ≤ 8) ∨ k = 9 by omega) with rfl | ⟨q, q'⟩ | rfl <;> rcases (show X = 0 ∨ X = 1 ∨ 2 ≤ X by omega) with rfl | rfl | z
            all_goals first
              | (exfalso; have := HF.out; omega)
              | (have z0 : ((X : Int) == 0) = false := (by rw [beq_eq_false_iff_ne]; omega); (try rw [Nat.add_zero] at g1); go_wp2; go_ret2; first | exact ⟨tup_cnt1 HE3.out, rfl⟩ | exact ⟨tup_cnt HE3.out rfl, rfl⟩)
              | ((try rw [Nat.add_zero] at g1); go_wp2; go_ret2; first | exact ⟨tup_cnt1 HE3.out, rfl⟩ | exact ⟨tup_cnt HE3.out rfl, rfl⟩)
      · have HL := Lib.hid hl
        clear hl
        go_wp2
        go_ret2
        have h4 := HE.out.trans (M.cntAt_short (by rw [HL.out]; omega) (by omega))
        exact ⟨tup_cnt h4 rfl, rfl⟩
    · go_wp2
      go_ret2
      have hk10 : k = 10 := by omega
      have h3 := HE.out
      rw [hk10, M.cntAt_ten] at h3
      exact ⟨tup_cnt h3 rfl, rfl⟩
end Go.Proofs.YtkodmhopollnpaaGreat
