/-
  Layer 1: the code's reader: its block in memory, and what each method does.
-/
import Derived.Test.YtkodmhopollnpaaGreatPutB
import Derived.Laws.ShiftsVarLaws
import Derived.Lib.VarintBits
namespace Go.Proofs.YtkodmhopollnpaaGreat
open Go.RowKit

theorem heap_set {w : World} {g i : Nat} {cs : Array Value} {t : TypeId} {z : Nat × Nat} (h : w.heap[g]? = some (.cells cs t z)) (u : Value) :
    (w.setCell ⟨g, i, none⟩ u).heap[g]? = some (.cells (cs.setIfInBounds i u) t z) := by
  simp [World.setCell, Array.getElem?_modify, h]
theorem heap_cell {w : World} {g i : Nat} {cs : Array Value} {t : TypeId} {z : Nat × Nat} (h : w.heap[g]? = some (.cells cs t z)) : w.cell? ⟨g, i, none⟩ = cs[i]? := cell_of_row w g i cs t z h
theorem heap_free {w : World} {g i : Nat} {cs : Array Value} {t : TypeId} (h : w.heap[g]? = some (.cells cs t (0, 0))) : w.frozen? ⟨g, i, none⟩ = false := by
  simp [World.frozen?, h]
theorem heap_lt {w : World} {g : Nat} {o : Obj} (h : w.heap[g]? = some o) : g < w.heap.size := by
  rcases Nat.lt_or_ge g w.heap.size with hlt | hge
  · exact hlt
  · rw [Array.getElem?_eq_none hge] at h; cases h
/-- Only block g, and what is new, has changed. -/
theorem only_refl (w : World) (g : Nat) : w.grownBy w (some g) := World.grownBy.refl w _
theorem only_set {w w' : World} {g i : Nat} (h : w.grownBy w' (some g)) (u : Value) : w.grownBy (w'.setCell ⟨g, i, none⟩ u) (some g) :=
  ⟨h.os, h.tape, h.output, by simpa [World.setCell] using h.size, fun k hk hne => (Below.heap_setCell w' ⟨g, i, none⟩ u k (fun e => hne (by rw [e]))).trans (h.block k hk hne)⟩
theorem only_trans {a b c : World} {g : Nat} (h : a.grownBy b (some g)) (k : b.grownBy c (some g)) : a.grownBy c (some g) :=
  ⟨k.os.trans h.os, k.tape.trans h.tape, k.output.trans h.output, Nat.le_trans h.size k.size, fun i hi hne => (k.block i (Nat.lt_of_lt_of_le hi h.size) hne).trans (h.block i hi hne)⟩
theorem only_drewN {a w : World} {g : Nat} (h : a.grownBy w (some g)) (n : Nat) : a.grownBy (w.drewN n) (some g) := ⟨h.os, h.tape, h.output, h.size, h.block⟩
theorem only_below {a w : World} {g : Nat} (h : a.grownBy w (some g)) {B : Nat} (hB : B ≤ g) (hs : B ≤ a.heap.size) : Below B a w :=
  ⟨h.os, h.tape, h.output, h.size, fun k hk => h.block k (by omega) (fun e => by injection e; omega)⟩

/-- The reader in block g: what is left, and the error. -/
structure Rd (w : World) (lo g : Nat) (s : M.St) (A : Option Addr) (n c : Nat) : Prop where
  blk : w.heap[g]? = some (.cells #[.slice A n c, .int .i64 s.e, .bool true] 53 (0, 0))
  low : lo ≤ g
  live : s.e = 0 → RB w lo g A n c s.l
  dead : s.e ≠ 0 → s.l = []

section
variable {w w' : World} {lo g n c : Nat} {s : M.St} {A : Option Addr}
theorem Rd.kept (h : Rd w lo g s A n c) (k : Kept lo (g + 1) w w') : Rd w' lo g s A n c :=
  ⟨(k g h.low (by omega)).trans h.blk, h.low, fun e => (h.live e).kept fun b h1 h2 => k b h1 (by omega), h.dead⟩
theorem Rd.err (h : Rd w lo g s A n c) {e : Int} (hne : e ≠ 0) : Rd (w.setCell ⟨g, 1, none⟩ (.int .i64 e)) lo g ⟨[], e⟩ A n c :=
  ⟨by rw [heap_set h.blk]; rfl, h.low, fun he => absurd he hne, fun _ => rfl⟩
end

set_option maxHeartbeats 400000 in
theorem err_any {w : World} {lo g n c : Nat} {s : M.St} {A : Option Addr} (h : Rd w lo g s A n c) :
    Calls Tryz.prog 11 #[.pointer (some ⟨g, 0, none⟩)] w fun e w' => e = .returned (.int .i64 s.e) ∧ w = w' := by
  have c1 : w.cell? ⟨g, 1, none⟩ = some (.int .i64 s.e) := heap_cell h.blk
  have c2 : w.cell? ⟨g, 2, none⟩ = some (.bool true) := heap_cell h.blk
  go_enter Tryz.func11, Tryz.ntmps11
  go_wp2
  go_ret
  exact ⟨rfl, rfl⟩

set_option maxHeartbeats 400000 in
theorem fail_any {w : World} {lo g n c : Nat} {s : M.St} {A : Option Addr} (x : Int) (h : Rd w lo g s A n c) :
    Calls Tryz.prog 76 #[.pointer (some ⟨g, 0, none⟩), .int .i64 x] w fun e w' => e = .returned (.tuple #[]) ∧ Rd w' lo g (s.fail x) A n c ∧ w.grownBy w' (some g) := by
  have hf : w.frozen? ⟨g, 1, none⟩ = false := heap_free h.blk
  have c1 : w.cell? ⟨g, 1, none⟩ = some (.int .i64 s.e) := heap_cell h.blk
  by_cases h0 : s.e = 0
  · have hb : (s.e == 0) = true := by rw [beq_iff_eq]; exact h0
    have H0 := Lib.hid h0
    clear h0
    go_enter Tryz.func76, Tryz.ntmps76
    go_wp2_with (go_at_call 11; refine (err_any h).mono ?_; rintro e w' ⟨rfl, rfl⟩)
    go_end0
    refine ⟨rfl, ?_, only_set (only_refl _ _) _⟩
    by_cases hx : x = 0
    · subst hx
      rw [M.St.fail_zero]
      exact ⟨by rw [heap_set h.blk]; rw [H0.out]; rfl, h.low, fun e => (h.live e).setCell (.inr (Nat.le_refl _)) _, h.dead⟩
    · rw [M.St.fail_live H0.out hx]
      exact h.err hx
  · have hb : (s.e == 0) = false := by rw [beq_eq_false_iff_ne]; exact h0
    have H0 := Lib.hid h0
    clear h0
    go_enter Tryz.func76, Tryz.ntmps76
    go_wp2_with (go_at_call 11; refine (err_any h).mono ?_; rintro e w' ⟨rfl, rfl⟩)
    go_end0
    refine ⟨rfl, ?_, only_refl _ _⟩
    rw [M.St.fail_dead H0.out]
    exact h

set_option maxHeartbeats 400000 in
theorem take_any {w : World} {lo g n c : Nat} {s : M.St} {A : Option Addr} {k : Nat} (hR : Rd w lo g s A n c) (h0 : s.e = 0) (hk : k ≤ n) :
    Calls Tryz.prog 96 #[.pointer (some ⟨g, 0, none⟩), .int .i64 k] w fun e w' => e = .returned (.slice A k c) ∧
      (∃ A', Rd w' lo g ⟨s.l.drop k, 0⟩ A' (n - k) (c - k)) ∧ w.grownBy w' (some g) ∧ RB w' lo g A k c (s.l.take k) := by
  have hf : w.frozen? ⟨g, 0, none⟩ = false := heap_free hR.blk
  have c0 : w.cell? ⟨g, 0, none⟩ = some (.slice A n c) := heap_cell hR.blk
  have hr := hR.live h0
  have hcap := hr.cap
  have hmx := hr.most
  unfold maxLen at hmx
  have H0 := Lib.hid h0
  clear h0
  go_enter Tryz.func96, Tryz.ntmps96
  go_wp2
  · subst h
    go_ret
    refine ⟨rfl, ⟨A, by rw [heap_set hR.blk, H0.out]; rfl, hR.low, fun _ => ?_, fun e => absurd rfl e⟩, only_set (only_refl _ _) _, (hr.front hk).setCell (.inr (Nat.le_refl _)) _⟩
    have hc := (hr.cut hk (A' := A) (fun e => absurd rfl e) (fun _ => by omega)).setCell (p := ⟨g, 0, none⟩) (.inr (Nat.le_refl _)) (.slice A (n - c) 0)
    rw [Nat.sub_self] at hc
    exact hc
  · go_ret
    refine ⟨rfl, ⟨_, by rw [heap_set hR.blk, H0.out]; rfl, hR.low, fun _ => ?_, fun e => absurd rfl e⟩, only_set (only_refl _ _) _, (hr.front hk).setCell (.inr (Nat.le_refl _)) _⟩
    exact (hr.cut hk (A' := A.map fun x => x.add k) (fun _ => rfl) (fun e => by rw [Option.map_eq_none_iff] at e; have := hr.nil e; omega)).setCell (p := ⟨g, 0, none⟩) (.inr (Nat.le_refl _)) _

theorem tup_cnt {p : Nat × Int} {k : Nat} {e a : Int} (h : p = (k, e)) (ha : a = (k : Int)) : Ending.returned (.tuple #[.int .i64 a, .int .i64 e]) = .returned (.tuple #[.int .i64 (p.1 : Int), .int .i64 p.2]) := by
  subst h; subst ha; rfl

theorem tup_cnt1 {p : Nat × Int} {k : Nat} {e : Int} (h : p = (k + 1, e)) : Ending.returned (.tuple #[.int .i64 ((k : Int) + 1), .int .i64 e]) = .returned (.tuple #[.int .i64 (p.1 : Int), .int .i64 p.2]) :=
  tup_cnt h (by omega)

set_option maxHeartbeats 1000000 in
set_option maxRecDepth 100000 in
theorem intLength_any {w : World} {lo hi n c : Nat} {l : List UInt8} {A : Option Addr} (h : RB w lo hi A n c l) :
    Calls Tryz.prog 94 #[.slice A n c] w fun e w' => e = .returned (.tuple #[.int .i64 (M.cnt l).1, .int .i64 (M.cnt l).2]) ∧ w = w' := by
  have hl := h.len
  have hcap := h.cap
  have hmx := h.most
  unfold maxLen at hmx
  by_cases h10 : n ≤ 10
  · have hmin : min (n : Int) 10 = n := by omega
    go_enter Tryz.func94, Tryz.ntmps94
    go_wp2
    go_loop [14] (fun i => ∃ k : Nat, i = .int .i64 k ∧ k ≤ n ∧ Hid (M.cnt l = M.cntAt k (l.drop k))) (fun i => n - (intOf i).toNat)
    case atStart => exact ⟨0, rfl, by omega, Lib.hid rfl⟩
    case round =>
      obtain ⟨k, rfl, hk, HE⟩ := hrel
      by_cases hlt : k < n
      · obtain ⟨b, off, rfl, _, _, hc⟩ := h.at_ (by omega)
        have g1 := hc k (by omega)
        have hx : (l.getD k 0).toNat < 256 := (l.getD k 0).toNat_lt
        have HC := Lib.hid hc
        clear hc
        obtain ⟨X, hX⟩ : ∃ X, X = (l.getD k 0).toNat := ⟨_, rfl⟩
        rw [← hX] at g1 hx
        have HX := Lib.hid hX
        clear hX
        by_cases hbig : 128 ≤ X
        · go_wp2
          go_round
          case rel => exact ⟨k + 1, by go_num, by omega, Lib.hid (HE.out.trans (M.cntAt_more (by omega) (by omega) (by rw [← HX.out]; omega)))⟩
          case measure => simp [intOf]; omega
        · have hX9 : k < 10 := by omega
          by_cases hform : (0 < k ∧ X = 0) ∨ (k = 9 ∧ 1 < X)
          · have HE3 := Lib.hid (HE.out.trans (M.cntAt_form (by omega) (by omega) (by rw [← HX.out]; omega) (by rw [← HX.out]; omega)))
            have HF := Lib.hid hform
            clear hform HE
            rcases (show k = 0 ∨ (1 ≤ k ∧ k ≤ 8) ∨ k = 9 by omega) with rfl | ⟨q, q'⟩ | rfl <;> rcases (show X = 0 ∨ X = 1 ∨ 2 ≤ X by omega) with rfl | rfl | z
            all_goals first
              | (exfalso; have := HF.out; omega)
              | (have z0 : ((X : Int) == 0) = false := (by rw [beq_eq_false_iff_ne]; omega); go_wp2; go_ret2; exact ⟨tup_cnt HE3.out rfl, rfl⟩)
              | (go_wp2; go_ret2; exact ⟨tup_cnt HE3.out rfl, rfl⟩)
          · have HE3 := Lib.hid (HE.out.trans (M.cntAt_last (by omega) (by omega) (by rw [← HX.out]; omega) (by rw [← HX.out]; omega)))
            have HF := Lib.hid hform
            clear hform HE
            rcases (show k = 0 ∨ (1 ≤ k ∧ k ≤ 8) ∨ k = 9 by omega) with rfl | ⟨q, q'⟩ | rfl <;> rcases (show X = 0 ∨ X = 1 ∨ 2 ≤ X by omega) with rfl | rfl | z
            all_goals first
              | (exfalso; have := HF.out; omega)
              | (have z0 : ((X : Int) == 0) = false := (by rw [beq_eq_false_iff_ne]; omega); (try rw [Nat.add_zero] at g1); go_wp2; go_ret2; first | exact ⟨tup_cnt1 HE3.out, rfl⟩ | exact ⟨tup_cnt HE3.out rfl, rfl⟩)
              | ((try rw [Nat.add_zero] at g1); go_wp2; go_ret2; first | exact ⟨tup_cnt1 HE3.out, rfl⟩ | exact ⟨tup_cnt HE3.out rfl, rfl⟩)
      · have HL := Lib.hid hl
        clear hl
        by_cases h11 : 10 ≤ n
        · go_wp2
          go_ret2
          have hk10 : k = 10 := by omega
          have h3 := HE.out
          rw [hk10, M.cntAt_ten] at h3
          exact ⟨tup_cnt h3 rfl, rfl⟩
        · go_wp2
          go_ret2
          have h4 := HE.out.trans (M.cntAt_short (by rw [HL.out]; omega) (by omega))
          exact ⟨tup_cnt h4 rfl, rfl⟩
  · go_enter Tryz.func94, Tryz.ntmps94
    go_wp2
    go_loop [14] (fun i => ∃ k : Nat, i = .int .i64 k ∧ k ≤ 10 ∧ Hid (M.cnt l = M.cntAt k (l.drop k))) (fun i => 10 - (intOf i).toNat)
    case atStart => exact ⟨0, rfl, by omega, Lib.hid rfl⟩
    case round =>
      obtain ⟨k, rfl, hk, HE⟩ := hrel
      by_cases hlt : k < 10
      · obtain ⟨b, off, rfl, _, _, hc⟩ := h.at_ (by omega)
        have g1 := hc k (by omega)
        have hx : (l.getD k 0).toNat < 256 := (l.getD k 0).toNat_lt
        have HC := Lib.hid hc
        clear hc
        obtain ⟨X, hX⟩ : ∃ X, X = (l.getD k 0).toNat := ⟨_, rfl⟩
        rw [← hX] at g1 hx
        have HX := Lib.hid hX
        clear hX
        by_cases hbig : 128 ≤ X
        · go_wp2
          go_round
          case rel => exact ⟨k + 1, by go_num, by omega, Lib.hid (HE.out.trans (M.cntAt_more (by omega) (by omega) (by rw [← HX.out]; omega)))⟩
          case measure => simp [intOf]; omega
        · have hX9 : k < 10 := by omega
          by_cases hform : (0 < k ∧ X = 0) ∨ (k = 9 ∧ 1 < X)
          · have HE3 := Lib.hid (HE.out.trans (M.cntAt_form (by omega) (by omega) (by rw [← HX.out]; omega) (by rw [← HX.out]; omega)))
            have HF := Lib.hid hform
            clear hform HE
            rcases (show k = 0 ∨ (1 ≤ k ∧ k ≤ 8) ∨ k = 9 by omega) with rfl | ⟨q, q'⟩ | rfl <;> rcases (show X = 0 ∨ X = 1 ∨ 2 ≤ X by omega) with rfl | rfl | z
            all_goals first
              | (exfalso; have := HF.out; omega)
              | (have z0 : ((X : Int) == 0) = false := (by rw [beq_eq_false_iff_ne]; omega); go_wp2; go_ret2; exact ⟨tup_cnt HE3.out rfl, rfl⟩)
              | (go_wp2; go_ret2; exact ⟨tup_cnt HE3.out rfl, rfl⟩)
          · have HE3 := Lib.hid (HE.out.trans (M.cntAt_last (by omega) (by omega) (by rw [← HX.out]; omega) (by rw [← HX.out]; omega)))
            have HF := Lib.hid hform
            clear hform HE
            rcases (show k = 0 ∨ (1 ≤ k ∧ k ≤ 8) ∨ k = 9 by omega) with rfl | ⟨q, q'⟩ | rfl <;> rcases (show X = 0 ∨ X = 1 ∨ 2 ≤ X by omega) with rfl | rfl | z
            all_goals first
              | (exfalso; have := HF.out; omega)
              | (have z0 : ((X : Int) == 0) = false := (by rw [beq_eq_false_iff_ne]; omega); (try rw [Nat.add_zero] at g1); go_wp2; go_ret2; first | exact ⟨tup_cnt1 HE3.out, rfl⟩ | exact ⟨tup_cnt HE3.out rfl, rfl⟩)
              | ((try rw [Nat.add_zero] at g1); go_wp2; go_ret2; first | exact ⟨tup_cnt1 HE3.out, rfl⟩ | exact ⟨tup_cnt HE3.out rfl, rfl⟩)
      · have HL := Lib.hid hl
        clear hl
        go_wp2
        go_ret2
        have hk10 : k = 10 := by omega
        have h3 := HE.out
        rw [hk10, M.cntAt_ten] at h3
        exact ⟨tup_cnt h3 rfl, rfl⟩
end Go.Proofs.YtkodmhopollnpaaGreat
