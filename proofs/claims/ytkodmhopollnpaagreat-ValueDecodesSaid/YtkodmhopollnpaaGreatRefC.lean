/-
  Layer 1: the reference's reader: Text, Bool, Fail, End, Left, Open.
-/
import Derived.Test.YtkodmhopollnpaaGreatRefB
namespace Go.Proofs.YtkodmhopollnpaaGreat
open Go.RowKit

set_option maxHeartbeats 1000000 in
set_option maxRecDepth 100000 in
theorem rTextX {w : World} {lo g : Nat} {s : M.St} (y : Int) (h : RfX w lo g s) :
    Calls Tryz.prog 85 #[.pointer (some ⟨g, 0, none⟩), .int .i64 y] w fun e w' => e = .returned (.string (strOf (s.text y).1)) ∧ RfX w' lo g (s.text y).2 ∧ w.grownBy w' (some g) := by
  obtain ⟨N, hN⟩ : ∃ N, N = (s.int 0 y).1 := ⟨_, rfl⟩
  obtain ⟨t, ht⟩ : ∃ t, t = (s.int 0 y).2 := ⟨_, rfl⟩
  have HN := Lib.hid hN
  have HT := Lib.hid ht
  clear hN ht
  go_enter Tryz.func85, Tryz.ntmps85
  go_wp2_with fail
  refine (rIntX _ _ h).mono ?_
  rintro e w1 ⟨rfl, h1, hg1⟩
  rw [← HN.out]
  rw [← HT.out] at h1
  obtain ⟨A, n, c, hR⟩ := h1
  by_cases h0 : t.e = 0
  · obtain ⟨l, e⟩ := t
    obtain rfl : e = 0 := h0
    have hr : RB w1 lo g A n c l := hR.live
    have c0 : w1.cell? ⟨g, 1, none⟩ = some (.slice A n c) := heap_cell hR.blk
    have f0 : w1.frozen? ⟨g, 1, none⟩ = false := heap_free hR.blk
    have hN0 : 0 ≤ N := by rw [HN.out]; exact M.St.int_lo s y
    obtain ⟨N, rfl⟩ := Int.eq_ofNat_of_zero_le hN0
    have hcap := hr.cap
    have hmx := hr.most
    unfold maxLen at hmx
    go_wp2_with fail
    refine (stopped_any hR).mono ?_
    rintro e w' ⟨rfl, rfl⟩
    by_cases hgt : n < N
    · go_wp2_with fail
      refine (set_any _ hR).mono ?_
      rintro e w2 ⟨rfl, hR2, hg2⟩
      go_wp2_with fail
      go_ret
      rw [M.St.text_short HT.out HN.out rfl (by show l.length < _; rw [hr.len]; simpa using hgt)]
      exact ⟨rfl, hR2, only_trans hg1 hg2⟩
    · have hNn : N ≤ n := by omega
      have hconv := run_conv (hr.front hNn)
      have hy := M.St.text_yes HT.out HN.out rfl (by show ¬ l.length < _; rw [hr.len]; simpa using hgt)
      rw [Int.toNat_natCast] at hy
      have HY := Lib.hid hy
      clear hy
      by_cases hck : c = N
      · subst hck
        go_wp2_with fail
        go_ret
        rw [HY.out]
        exact ⟨rfl, (by have h2 := rf_cut_end hR hNn rfl; rwa [show n - c = 0 by omega] at h2), only_set hg1 _⟩
      · go_wp2_with fail
        go_ret
        rw [HY.out]
        exact ⟨rfl, rf_cut hR hNn (fun _ => rfl) (fun e => by rw [Option.map_eq_none_iff] at e; have := hr.nil e; omega), only_set hg1 _⟩
  · have hb : (t.e == 0) = false := by rw [beq_eq_false_iff_ne]; exact h0
    have H0 := Lib.hid h0
    clear h0
    go_wp2_with fail
    refine (stopped_any hR).mono ?_
    rintro e w' ⟨rfl, rfl⟩
    go_wp2_with fail
    go_ret
    rw [M.St.text_dead HT.out H0.out]
    exact ⟨rfl, ⟨_, _, _, hR⟩, hg1⟩


set_option maxHeartbeats 1000000 in
theorem rFailX {w : World} {lo g : Nat} {s : M.St} (x : Int) (h : RfX w lo g s) :
    Calls Tryz.prog 83 #[.pointer (some ⟨g, 0, none⟩), .int .i64 x] w fun e w' => e = .returned (.tuple #[]) ∧ RfX w' lo g (s.fail x) ∧ w.grownBy w' (some g) := by
  obtain ⟨A, n, c, hR⟩ := h
  by_cases h0 : s.e = 0
  · by_cases hx : x = 0
    · subst hx
      have hb : (s.e == 0) = true := by rw [beq_iff_eq]; exact h0
      clear h0
      go_enter Tryz.func83, Tryz.ntmps83
      go_wp2_with fail
      refine (stopped_any hR).mono ?_
      rintro e w' ⟨rfl, rfl⟩
      go_wp2_with fail
      go_end0
      rw [M.St.fail_zero]
      exact ⟨rfl, ⟨_, _, _, hR⟩, only_refl _ _⟩
    · have hb : (s.e == 0) = true := by rw [beq_iff_eq]; exact h0
      have hxb : (x == 0) = false := by rw [beq_eq_false_iff_ne]; exact hx
      have HF := Lib.hid (M.St.fail_live h0 hx)
      clear h0 hx
      go_enter Tryz.func83, Tryz.ntmps83
      go_wp2_with fail
      refine (stopped_any hR).mono ?_
      rintro e w' ⟨rfl, rfl⟩
      go_wp2_with fail
      refine (set_any _ hR).mono ?_
      rintro e w2 ⟨rfl, hR2, hg2⟩
      go_wp2_with fail
      go_end0
      rw [HF.out]
      exact ⟨rfl, hR2, hg2⟩
  · have hb : (s.e == 0) = false := by rw [beq_eq_false_iff_ne]; exact h0
    have H0 := Lib.hid h0
    clear h0
    go_enter Tryz.func83, Tryz.ntmps83
    go_wp2_with fail
    refine (stopped_any hR).mono ?_
    rintro e w' ⟨rfl, rfl⟩
    go_wp2_with fail
    go_end0
    rw [M.St.fail_dead H0.out]
    exact ⟨rfl, ⟨_, _, _, hR⟩, only_refl _ _⟩

theorem rErrX {w : World} {lo g : Nat} {s : M.St} (h : RfX w lo g s) :
    Calls Tryz.prog 12 #[.pointer (some ⟨g, 0, none⟩)] w fun e w' => e = .returned (.int .i64 s.e) ∧ w = w' := by
  obtain ⟨A, n, c, h⟩ := h
  exact rErr_any h

set_option maxHeartbeats 1000000 in
theorem rLeftX {w : World} {lo g : Nat} {s : M.St} (hok : s.ok) (h : RfX w lo g s) :
    Calls Tryz.prog 14 #[.pointer (some ⟨g, 0, none⟩)] w fun e w' => e = .returned (.int .i64 (s.l.length : Int)) ∧ w = w' := by
  obtain ⟨A, n, c, hR⟩ := h
  by_cases h0 : s.e = 0
  · obtain ⟨l, e⟩ := s
    obtain rfl : e = 0 := h0
    have hr : RB w lo g A n c l := hR.live
    have HL := Lib.hid hr.len
    have c0 : w.cell? ⟨g, 1, none⟩ = some (.slice A n c) := heap_cell hR.blk
    clear hok
    go_enter Tryz.func14, Tryz.ntmps14
    go_wp2_with fail
    refine (stopped_any hR).mono ?_
    rintro e w' ⟨rfl, rfl⟩
    go_wp2_with fail
    go_ret
    exact ⟨ret_int (by rw [HL.out]), rfl⟩
  · have hb : (s.e == 0) = false := by rw [beq_eq_false_iff_ne]; exact h0
    have HD := Lib.hid (hok h0)
    clear h0 hok
    go_enter Tryz.func14, Tryz.ntmps14
    go_wp2_with fail
    refine (stopped_any hR).mono ?_
    rintro e w' ⟨rfl, rfl⟩
    go_wp2_with fail
    go_ret
    exact ⟨ret_int (by rw [HD.out]; rfl), rfl⟩


set_option maxHeartbeats 1000000 in
theorem rOpenX (A : Option Addr) (n c : Nat) (l : List UInt8) (lo hi : Nat) (w : World) (h : RB w lo hi A n c l) (hhi : hi ≤ w.heap.size) (hb : n ≤ 140737488355000) :
    Calls Tryz.prog 7 #[.slice A n c] w fun e w' => ∃ g, e = .returned (.pointer (some ⟨g, 0, none⟩)) ∧ RfX w' w.heap.size g ⟨l, 0⟩ ∧ Below w.heap.size w w' := by
  go_enter Tryz.func7, Tryz.ntmps7
  go_wp2_with (at_builtin; refine wpList_append_rb rfl _ _ rfl w.heap.size _ [] rfl (OB.lit0 w) lo hi A n c l rfl (h.alloc hhi _) ?c2 ?c3 ?_)
  case c2 => simp; omega
  case c3 => simp
  intro v1 w1 ho1 hb1
  have hb2 := ((Below.refl _ _).alloc (Nat.le_refl w.heap.size) _).trans hb1
  obtain ⟨A1, n1, c1, rfl, hr1⟩ := OB.form ho1
  have HR := Lib.hid hr1
  clear ho1 hr1
  go_wp2
  go_ret
  refine ⟨_, rfl, ⟨A1, n1, c1, ?_, hb2.size, ?_⟩, hb2.alloc hb2.size _⟩
  · exact heap_alloc_new w1 _
  · exact HR.out.alloc (Nat.le_refl _) _
end Go.Proofs.YtkodmhopollnpaaGreat
