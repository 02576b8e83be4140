/-
  Layer 1: the code's reader: Text, Bool, End, Left, Open.
-/
import Derived.Test.YtkodmhopollnpaaGreatReadB
namespace Go.Proofs.YtkodmhopollnpaaGreat
open Go.RowKit

def strOf (l : List UInt8) : ByteArray := ⟨l.toArray⟩
theorem strOf_list (s : ByteArray) : strOf s.data.toList = s := rfl
set_option maxRecDepth 100000 in
theorem run_conv {w : World} {lo hi n c : Nat} {A : Option Addr} {l : List UInt8} (h : RB w lo hi A n c l) : (convert 22 9 (.slice A n c)).run Tryz.prog w = .ok (.string (strOf l)) w := by
  rcases A with _ | ad
  · obtain rfl := h.nil rfl
    obtain rfl : n = 0 := by have := h.cap; omega
    obtain rfl : l = [] := List.eq_nil_of_length_eq_zero h.len
    exact run_convert_bytes_nil w _ _ Tryz.underlying22 Tryz.underlying5 0 0 _ Tryz.underlying9
  · rcases Nat.eq_zero_or_pos n with h0 | h0
    · subst h0
      obtain rfl : l = [] := List.eq_nil_of_length_eq_zero h.len
      rw [run_convert_bytes_string w _ _ _ _ _ _ Tryz.underlying22 Tryz.underlying5 Tryz.underlying9]
      exact run_bytesToString w ad 0 c [] (by simp [loadCells, loadCellsFrom])
    · obtain ⟨b, off, e, _, _, hc⟩ := h.at_ h0
      injection e with e
      subst e
      rw [run_convert_bytes_arg w _ _ Tryz.underlying22 Tryz.underlying5 b off n c (l.map fun x => (x.toNat : Int)) (by rw [List.length_map, h.len]) ?_ _ Tryz.underlying9]
      · congr 2
        simp [strOfNums, strOf, List.map_map, Function.comp_def]
      · intro i hi
        rw [hc i hi]
        have hil : i < l.length := by rw [h.len]; exact hi
        simp [List.getD, hil]

set_option maxHeartbeats 1000000 in
set_option maxRecDepth 100000 in
theorem textX {w : World} {lo g : Nat} {s : M.St} (y : Int) (h : RdX w lo g s) :
    Calls Tryz.prog 79 #[.pointer (some ⟨g, 0, none⟩), .int .i64 y] w fun e w' => e = .returned (.string (strOf (s.text y).1)) ∧ RdX w' lo g (s.text y).2 ∧ w.grownBy w' (some g) := by
  obtain ⟨N, hN⟩ : ∃ N, N = (s.int 0 y).1 := ⟨_, rfl⟩
  obtain ⟨t, ht⟩ : ∃ t, t = (s.int 0 y).2 := ⟨_, rfl⟩
  have HN := Lib.hid hN
  have HT := Lib.hid ht
  clear hN ht
  go_enter Tryz.func79, Tryz.ntmps79
  go_wp2_with fail
  refine (intX _ _ h).mono ?_
  rintro e w1 ⟨rfl, h1, hg1⟩
  rw [← HN.out]
  rw [← HT.out] at h1
  obtain ⟨A, n, c, hR⟩ := h1
  by_cases h0 : t.e = 0
  · obtain ⟨l, e⟩ := t
    obtain rfl : e = 0 := h0
    have hr : RB w1 lo g A n c l := hR.live rfl
    have c0 : w1.cell? ⟨g, 0, none⟩ = some (.slice A n c) := heap_cell hR.blk
    have hN0 : 0 ≤ N := by rw [HN.out]; exact M.St.int_lo s y
    obtain ⟨N, rfl⟩ := Int.eq_ofNat_of_zero_le hN0
    go_wp2_with fail
    refine (err_any hR).mono ?_
    rintro e w' ⟨rfl, rfl⟩
    by_cases hgt : n < N
    · go_wp2_with fail
      refine (fail_any _ hR).mono ?_
      rintro e w2 ⟨rfl, hR2, hg2⟩
      go_wp2_with fail
      go_ret
      rw [M.St.text_short HT.out HN.out rfl (by show l.length < _; rw [hr.len]; simpa using hgt)]
      exact ⟨rfl, ⟨_, _, _, hR2⟩, only_trans hg1 hg2⟩
    · go_wp2_with fail
      refine (take_any hR rfl (by omega)).mono ?_
      rintro e w2 ⟨rfl, ⟨A', hR2⟩, hg2, hr2⟩
      have hconv := run_conv hr2
      go_wp2_with fail
      go_ret
      rw [M.St.text_yes HT.out HN.out rfl (by show ¬ l.length < _; rw [hr.len]; simpa using hgt)]
      exact ⟨rfl, ⟨_, _, _, hR2⟩, only_trans hg1 hg2⟩
  · have hb : (t.e == 0) = false := by rw [beq_eq_false_iff_ne]; exact h0
    have H0 := Lib.hid h0
    clear h0
    go_wp2_with fail
    refine (err_any hR).mono ?_
    rintro e w' ⟨rfl, rfl⟩
    go_wp2_with fail
    go_ret
    rw [M.St.text_dead HT.out H0.out]
    exact ⟨rfl, ⟨_, _, _, hR⟩, hg1⟩


set_option maxHeartbeats 1000000 in
theorem leftX {w : World} {lo g : Nat} {s : M.St} (h : RdX w lo g s) :
    Calls Tryz.prog 13 #[.pointer (some ⟨g, 0, none⟩)] w fun e w' => e = .returned (.int .i64 (s.l.length : Int)) ∧ w = w' := by
  obtain ⟨A, n, c, hR⟩ := h
  by_cases h0 : s.e = 0
  · obtain ⟨l, e⟩ := s
    obtain rfl : e = 0 := h0
    have hr : RB w lo g A n c l := hR.live rfl
    have HL := Lib.hid hr.len
    have c0 : w.cell? ⟨g, 0, none⟩ = some (.slice A n c) := heap_cell hR.blk
    go_enter Tryz.func13, Tryz.ntmps13
    go_wp2_with fail
    refine (err_any hR).mono ?_
    rintro e w' ⟨rfl, rfl⟩
    go_wp2_with fail
    go_ret
    exact ⟨ret_int (by rw [HL.out]), rfl⟩
  · have hb : (s.e == 0) = false := by rw [beq_eq_false_iff_ne]; exact h0
    have HD := Lib.hid (hR.dead h0)
    clear h0
    go_enter Tryz.func13, Tryz.ntmps13
    go_wp2_with fail
    refine (err_any hR).mono ?_
    rintro e w' ⟨rfl, rfl⟩
    go_wp2_with fail
    go_ret
    exact ⟨ret_int (by rw [HD.out]; rfl), rfl⟩


/-- Open: a new reader, whose bytes are a copy. -/
theorem openX (A : Option Addr) (n c : Nat) (l : List UInt8) (lo hi : Nat) (w : World) (h : RB w lo hi A n c l) (hhi : hi ≤ w.heap.size) (hb : n ≤ 140737488355000) :
    Calls Tryz.prog 6 #[.slice A n c] w fun e w' => ∃ g, e = .returned (.pointer (some ⟨g, 0, none⟩)) ∧ RdX w' w.heap.size g ⟨l, 0⟩ ∧ Below w.heap.size w w' := by
  go_enter Tryz.func6, Tryz.ntmps6
  go_wp2_with fail
  refine (copy_any A n c l lo hi _ w h hhi (by omega) (by omega)).mono ?_
  rintro e w1 ⟨v1, rfl, ho1, hb1⟩
  obtain ⟨A1, n1, c1, rfl, hr1⟩ := ho1.form
  have HR := Lib.hid hr1
  clear ho1 hr1
  go_wp2
  go_ret
  refine ⟨_, rfl, ⟨A1, n1, c1, ?_, hb1.size, fun _ => ?_, fun e => absurd rfl e⟩, hb1.alloc hb1.size _⟩
  · exact heap_alloc_new w1 _
  · exact HR.out.alloc (Nat.le_refl _) _
end Go.Proofs.YtkodmhopollnpaaGreat
