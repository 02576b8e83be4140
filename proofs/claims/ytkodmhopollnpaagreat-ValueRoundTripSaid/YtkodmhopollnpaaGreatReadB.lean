/-
  Layer 1: the code's reader: Int, Text, Bool, End, Left, Open.
-/
import Derived.Test.YtkodmhopollnpaaGreatRead
import Derived.Test.YtkodmhopollnpaaGreatArithU
namespace Go.Proofs.YtkodmhopollnpaaGreat
open Go.RowKit

theorem or_step {U X k : Nat} (h1 : U < 2 ^ (7 * k)) (h2 : U + 2 ^ (7 * k) * (X % 128) < 18446744073709551616) :
    bits .or .u64 (U : Int) (IntKind.u64.wrap ((X : Int) % 128 * 2 ^ (k * 7))) = ((U + 2 ^ (7 * k) * (X % 128) : Nat) : Int) := by
  have e : (X : Int) % 128 * 2 ^ (k * 7) = ((2 ^ (7 * k) * (X % 128) : Nat) : Int) := by
    rw [Nat.mul_comm 7 k]; simp [Int.mul_comm]
  have hm : ((2 ^ (7 * k) * (X % 128) : Nat) : Int) % 18446744073709551616 = ((2 ^ (7 * k) * (X % 128) : Nat) : Int) := by omega
  rw [IntKind.wrap_u64, e, hm]
  have hj := bits_join_low .u64 64 (by decide) wraps_u64 (7 * k) (U : Int) ((2 ^ (7 * k) * (X % 128) : Nat) : Int) (by omega) (by exact_mod_cast h1) (by omega) (by omega) (by
    rw [Int.natCast_mul, Int.natCast_pow]; exact Int.mul_emod_right _ _) (by omega)
  rw [hj]
  omega
theorem dec_step {l : List UInt8} {k : Nat} (h : k < l.length) : M.dec (l.take (k + 1)) = M.dec (l.take k) + 2 ^ (7 * k) * ((l.getD k 0).toNat % 128) := by
  rw [List.take_succ_eq_append_getElem h, M.dec_snoc, List.length_take, Nat.min_eq_left (by omega)]
  simp [List.getD, List.getElem?_eq_getElem h]
theorem dec_take_le : ∀ (l : List UInt8) (k : Nat), M.dec (l.take k) ≤ M.dec l := by
  intro l
  induction l with
  | nil => intro k; simp
  | cons c r ih =>
    intro k
    cases k with
    | zero => simp [M.dec]
    | succ k => simp only [List.take_succ_cons, M.dec]; have := ih k; omega
theorem dec_take_lt (l : List UInt8) (k : Nat) : M.dec (l.take k) < 2 ^ (7 * k) :=
  Nat.lt_of_lt_of_le (M.dec_lt _) (Nat.pow_le_pow_right (by omega) (by rw [List.length_take]; omega))

set_option maxHeartbeats 1000000 in
set_option maxRecDepth 100000 in
theorem decodeInt_any {w : World} {lo hi n c : Nat} {l : List UInt8} {A : Option Addr} (h : RB w lo hi A n c l) (h10 : n ≤ 10) (hd : M.dec l < 18446744073709551616) :
    Calls Tryz.prog 95 #[.slice A n c] w fun e w' => e = .returned (.int .i64 (M.zag (M.dec l))) ∧ w = w' := by
  have hl := h.len
  have hcap := h.cap
  have HD := Lib.hid hd
  clear hd
  go_enter Tryz.func95, Tryz.ntmps95
  go_wp2_with fail
  go_loop [3, 8] (fun u i => ∃ k : Nat, i = .int .i64 k ∧ k ≤ n ∧ u = .int .u64 (M.dec (l.take k) : Nat)) (fun _ i => n - (intOf i).toNat)
  case atStart => exact ⟨0, rfl, by omega, rfl⟩
  case round =>
    obtain ⟨k, rfl, hk, rfl⟩ := hrel
    by_cases hlt : k < n
    · obtain ⟨b, off, rfl, _, _, hc⟩ := h.at_ (by omega)
      have g1 := hc k (by omega)
      have hx : (l.getD k 0).toNat < 256 := (l.getD k 0).toNat_lt
      have HC := Lib.hid hc
      clear hc
      obtain ⟨X, hX⟩ : ∃ X, X = (l.getD k 0).toNat := ⟨_, rfl⟩
      rw [← hX] at g1 hx
      have HX := Lib.hid hX
      clear hX
      have hs := dec_step (l := l) (k := k) (by omega)
      have h1 := dec_take_lt l k
      have h2 := dec_take_le l (k + 1)
      rw [hs, ← HX.out] at h2
      have ho := or_step (X := X) h1 (Nat.lt_of_le_of_lt h2 HD.out)
      rw [HX.out, ← hs, ← HX.out] at ho
      have HO := Lib.hid ho
      clear ho hs h1 h2
      go_wp2_with fail
      go_round
      case rel => exact ⟨k + 1, by go_num, by omega, by rw [HO.out]⟩
      case measure => simp [intOf]; omega
    · go_wp2_with fail
      have hall : M.dec (l.take k) = M.dec l := by rw [List.take_of_length_le (by omega)]
      rw [hall]
      refine (unfold_any (M.dec l) _ HD.out).mono ?_
      rintro e w' ⟨rfl, rfl⟩
      go_wp2_with fail
      go_ret
      exact ⟨rfl, rfl⟩

/-- The reader in block g, however its slice lies. -/
def RdX (w : World) (lo g : Nat) (s : M.St) : Prop := ∃ A n c, Rd w lo g s A n c
theorem RdX.kept {w w' : World} {lo g : Nat} {s : M.St} (h : RdX w lo g s) (k : Kept lo (g + 1) w w') : RdX w' lo g s := by
  obtain ⟨A, n, c, h⟩ := h
  exact ⟨A, n, c, h.kept k⟩
theorem RdX.lt {w : World} {lo g : Nat} {s : M.St} (h : RdX w lo g s) : g < w.heap.size := by
  obtain ⟨A, n, c, h⟩ := h
  exact heap_lt h.blk

theorem failX {w : World} {lo g : Nat} {s : M.St} (x : Int) (h : RdX w lo g s) :
    Calls Tryz.prog 76 #[.pointer (some ⟨g, 0, none⟩), .int .i64 x] w fun e w' => e = .returned (.tuple #[]) ∧ RdX w' lo g (s.fail x) ∧ w.grownBy w' (some g) := by
  obtain ⟨A, n, c, h⟩ := h
  exact (fail_any x h).mono fun e w' ⟨h1, h2, h3⟩ => ⟨h1, ⟨_, _, _, h2⟩, h3⟩
theorem errX {w : World} {lo g : Nat} {s : M.St} (h : RdX w lo g s) :
    Calls Tryz.prog 11 #[.pointer (some ⟨g, 0, none⟩)] w fun e w' => e = .returned (.int .i64 s.e) ∧ w = w' := by
  obtain ⟨A, n, c, h⟩ := h
  exact err_any h

set_option maxHeartbeats 1000000 in
set_option maxRecDepth 100000 in
theorem intX {w : World} {lo g : Nat} {s : M.St} (x y : Int) (h : RdX w lo g s) :
    Calls Tryz.prog 77 #[.pointer (some ⟨g, 0, none⟩), .int .i64 x, .int .i64 y] w fun e w' => e = .returned (.int .i64 (s.int x y).1) ∧ RdX w' lo g (s.int x y).2 ∧ w.grownBy w' (some g) := by
  obtain ⟨A, n, c, hR⟩ := h
  by_cases h0 : s.e = 0
  · obtain ⟨l, e⟩ := s
    obtain rfl : e = 0 := h0
    have hr : RB w lo g A n c l := hR.live rfl
    have c0 : w.cell? ⟨g, 0, none⟩ = some (.slice A n c) := heap_cell hR.blk
    obtain ⟨k, e, hc⟩ : ∃ k e, M.cnt l = (k, e) := ⟨_, _, rfl⟩
    by_cases he : e = 0
    · subst he
      obtain ⟨hk0, hk10, hkl, _, hd⟩ := M.cnt_ok hc
      rw [hr.len] at hkl
      obtain ⟨N, hN⟩ : ∃ N, N = M.zag (M.dec (l.take k)) := ⟨_, rfl⟩
      have HC := Lib.hid hc
      have HN := Lib.hid hN
      clear hc hN
      go_enter Tryz.func77, Tryz.ntmps77
      go_wp2_with fail
      refine (err_any hR).mono ?_
      rintro e w' ⟨rfl, rfl⟩
      go_wp2_with fail
      refine (intLength_any hr).mono ?_
      rintro e w' ⟨rfl, rfl⟩
      rw [HC.out]
      go_wp2_with fail
      refine (take_any hR rfl hkl).mono ?_
      rintro e w1 ⟨rfl, ⟨A', hR1⟩, hg1, hr1⟩
      go_wp2_with fail
      refine (decodeInt_any hr1 hk10 hd).mono ?_
      rintro e w' ⟨rfl, rfl⟩
      rw [← HN.out]
      by_cases hlo : N < x
      · go_wp2_with (go_at_call 76; refine (fail_any _ hR1).mono ?_; rintro e w2 ⟨rfl, hR2, hg2⟩)
        go_ret
        rw [M.St.int_range rfl HC.out (.inl (by rw [← HN.out]; exact hlo))]
        exact ⟨rfl, ⟨_, _, _, hR2⟩, only_trans hg1 hg2⟩
      · by_cases hhi : y < N
        · go_wp2_with (go_at_call 76; refine (fail_any _ hR1).mono ?_; rintro e w2 ⟨rfl, hR2, hg2⟩)
          go_ret
          rw [M.St.int_range rfl HC.out (.inr (by rw [← HN.out]; exact hhi))]
          exact ⟨rfl, ⟨_, _, _, hR2⟩, only_trans hg1 hg2⟩
        · go_wp2_with fail
          go_ret
          rw [M.St.int_yes rfl HC.out (by rw [← HN.out]; omega), ← HN.out]
          exact ⟨rfl, ⟨_, _, _, hR1⟩, hg1⟩
    · have hb : (e == 0) = false := by rw [beq_eq_false_iff_ne]; exact he
      have HC := Lib.hid hc
      have HE := Lib.hid he
      clear hc he
      go_enter Tryz.func77, Tryz.ntmps77
      go_wp2_with fail
      refine (err_any hR).mono ?_
      rintro e w' ⟨rfl, rfl⟩
      go_wp2_with fail
      refine (intLength_any hr).mono ?_
      rintro e w' ⟨rfl, rfl⟩
      rw [HC.out]
      go_wp2_with fail
      refine (fail_any _ hR).mono ?_
      rintro e w2 ⟨rfl, hR2, hg2⟩
      go_wp2_with fail
      go_ret
      rw [M.St.int_bad rfl HC.out HE.out]
      rw [M.St.fail_live rfl HE.out] at hR2
      exact ⟨rfl, ⟨_, _, _, hR2⟩, hg2⟩
  · have hb : (s.e == 0) = false := by rw [beq_eq_false_iff_ne]; exact h0
    have H0 := Lib.hid h0
    clear h0
    go_enter Tryz.func77, Tryz.ntmps77
    go_wp2_with fail
    refine (err_any hR).mono ?_
    rintro e w' ⟨rfl, rfl⟩
    go_wp2_with fail
    go_ret
    rw [M.St.int_dead H0.out]
    exact ⟨rfl, ⟨_, _, _, hR⟩, only_refl _ _⟩
end Go.Proofs.YtkodmhopollnpaaGreat
