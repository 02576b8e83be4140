/-
  Layer 1: the reference's reader: Int, Text, Bool, Fail, End, Left, Open.
-/
import Derived.Test.YtkodmhopollnpaaGreatRef
namespace Go.Proofs.YtkodmhopollnpaaGreat
open Go.RowKit

theorem dec_back {l : List UInt8} {j k : Nat} (h : j < k) (hk : k ≤ l.length) : M.dec ((l.take k).drop j) = M.dec ((l.take k).drop (j + 1)) * 128 + (l.getD j 0).toNat % 128 := by
  have hj : j < (l.take k).length := by rw [List.length_take]; omega
  rw [List.drop_eq_getElem_cons hj, M.dec]
  have e : (l.take k)[j] = l.getD j 0 := by
    rw [List.getElem_take]; simp [List.getD, List.getElem?_eq_getElem (show j < l.length by omega)]
  rw [e]; omega
theorem dec_drop_le : ∀ (l : List UInt8) (j : Nat), M.dec (l.drop j) ≤ M.dec l := by
  intro l
  induction l with
  | nil => intro j; simp
  | cons c r ih =>
    intro j
    cases j with
    | zero => simp
    | succ j => simp only [List.drop_succ_cons, M.dec]; have := ih j; omega

/-- What stands behind the reference's loop: the number, its range, the rest. -/
theorem rf_cut {w : World} {lo g n c k : Nat} {l : List UInt8} {A A' : Option Addr} (hR : Rf w lo g ⟨l, 0⟩ A n c) (hk : k ≤ n) (hA : ¬ c = k → A' = A.map (·.add k)) (hA0 : A' = none → c - k = 0) :
    RfX (w.setCell ⟨g, 1, none⟩ (.slice A' (n - k) (c - k))) lo g ⟨l.drop k, 0⟩ :=
  ⟨A', n - k, c - k, by rw [heap_set hR.blk]; rfl, hR.low, (hR.live.cut hk hA hA0).setCell (.inr (Nat.le_refl _)) _⟩

theorem rf_cut_end {w : World} {lo g n c k : Nat} {l : List UInt8} {A : Option Addr} (hR : Rf w lo g ⟨l, 0⟩ A n c) (hk : k ≤ n) (hck : c = k) : RfX (w.setCell ⟨g, 1, none⟩ (.slice A (n - k) 0)) lo g ⟨l.drop k, 0⟩ := by
  have h := rf_cut (A' := A) hR hk (fun e => absurd hck e) (fun _ => by omega)
  rwa [show c - k = 0 by omega] at h

set_option maxHeartbeats 2000000 in
set_option maxRecDepth 100000 in
theorem rIntX {w : World} {lo g : Nat} {s : M.St} (x y : Int) (h : RfX w lo g s) :
    Calls Tryz.prog 84 #[.pointer (some ⟨g, 0, none⟩), .int .i64 x, .int .i64 y] w fun e w' => e = .returned (.int .i64 (s.int x y).1) ∧ RfX w' lo g (s.int x y).2 ∧ w.grownBy w' (some g) := by
  obtain ⟨A, n, c, hR⟩ := h
  by_cases h0 : s.e = 0
  · obtain ⟨l, e⟩ := s
    obtain rfl : e = 0 := h0
    have hr : RB w lo g A n c l := hR.live
    have c0 : w.cell? ⟨g, 1, none⟩ = some (.slice A n c) := heap_cell hR.blk
    have f0 : w.frozen? ⟨g, 1, none⟩ = false := heap_free hR.blk
    obtain ⟨k, e, hc⟩ : ∃ k e, M.cnt l = (k, e) := ⟨_, _, rfl⟩
    by_cases he : e = 0
    · subst he
      obtain ⟨hk0, hk10, hkl, _, hd⟩ := M.cnt_ok hc
      have hln := hr.len
      have hcap := hr.cap
      obtain ⟨N, hN⟩ : ∃ N, N = M.zag (M.dec (l.take k)) := ⟨_, rfl⟩
      have HC := Lib.hid hc
      have HN := Lib.hid hN
      have HD := Lib.hid hd
      clear hc hN hd
      go_enter Tryz.func84, Tryz.ntmps84
      go_wp2_with fail
      refine (stopped_any hR).mono ?_
      rintro e w' ⟨rfl, rfl⟩
      go_wp2_with fail
      refine (count_any hR).mono ?_
      rintro e w' ⟨rfl, rfl⟩
      rw [HC.out]
      go_wp2_with fail
      go_loop [9, 10] (fun u i => ∃ z : Int, i = .int .i64 z ∧ -1 ≤ z ∧ z < k ∧ u = .int .u64 (M.dec ((l.take k).drop (z + 1).toNat) : Nat)) (fun _ i => (intOf i + 1).toNat)
      case atStart => exact ⟨(k : Int) - 1, rfl, by omega, by omega, by rw [show ((k : Int) - 1 + 1).toNat = (l.take k).length by rw [List.length_take]; omega, List.drop_length]; rfl⟩
      case round =>
        obtain ⟨z, rfl, hz, hzk, rfl⟩ := hrel
        by_cases hz0 : 0 ≤ z
        · obtain ⟨j, rfl⟩ := Int.eq_ofNat_of_zero_le hz0
          rw [show ((j : Int) + 1).toNat = j + 1 by omega]
          obtain ⟨b, off, rfl, _, _, hc⟩ := hr.at_ (by omega)
          have g1 := hc j (by omega)
          have HC2 := Lib.hid hc
          have hb := dec_back (l := l) (j := j) (k := k) (by omega) (by omega)
          have hle := dec_drop_le (l.take k) j
          rw [hb] at hle
          have hd := HD.out
          have HB := Lib.hid hb
          have hx : (l.getD j 0).toNat < 256 := (l.getD j 0).toNat_lt
          clear hb hc
          obtain ⟨D, hD⟩ : ∃ D, D = M.dec ((l.take k).drop (j + 1)) := ⟨_, rfl⟩
          obtain ⟨X, hX⟩ : ∃ X, X = (l.getD j 0).toNat := ⟨_, rfl⟩
          rw [← hX, ← hD] at hle
          rw [← hX] at g1 hx
          rw [← hD]
          have hsm : D * 128 + X % 128 < 18446744073709551616 := Nat.lt_of_le_of_lt hle hd
          have HX := Lib.hid hX
          have HDD := Lib.hid hD
          clear hX hD hle hd
          go_wp2_with fail
          go_round
          case rel => exact ⟨(j : Int) - 1, by go_num, by omega, by omega, by rw [show ((j : Int) - 1 + 1).toNat = j by omega, HB.out, ← HX.out, ← HDD.out]; go_num⟩
          case measure => simp [intOf]
        · obtain rfl : z = -1 := by omega
          rw [show ((-1 : Int) + 1).toNat = 0 from rfl, List.drop_zero]
          have hd := HD.out
          obtain ⟨U, hU⟩ : ∃ U, U = M.dec (l.take k) := ⟨_, rfl⟩
          rw [← hU] at hd ⊢
          have HU := Lib.hid hU
          clear hU
          have hNU := HN.out
          rw [← HU.out] at hNU
          have hfin : ∀ (w' : World) (v : Int), v = N → ¬ (v < x) → ¬ (y < v) → RfX w' lo g ⟨l.drop k, 0⟩ → w.grownBy w' (some g) → Ending.returned (.int .i64 v) = .returned (.int .i64 ((M.St.mk l 0).int x y).1) ∧ RfX w' lo g ((M.St.mk l 0).int x y).2 ∧ w.grownBy w' (some g) := by
            intro w' v hv h1 h2 h3 h4
            subst hv
            rw [M.St.int_yes rfl HC.out (by rw [← HN.out]; omega), ← HN.out]
            exact ⟨rfl, h3, h4⟩
          have hbad : ∀ (w' : World) (v : Int), v = N → (v < x ∨ y < v) → RfX w' lo g ⟨[], 14⟩ → w.grownBy w' (some g) → Ending.returned (.int .i64 0) = .returned (.int .i64 ((M.St.mk l 0).int x y).1) ∧ RfX w' lo g ((M.St.mk l 0).int x y).2 ∧ w.grownBy w' (some g) := by
            intro w' v hv h1 h3 h4
            subst hv
            rw [M.St.int_range rfl HC.out (by rw [← HN.out]; omega)]
            exact ⟨rfl, h3, h4⟩
          have HF := Lib.hid hfin
          have HBAD := Lib.hid hbad
          have hkn : k ≤ n := by omega
          have HL := Lib.hid hln
          have hmx := hr.most
          unfold maxLen at hmx
          clear hfin hbad hln
          by_cases hodd : U % 2 = 1
          · have hN2 : -((U : Int) / 2) - 1 = N := by rw [hNU]; unfold M.zag; rw [if_pos hodd]; omega
            have HN2 := Lib.hid hN2
            have hbo : ((U : Int) % 2 == 1) = true := by rw [beq_iff_eq]; omega
            clear hN2 hodd hNU
            by_cases hlo : -((U : Int) / 2) - 1 < x
            · go_wp2_with (go_at_call 97; refine (set_any _ hR).mono ?_; rintro e w2 ⟨rfl, hR2, hg2⟩)
              go_ret
              exact HBAD.out _ _ HN2.out (.inl hlo) hR2 hg2
            · by_cases hhi : y < -((U : Int) / 2) - 1
              · go_wp2_with (go_at_call 97; refine (set_any _ hR).mono ?_; rintro e w2 ⟨rfl, hR2, hg2⟩)
                go_ret
                exact HBAD.out _ _ HN2.out (.inr hhi) hR2 hg2
              · by_cases hck : c = k
                · go_wp2_with fail
                  go_ret
                  exact HF.out _ _ HN2.out hlo hhi (rf_cut_end hR hkn hck) (only_set (only_refl _ _) _)
                · go_wp2_with fail
                  go_ret
                  exact HF.out _ _ HN2.out hlo hhi (rf_cut hR hkn (fun _ => rfl) (fun e => by rw [Option.map_eq_none_iff] at e; have := hr.nil e; omega)) (only_set (only_refl _ _) _)
          · have hN2 : (U : Int) / 2 = N := by rw [hNU]; unfold M.zag; rw [if_neg hodd]; omega
            have HN2 := Lib.hid hN2
            have hbo : ((U : Int) % 2 == 1) = false := by rw [beq_eq_false_iff_ne]; omega
            clear hN2 hodd hNU
            by_cases hlo : (U : Int) / 2 < x
            · go_wp2_with (go_at_call 97; refine (set_any _ hR).mono ?_; rintro e w2 ⟨rfl, hR2, hg2⟩)
              go_ret
              exact HBAD.out _ _ HN2.out (.inl hlo) hR2 hg2
            · by_cases hhi : y < (U : Int) / 2
              · go_wp2_with (go_at_call 97; refine (set_any _ hR).mono ?_; rintro e w2 ⟨rfl, hR2, hg2⟩)
                go_ret
                exact HBAD.out _ _ HN2.out (.inr hhi) hR2 hg2
              · by_cases hck : c = k
                · go_wp2_with fail
                  go_ret
                  exact HF.out _ _ HN2.out hlo hhi (rf_cut_end hR hkn hck) (only_set (only_refl _ _) _)
                · go_wp2_with fail
                  go_ret
                  exact HF.out _ _ HN2.out hlo hhi (rf_cut hR hkn (fun _ => rfl) (fun e => by rw [Option.map_eq_none_iff] at e; have := hr.nil e; omega)) (only_set (only_refl _ _) _)
    · have hb : (e == 0) = false := by rw [beq_eq_false_iff_ne]; exact he
      have HC := Lib.hid hc
      have HE := Lib.hid he
      clear hc he
      go_enter Tryz.func84, Tryz.ntmps84
      go_wp2_with fail
      refine (stopped_any hR).mono ?_
      rintro e w' ⟨rfl, rfl⟩
      go_wp2_with fail
      refine (count_any hR).mono ?_
      rintro e w' ⟨rfl, rfl⟩
      rw [HC.out]
      go_wp2_with fail
      refine (set_any _ hR).mono ?_
      rintro e w2 ⟨rfl, hR2, hg2⟩
      go_wp2_with fail
      go_ret
      rw [M.St.int_bad rfl HC.out HE.out]
      exact ⟨rfl, hR2, hg2⟩
  · have hb : (s.e == 0) = false := by rw [beq_eq_false_iff_ne]; exact h0
    have H0 := Lib.hid h0
    clear h0
    go_enter Tryz.func84, Tryz.ntmps84
    go_wp2_with fail
    refine (stopped_any hR).mono ?_
    rintro e w' ⟨rfl, rfl⟩
    go_wp2_with fail
    go_ret
    rw [M.St.int_dead H0.out]
    exact ⟨rfl, ⟨_, _, _, hR⟩, only_refl _ _⟩
end Go.Proofs.YtkodmhopollnpaaGreat
