/-
  Layer 7: literals: the code's Quote.
-/
import Derived.Test.YtffolfnaalijnaaDoorSPrn
import Derived.Test.YtffolfnaalijnaaDoorSBld
import Derived.Test.YtffolfnaalijnaaDoorSCodB
namespace Go.Proofs.YtffolfnaalijnaaDoor
set_option linter.unusedVariables false
open Go.RowKit

theorem hexcut7 : ∀ n, n < 16 → ((⟨#[48, 49, 50, 51, 52, 53, 54, 55, 56, 57, 97, 98, 99, 100, 101, 102]⟩ : ByteArray).extract n (n + 1)) = bS [Z.hexc n] := by
  have h : ∀ n, n < 16 → ((⟨#[48, 49, 50, 51, 52, 53, 54, 55, 56, 57, 97, 98, 99, 100, 101, 102]⟩ : ByteArray).extract n (n + 1)).data = #[Z.hexc n] := by decide +kernel
  intro n hn
  have := h n hn
  cases hq : (⟨#[48, 49, 50, 51, 52, 53, 54, 55, 56, 57, 97, 98, 99, 100, 101, 102]⟩ : ByteArray).extract n (n + 1) with
  | mk d => rw [hq] at this; simp only at this; rw [this]; rfl

theorem and15 : ∀ n : Nat, n < 256 → bits BinOp.and IntKind.i32 (n : Int) 15 = ((n % 16 : Nat) : Int) := by decide +kernel
theorem hexslice (n : Nat) (hn : n < 16) : ∀ w, (Instr.slice 9 (.string ⟨#[48, 49, 50, 51, 52, 53, 54, 55, 56, 57, 97, 98, 99, 100, 101, 102]⟩) (some (.int .i32 (n : Int))) (some (.int .i32 ((n : Int) + 1))) none).run Tryd.prog w = .ok (.string (bS [Z.hexc n])) w :=
  match n, hn with
  | 0, _ => fun w => by kernel_rfl
  | 1, _ => fun w => by kernel_rfl
  | 2, _ => fun w => by kernel_rfl
  | 3, _ => fun w => by kernel_rfl
  | 4, _ => fun w => by kernel_rfl
  | 5, _ => fun w => by kernel_rfl
  | 6, _ => fun w => by kernel_rfl
  | 7, _ => fun w => by kernel_rfl
  | 8, _ => fun w => by kernel_rfl
  | 9, _ => fun w => by kernel_rfl
  | 10, _ => fun w => by kernel_rfl
  | 11, _ => fun w => by kernel_rfl
  | 12, _ => fun w => by kernel_rfl
  | 13, _ => fun w => by kernel_rfl
  | 14, _ => fun w => by kernel_rfl
  | 15, _ => fun w => by kernel_rfl
  | n + 16, h => absurd h (by omega)
set_option maxRecDepth 100000 in
set_option maxHeartbeats 2000000 in
theorem spell_any (c : Nat) (hc : c < 256) (w : World) :
    Calls Tryd.prog 30 #[.int .i32 (c : Int)] w fun e w' => e = .returned (.string (bS (Z.esc1 c))) ∧ ∃ n, w' = w.drewN n := by
  obtain ⟨X, hX⟩ : ∃ X, X = bS (Z.esc1 c) := ⟨_, rfl⟩
  rw [← hX]
  unfold Z.esc1 at hX
  by_cases h34 : c = 34
  · have HX : Hid (X = ⟨#[92, 34]⟩) := Lib.hid (by rw [hX, if_pos (.inl h34), h34]; rfl)
    subst h34
    clear hX
    go_enter Tryd.func30, Tryd.ntmps30
    go_wp2_with fail
    go_ret
    exact ⟨by rw [HX.out]; rfl, 0, rfl⟩
  by_cases h92 : c = 92
  · have HX : Hid (X = ⟨#[92, 92]⟩) := Lib.hid (by rw [hX, if_pos (.inr h92), h92]; rfl)
    subst h92
    clear hX
    go_enter Tryd.func30, Tryd.ntmps30
    go_wp2_with fail
    go_ret
    exact ⟨by rw [HX.out]; rfl, 0, rfl⟩
  rw [if_neg (by omega)] at hX
  by_cases h10 : c = 10
  · have HX : Hid (X = ⟨#[92, 110]⟩) := Lib.hid (by rw [hX, if_pos h10]; rfl)
    subst h10
    clear hX
    go_enter Tryd.func30, Tryd.ntmps30
    go_wp2_with fail
    go_ret
    exact ⟨by rw [HX.out]; rfl, 0, rfl⟩
  rw [if_neg h10] at hX
  by_cases h9 : c = 9
  · have HX : Hid (X = ⟨#[92, 116]⟩) := Lib.hid (by rw [hX, if_pos h9]; rfl)
    subst h9
    clear hX
    go_enter Tryd.func30, Tryd.ntmps30
    go_wp2_with fail
    go_ret
    exact ⟨by rw [HX.out]; rfl, 0, rfl⟩
  rw [if_neg h9] at hX
  have e1 : ((c : Int) == 34) = false := by rw [beq_eq_false_iff_ne]; omega
  have e2 : ((c : Int) == 92) = false := by rw [beq_eq_false_iff_ne]; omega
  have e3 : ((c : Int) == 10) = false := by rw [beq_eq_false_iff_ne]; omega
  have e4 : ((c : Int) == 9) = false := by rw [beq_eq_false_iff_ne]; omega
  by_cases hp : 32 ≤ c ∧ c ≤ 126
  · rw [if_pos hp] at hX
    have hpl : plainB (c : Int) = true := by unfold plainB; simp; omega
    have HPL := Lib.hid hpl
    have henc : Utf8.encode (c : Int) = X := by
      rw [hX]
      have hv : Utf8.valid (c : Int) = true := by unfold Utf8.valid; simp; omega
      unfold Utf8.encode
      simp only [hv, if_true, Int.toNat_natCast, show c < 128 by omega]
      rfl
    have hcv : ∀ w, (convert 21 9 (.int .i32 (c : Int))).run Tryd.prog w = .ok (.string X) w := fun w => by
      rw [run_convert_int_string w 21 9 .i32 (c : Int) (by rw [Tryd.underlying21]; rfl) Tryd.underlying9, henc]
    clear hX hpl henc
    go_enter Tryd.func30, Tryd.ntmps30
    go_wp2_with fail
    refine (isPlain_any (c : Int) w (by omega) (by omega)).mono ?_
    rintro e w1 ⟨rfl, rfl⟩
    rw [HPL.out]
    go_wp2_with fail
    go_ret
    exact ⟨rfl, 0, rfl⟩
  · rw [if_neg hp] at hX
    have hpl : plainB (c : Int) = false := by unfold plainB; simp; omega
    have HPL := Lib.hid hpl
    obtain ⟨x, hx⟩ : ∃ x, x = c / 16 := ⟨_, rfl⟩
    obtain ⟨y, hy⟩ : ∃ y, y = c % 16 := ⟨_, rfl⟩
    have hx16 : x < 16 := by omega
    have hy16 : y < 16 := by omega
    have hcx : (c : Int) / 16 = (x : Int) := by omega
    have hcy : bits BinOp.and IntKind.i32 (c : Int) 15 = (y : Int) := by rw [and15 c hc, ← hy]
    have hwx : IntKind.i32.wrap ((x : Int) + 1) = (x : Int) + 1 := by unfold IntKind.wrap; simp [IntKind.bits, IntKind.signed]; omega
    have hwy : IntKind.i32.wrap ((y : Int) + 1) = (y : Int) + 1 := by unfold IntKind.wrap; simp [IntKind.bits, IntKind.signed]; omega
    have hsx := hexslice x hx16
    have hsy := hexslice y hy16
    rw [← hx, ← hy] at hX
    have zx : (bS [Z.hexc x]).size = 1 := rfl
    have zy : (bS [Z.hexc y]).size = 1 := rfl
    have HX : Hid (X = ⟨#[92, 120]⟩ ++ bS [Z.hexc x] ++ bS [Z.hexc y]) := Lib.hid (by rw [hX]; rfl)
    generalize bS [Z.hexc x] = sx at *
    generalize bS [Z.hexc y] = sy at *
    clear hX hpl hx hy
    go_enter Tryd.func30, Tryd.ntmps30
    go_wp2_with fail
    refine (isPlain_any (c : Int) w (by omega) (by omega)).mono ?_
    rintro e w1 ⟨rfl, rfl⟩
    rw [HPL.out]
    go_wp2_with fail
    go_quiet (fail)
    go_wp2_with fail
    go_ret
    exact ⟨by rw [HX.out]; rfl, _, rfl⟩

set_option maxRecDepth 100000 in
set_option maxHeartbeats 4000000 in
theorem quote_any (s : ByteArray) (w : World) (hs : s.size ≤ 100000000) :
    Calls Tryd.prog 18 #[.string s] w fun e w' => e = .returned (.string (bS (Z.quote s.data.toList))) ∧ Below w.heap.size w w' := by
  have HL := Lib.hid (l7_len s)
  go_enter Tryd.func18, Tryd.ntmps18
  have h0 := bld_new w
  have hb0 : Below w.heap.size w (w.alloc (.cells #[.pointer none, .slice none 0 0] 50)) := (Below.refl _ w).alloc (Nat.le_refl _) _
  have HB0 := Lib.hid hb0
  clear hb0
  go_wp2_with fail
  refine (wbyte_any w.heap.size w.heap.size [] 34 _ h0 (by simp) (by simp)).mono ?_
  rintro e w1 ⟨rfl, h1, hb1⟩
  have H1 := Lib.hid h1
  have HB1 := Lib.hid (HB0.out.trans hb1)
  clear h0 HB0 h1 hb1
  go_wp2_with fail
  go_loopw [4, 8] (fun _ i wr => ∃ j : Nat, j ≤ s.size ∧ i = .int .i64 j ∧ Hid (Bld wr w.heap.size w.heap.size (34 :: Z.escs (s.data.toList.take j))) ∧ Hid (Below w.heap.size w wr)) (fun _ i _ => s.size - (intOf i).toNat)
  case atStart => exact ⟨0, Nat.zero_le _, rfl, H1, HB1⟩
  case round =>
    clear H1 HB1
    obtain ⟨j, hj, rfl, HB, HW⟩ := hrel
    have hel : (34 :: Z.escs (s.data.toList.take j)).length ≤ 400000001 := by
      have h1 := Z.escs_take_le s.data.toList j
      have h2 := Z.escs_len s.data.toList
      rw [HL.out] at h2
      simp; omega
    have HEL := Lib.hid hel
    clear hel
    by_cases hlt : j < s.size
    · have hkl : j < s.data.toList.length := by rw [HL.out]; exact hlt
      have HT := Lib.hid (Z.escs_take hkl)
      have hc8 := (s[j]'hlt).toNat_lt
      obtain ⟨c, hc⟩ : ∃ c, c = (s[j]'hlt).toNat := ⟨_, rfl⟩
      have HT2 : Hid (Z.escs (s.data.toList.take (j + 1)) = Z.escs (s.data.toList.take j) ++ Z.esc1 c) := Lib.hid (by rw [HT.out, hc]; rfl)
      have hsc : ((s[j]'hlt).toNat : Int) = (c : Int) := by rw [hc]
      rw [← hc] at hc8
      have i0 : (0 : Int) ≤ (j : Int) := by omega
      have i1 : (j : Int) < (s.size : Int) := by omega
      have hji : decide ((j : Int) < (s.size : Int)) = true := by simp; omega
      clear HT hc hkl
      go_wp2_with fail
      refine (spell_any c hc8 wr).mono ?_
      rintro e w2 ⟨rfl, n2, rfl⟩
      have HB2 : Hid (Bld (wr.drewN n2) w.heap.size w.heap.size (34 :: Z.escs (s.data.toList.take j))) := Lib.hid HB.out
      have HW2 := Lib.hid (HW.out.trans (⟨rfl, rfl, rfl, Nat.le_refl _, fun _ _ => rfl⟩ : Below w.heap.size wr (wr.drewN n2)))
      clear HB HW
      generalize wr.drewN n2 = w2 at *
      go_wp2_with fail
      refine (wstr_any w.heap.size w.heap.size _ (bS (Z.esc1 c)) w2 HB2.out (by have := HEL.out; omega) (by rw [bS_size]; have := (Z.esc1_len c).2; omega) HW2.out.size).mono ?_
      rintro e w3 ⟨rfl, h3, hb3⟩
      have HB3 : Hid (Bld w3 w.heap.size w.heap.size (34 :: Z.escs (s.data.toList.take (j + 1)))) := Lib.hid (by rw [HT2.out]; exact h3)
      have HW3 := Lib.hid (HW2.out.trans hb3)
      clear h3 hb3
      go_wp2_with fail
      go_roundw
      case rel => exact ⟨j + 1, hlt, by go_num, HB3, HW3⟩
      case measure => simp [intOf]; omega
    · have hji : decide ((j : Int) < (s.size : Int)) = false := by simp; omega
      have HB2 : Hid (Bld wr w.heap.size w.heap.size (34 :: Z.escs s.data.toList)) := Lib.hid (by have := HB.out; rwa [List.take_of_length_le (by rw [HL.out]; omega)] at this)
      have HEL2 : Hid ((34 :: Z.escs s.data.toList).length ≤ 400000001) := Lib.hid (by have := HEL.out; rwa [List.take_of_length_le (by rw [HL.out]; omega)] at this)
      clear HB HEL
      go_wp2_with fail
      refine (wbyte_any w.heap.size w.heap.size _ 34 wr HB2.out (by have := HEL2.out; omega) HW.out.size).mono ?_
      rintro e w3 ⟨rfl, h3, hb3⟩
      have H3 := Lib.hid h3
      have HW3 := Lib.hid (HW.out.trans hb3)
      clear h3 hb3
      go_wp2_with fail
      refine (Tryd.Builder_String_any w.heap.size w.heap.size _ w3 H3.out HW3.out.size).mono ?_
      rintro e w4 ⟨rfl, hb4⟩
      have HW4 := Lib.hid (HW3.out.trans hb4)
      clear hb4
      go_wp2_with fail
      go_ret
      exact ⟨rfl, HW4.out⟩
end Go.Proofs.YtffolfnaalijnaaDoor
