/-
  Layer 5: Jitter and Seed, the code's and the reference's.
-/
import Derived.Test.YthfpggeflokgfaaKCodB
import Derived.Lib.ConvBytes
import Derived.Laws.AppendOwn
namespace Go.Proofs.Ythfpggeflokgfaa
open Go.RowKit

/-- Where Jitter varies its base. -/
def Vary (base p : Int) : Prop := 0 ≤ base ∧ base ≤ 1099511627776 ∧ 0 ≤ p ∧ p ≤ 100

set_option maxHeartbeats 400000 in
theorem vary_yes (base p : Int) (w : World) (h : Vary base p) :
    Calls Try.prog 19 #[.int .i64 base, .int .i64 p] w fun e w' => e = .returned (.bool true) ∧ w = w' := by
  obtain ⟨h1, h2, h3, h4⟩ := h
  go_enter Try.func19, Try.ntmps19
  go_wp2_with fail
  go_ret
  exact ⟨rfl, rfl⟩

set_option maxHeartbeats 400000 in
theorem vary_no (base p : Int) (w : World) (h : ¬ Vary base p) :
    Calls Try.prog 19 #[.int .i64 base, .int .i64 p] w fun e w' => e = .returned (.bool false) ∧ w = w' := by
  by_cases h1 : 0 ≤ base
  · by_cases h2 : base ≤ 1099511627776
    · by_cases h3 : 0 ≤ p
      · have h4 : ¬ p ≤ 100 := fun e => h ⟨h1, h2, h3, e⟩
        go_enter Try.func19, Try.ntmps19
        go_wp2_with fail
        go_ret
        exact ⟨rfl, rfl⟩
      · go_enter Try.func19, Try.ntmps19
        go_wp2_with fail
        go_ret
        exact ⟨rfl, rfl⟩
    · go_enter Try.func19, Try.ntmps19
      go_wp2_with fail
      go_ret
      exact ⟨rfl, rfl⟩
  · go_enter Try.func19, Try.ntmps19
    go_wp2_with fail
    go_ret
    exact ⟨rfl, rfl⟩

/-- Jitter, as a number. -/
def jit (a b base p : Int) : Int := if 0 ≤ base ∧ base ≤ 1099511627776 ∧ 0 ≤ p ∧ p ≤ 100 then base * (100 - p + blw a b (2 * p + 1)) / 100 else base
theorem jit_no {a b base p : Int} (h : ¬ Vary base p) : jit a b base p = base := by unfold jit; exact if_neg h
theorem jit_yes {a b base p : Int} (h : Vary base p) : jit a b base p = base * (100 - p + blw a b (2 * p + 1)) / 100 := by unfold jit; exact if_pos h
theorem mul_le {x y X Y : Int} (h0 : 0 ≤ x) (h1 : 0 ≤ y) (h2 : x ≤ X) (h3 : y ≤ Y) : 0 ≤ x * y ∧ x * y ≤ X * Y :=
  ⟨Int.mul_nonneg h0 h1, Int.mul_le_mul h2 h3 h1 (by omega)⟩

set_option maxHeartbeats 400000 in
theorem jitter_any (a b base p : Int) (w : World) :
    Calls Try.prog 12 #[.int .i64 a, .int .i64 b, .int .i64 base, .int .i64 p] w fun e w' => e = .returned (.int .i64 (jit a b base p)) ∧ w = w' := by
  by_cases h : Vary base p
  · have HJ := Lib.hid (jit_yes (a := a) (b := b) h)
    have hB := blw_pos (a := a) (b := b) (n := 2 * p + 1) (by have := h.2.2.1; omega)
    have hv := h
    obtain ⟨h1, h2, h3, h4⟩ := h
    obtain ⟨B, hBd⟩ : ∃ B, B = blw a b (2 * p + 1) := ⟨_, rfl⟩
    obtain ⟨hB1, hB2, _⟩ := hB
    rw [← hBd] at hB1 hB2 HJ
    have HB := Lib.hid hBd
    clear hBd
    obtain ⟨f, hf⟩ : ∃ f, f = 100 - p + B := ⟨_, rfl⟩
    rw [← hf] at HJ
    have hf' : 100 - p + B = f := hf.symm
    have hf1 : 0 ≤ f := by omega
    have hf2 : f ≤ 200 := by omega
    clear hf
    obtain ⟨hm1, hm2⟩ := mul_le h1 hf1 h2 hf2
    obtain ⟨m, hm⟩ : ∃ m, m = base * f := ⟨_, rfl⟩
    rw [← hm] at hm1 hm2 HJ
    have hm' : base * f = m := hm.symm
    clear hm
    go_enter Try.func12, Try.ntmps12
    go_wp2_with fail
    refine (vary_yes base p w hv).mono ?_
    rintro e w' ⟨rfl, rfl⟩
    go_wp2_with fail
    refine (below_any a b _ w).mono ?_
    rintro e w' ⟨rfl, rfl⟩
    rw [← HB.out]
    go_wp2_with fail
    go_ret
    exact ⟨ret_int (by rw [HJ.out]), rfl⟩
  · have HJ := Lib.hid (jit_no (a := a) (b := b) h)
    go_enter Try.func12, Try.ntmps12
    go_wp2_with fail
    refine (vary_no base p w h).mono ?_
    rintro e w' ⟨rfl, rfl⟩
    go_wp2_with fail
    go_ret
    exact ⟨ret_int (by rw [HJ.out]), rfl⟩

set_option maxHeartbeats 1000000 in
theorem rjitter_any (a b base p : Int) (w : World) :
    Calls Try.prog 13 #[.int .i64 a, .int .i64 b, .int .i64 base, .int .i64 p] w fun e w' => e = .returned (.int .i64 (jit a b base p)) ∧ Below w.heap.size w w' := by
  by_cases h : Vary base p
  · have HJ := Lib.hid (jit_yes (a := a) (b := b) h)
    have hB := blw_pos (a := a) (b := b) (n := 2 * p + 1) (by have := h.2.2.1; omega)
    obtain ⟨h1, h2, h3, h4⟩ := h
    obtain ⟨B, hBd⟩ : ∃ B, B = blw a b (2 * p + 1) := ⟨_, rfl⟩
    obtain ⟨hB1, hB2, _⟩ := hB
    rw [← hBd] at hB1 hB2 HJ
    have HB := Lib.hid hBd
    clear hBd
    obtain ⟨f, hf⟩ : ∃ f, f = 100 - p + B := ⟨_, rfl⟩
    rw [← hf] at HJ
    have hf' : 100 - p + B = f := hf.symm
    have hf1 : 0 ≤ f := by omega
    have hf2 : f ≤ 200 := by omega
    clear hf
    obtain ⟨q, hq⟩ : ∃ q, q = base / 100 := ⟨_, rfl⟩
    obtain ⟨r, hr⟩ : ∃ r, r = base % 100 := ⟨_, rfl⟩
    have hq1 : 0 ≤ q := by omega
    have hq2 : q ≤ 10995116278 := by omega
    have hr1 : 0 ≤ r := by omega
    have hr2 : r ≤ 99 := by omega
    obtain ⟨ha1, ha2⟩ := mul_le hq1 hf1 hq2 hf2
    obtain ⟨hb1, hb2⟩ := mul_le hr1 hf1 hr2 hf2
    have HJ2 : Hid (jit a b base p = q * f + r * f / 100) := Lib.hid (by
      rw [HJ.out, show base = 100 * q + r by omega, Int.add_mul, Int.mul_assoc]
      generalize q * f = X; generalize r * f = Y; omega)
    obtain ⟨m, hm⟩ : ∃ m, m = q * f := ⟨_, rfl⟩
    obtain ⟨n, hn⟩ : ∃ n, n = r * f := ⟨_, rfl⟩
    rw [← hm] at ha1 ha2 HJ2
    rw [← hn] at hb1 hb2 HJ2
    have hq' : base / 100 = q := hq.symm
    have hr' : base % 100 = r := hr.symm
    have hm' : q * f = m := hm.symm
    have hn' : r * f = n := hn.symm
    obtain ⟨d, hd⟩ : ∃ d, d = n / 100 := ⟨_, rfl⟩
    rw [← hd] at HJ2
    have hd1 : 0 ≤ d := by omega
    have hd2 : d ≤ 200 := by omega
    have hd' : n / 100 = d := hd.symm
    clear hm hn hq hr hd HJ
    go_enter Try.func13, Try.ntmps13
    go_wp2_with fail
    refine (rbelow_any a b _ w).mono ?_
    rintro e w' ⟨rfl, hbl⟩
    rw [← HB.out]
    go_wp2_with fail
    go_ret
    exact ⟨ret_int (by rw [HJ2.out]), hbl⟩
  · have HJ := Lib.hid (jit_no (a := a) (b := b) h)
    by_cases h1 : 0 ≤ base
    · by_cases h2 : base ≤ 1099511627776
      · by_cases h3 : 0 ≤ p
        · have h4 : ¬ p ≤ 100 := fun e => h ⟨h1, h2, h3, e⟩
          go_enter Try.func13, Try.ntmps13
          go_wp2_with fail
          go_ret
          exact ⟨ret_int (by rw [HJ.out]), Below.refl _ _⟩
        · go_enter Try.func13, Try.ntmps13
          go_wp2_with fail
          go_ret
          exact ⟨ret_int (by rw [HJ.out]), Below.refl _ _⟩
      · go_enter Try.func13, Try.ntmps13
        go_wp2_with fail
        go_ret
        exact ⟨ret_int (by rw [HJ.out]), Below.refl _ _⟩
    · go_enter Try.func13, Try.ntmps13
      go_wp2_with fail
      go_ret
      exact ⟨ret_int (by rw [HJ.out]), Below.refl _ _⟩

/-- The string of a seed. -/
def seedS (s t : ByteArray) : ByteArray := s ++ ⟨#[47]⟩ ++ t
theorem seed_size (s t : ByteArray) : (seedS s t).size = s.size + 1 + t.size := by unfold seedS; rw [ByteArray.size_append, ByteArray.size_append]; rfl

set_option maxHeartbeats 400000 in
theorem seed_any (s t : ByteArray) (w : World) (hs : s.size ≤ 200) (ht : t.size ≤ 200) :
    Calls Try.prog 14 #[.string s, .string t] w fun e w' => e = .returned (.int .i64 (M.fnv (seedS s t).data.toList)) ∧ w = w' := by
  have hz := seed_size s t
  go_enter Try.func14, Try.ntmps14
  go_wp2_with fail
  refine (fnv_any (seedS s t) w (by rw [hz]; unfold maxLen; omega)).mono ?_
  rintro e w' ⟨rfl, rfl⟩
  go_wp2_with fail
  go_ret
  exact ⟨rfl, rfl⟩

theorem RB.conv (w : World) (s : ByteArray) (hs : s.size ≤ maxLen) :
    RB (Lib.bytesWorld w 5 s) w.heap.size (w.heap.size + 1) (some ⟨w.heap.size, 0, none⟩) s.size (grownCap w s.size 0 5) s.data.toList := by
  refine ⟨Array.length_toList, grownCap_ge _ _ _ _, grownCap_le_maxLen _ _ _ _ hs, (fun e => by cases e), fun _ => ⟨w.heap.size, 0, rfl, Nat.le_refl _, by omega, fun j hj => ?_⟩⟩
  rw [Nat.zero_add]
  exact Lib.bytesWorld_cell w _ s j hj
theorem bel_conv (w : World) (e : TypeId) (s : ByteArray) : Below w.heap.size w (Lib.bytesWorld w e s) :=
  ⟨rfl, rfl, rfl, by rw [Lib.bytesWorld_size]; omega, fun k hk => Lib.bytesWorld_at_old w e s k hk⟩

set_option maxHeartbeats 400000 in
theorem rseed_any (s t : ByteArray) (w : World) (hs : s.size ≤ 200) (ht : t.size ≤ 200) :
    Calls Try.prog 15 #[.string s, .string t] w fun e w' => e = .returned (.int .i64 (M.fnv (seedS s t).data.toList)) ∧ Below w.heap.size w w' := by
  have hz := seed_size s t
  have hmx : (seedS s t).size ≤ maxLen := by rw [hz]; unfold maxLen; omega
  have HM := Lib.hid hmx
  clear hmx
  have hc := Lib.run_convert_string_bytes (P := Try.prog) w 9 32 5 (seedS s t) Try.underlying9 Try.underlying32 Try.underlying5
  have hr := RB.conv w (seedS s t) HM.out
  rw [hz] at hr
  unfold seedS at hc hr ⊢
  have HR := Lib.hid hr
  clear hr HM hz
  go_enter Try.func15, Try.ntmps15
  go_wp2_with fail
  refine (rfnv5_any HR.out).mono ?_
  rintro e w' ⟨rfl, rfl⟩
  have HB := bel_conv w 5 (seedS s t)
  unfold seedS at HB
  go_wp2_with fail
  go_ret
  exact ⟨ret_int (by simp), HB⟩
end Go.Proofs.Ythfpggeflokgfaa
