/-
  Layer 3: literals, the code's.
-/
import Derived.Test.YtdkggnciamfcmaaGreatDoorTApp
import Derived.Test.YtdkggnciamfcmaaGreatDoorTPrn
import Derived.Laws.BitsAllLaws
namespace Go.Proofs.YtdkggnciamfcmaaGreatDoor
set_option linter.unusedVariables false
open Go.RowKit

theorem nat_of8 {c : Nat} (hc : c < 256) : (c : Int) = ((UInt8.ofNat c).toNat : Int) := by
  have : (UInt8.ofNat c).toNat = c := by simp [UInt8.toNat_ofNat']; omega
  rw [this]

theorem hex_at (q : Nat) (hq : q < 16) : (⟨#[48, 49, 50, 51, 52, 53, 54, 55, 56, 57, 97, 98, 99, 100, 101, 102]⟩ : ByteArray)[q]'(by simpa [ByteArray.size] using hq) = M.hexc q := by
  match q, hq with
  | 0, _ | 1, _ | 2, _ | 3, _ | 4, _ | 5, _ | 6, _ | 7, _ | 8, _ | 9, _ | 10, _ | 11, _ | 12, _ | 13, _ | 14, _ | 15, _ => rfl
  | n + 16, h => omega
theorem low_bits {c : Nat} (hc : c < 256) : bits .and .u8 (c : Int) 15 = ((c % 16 : Nat) : Int) := by
  have h := u8_and_nat c 15 hc (by decide)
  rw [show ((15 : Nat) : Int) = 15 from rfl] at h
  rw [h, Nat.and_two_pow_sub_one_eq_mod c 4]

set_option maxRecDepth 100000 in
set_option maxHeartbeats 1000000 in
theorem letterP {base : Nat} {v : Value} {l : List UInt8} (c : Nat) (hc : c < 256) (w : World) (h : OB w base v l) (hbase : base ≤ w.heap.size) (hb : l.length ≤ 140737488355000) :
    Calls Tryz.prog 42 #[v, .int .u8 (c : Int)] w (Adds base (l ++ M.esc1 c) v w) := by
  have HC := Lib.hid (nat_of8 hc)
  by_cases h34 : c = 34
  · subst h34
    clear HC
    go_enter Tryz.func42, Tryz.ntmps42
    go_wp2_with (at_builtin; refine wpList_append_rbx rfl _ _ rfl base _ l rfl (h.alloc _) _ _ _ _ _ [92, 34] rfl (RB.two _ rfl rfl) ?b1 ?b2 ?_)
    case b1 => omega
    case b2 => simp; omega
    intro v' w' hown' hg' hn'
    go_wp2
    go_ret
    exact ⟨_, rfl, hown', grow_alloc hg', hn'.mono (by simp)⟩
  by_cases h92 : c = 92
  · subst h92
    clear HC
    go_enter Tryz.func42, Tryz.ntmps42
    go_wp2_with (at_builtin; refine wpList_append_rbx rfl _ _ rfl base _ l rfl (h.alloc _) _ _ _ _ _ [92, 92] rfl (RB.two _ rfl rfl) ?b1 ?b2 ?_)
    case b1 => omega
    case b2 => simp; omega
    intro v' w' hown' hg' hn'
    go_wp2
    go_ret
    exact ⟨_, rfl, hown', grow_alloc hg', hn'.mono (by simp)⟩
  by_cases h10 : c = 10
  · subst h10
    clear HC
    go_enter Tryz.func42, Tryz.ntmps42
    go_wp2_with (at_builtin; refine wpList_append_strx rfl _ _ rfl base _ l rfl h ⟨#[92, 110]⟩ rfl (by decide) ?b1 hbase ?_)
    case b1 => simp [ByteArray.size]; omega
    intro v' w' hown' hg' hn'
    go_wp2
    go_ret
    exact ⟨_, rfl, hown', hg', hn'⟩
  by_cases h9 : c = 9
  · subst h9
    clear HC
    go_enter Tryz.func42, Tryz.ntmps42
    go_wp2_with (at_builtin; refine wpList_append_strx rfl _ _ rfl base _ l rfl h ⟨#[92, 116]⟩ rfl (by decide) ?b1 hbase ?_)
    case b1 => simp [ByteArray.size]; omega
    intro v' w' hown' hg' hn'
    go_wp2
    go_ret
    exact ⟨_, rfl, hown', hg', hn'⟩
  have e1 : ((c : Int) == 34) = false := by rw [beq_eq_false_iff_ne]; omega
  have e2 : ((c : Int) == 92) = false := by rw [beq_eq_false_iff_ne]; omega
  have e3 : ((c : Int) == 10) = false := by rw [beq_eq_false_iff_ne]; omega
  have e4 : ((c : Int) == 9) = false := by rw [beq_eq_false_iff_ne]; omega
  by_cases hp : 32 ≤ c ∧ c ≤ 126
  · have HP := Lib.hid (M.plain_yes hp)
    have HE : Hid (M.esc1 c = [UInt8.ofNat c]) := Lib.hid (by unfold M.esc1; rw [if_neg (by omega), if_neg h10, if_neg h9, if_pos hp])
    clear h34 h92 h10 h9 hp
    go_enter Tryz.func42, Tryz.ntmps42
    go_wp2_with fail
    refine (plain_any c w).mono ?_
    rintro e w1 ⟨rfl, rfl⟩
    rw [HP.out]
    go_wp2_with (at_builtin; refine wpList_append_rbx rfl _ _ rfl base _ l rfl (h.alloc _) _ _ _ _ _ [UInt8.ofNat c] rfl (RB.one _ HC.out) ?b1 ?b2 ?_)
    case b1 => omega
    case b2 => simp; omega
    intro v' w' hown' hg' hn'
    go_wp2
    go_ret
    exact ⟨_, rfl, by rw [HE.out]; exact hown', grow_alloc hg', hn'.mono (by simp)⟩
  · have HP := Lib.hid (M.plain_no hp)
    have HE : Hid (M.esc1 c = [92, 120, M.hexc (c / 16), M.hexc (c % 16)]) := Lib.hid (by unfold M.esc1; rw [if_neg (by omega), if_neg h10, if_neg h9, if_neg hp])
    obtain ⟨q1, hq1⟩ : ∃ q1 : Nat, q1 = c / 16 := ⟨_, rfl⟩
    obtain ⟨q2, hq2⟩ : ∃ q2 : Nat, q2 = c % 16 := ⟨_, rfl⟩
    have hk1 : (c : Int) / 16 = (q1 : Int) := by omega
    have hk2 : bits .and .u8 (c : Int) 15 = (q2 : Int) := by rw [low_bits hc, hq2]
    have l1 : q1 < 16 := by omega
    have l2 : q2 < 16 := by omega
    have i1 : (0 : Int) ≤ (q1 : Int) := by omega
    have i2 : (q1 : Int) < 16 := by omega
    have j1 : (0 : Int) ≤ (q2 : Int) := by omega
    have j2 : (q2 : Int) < 16 := by omega
    have hx1 := hex_at q1 l1
    have hx2 := hex_at q2 l2
    rw [← hq1, ← hq2] at HE
    obtain ⟨d1, hd1⟩ : ∃ d1, d1 = M.hexc q1 := ⟨_, rfl⟩
    obtain ⟨d2, hd2⟩ : ∃ d2, d2 = M.hexc q2 := ⟨_, rfl⟩
    rw [← hd1] at hx1 HE
    rw [← hd2] at hx2 HE
    clear h34 h92 h10 h9 hp hq1 hq2 hd1 hd2
    go_enter Tryz.func42, Tryz.ntmps42
    go_wp2_with fail
    refine (plain_any c w).mono ?_
    rintro e w1 ⟨rfl, rfl⟩
    rw [HP.out]
    go_wp2_with fail
    go_region_law (first
      | (refine step_append_rbx rfl (.tmp 33) (.tmp 40) rfl base w1.heap.size 4 v l [92, 120, d1, d2] #[.int .u8 92, .int .u8 120, .int .u8 (d1.toNat : Int), .int .u8 (d2.toNat : Int)] 5 (0, 0) ?_ ?_ ?_ ?_ ?_ ?_ ?_ ?_ ?_ ?_
         · simp [Act.eval]
         · exact h.alloc _
         · simp [Act.eval]
         · exact heap_alloc_new _ _
         · rfl
         · rfl
         · decide
         · omega
         · simp; omega
         intro v' w' hown' hg' hn'))
    all_goals (
      go_wp2
      go_ret
      exact ⟨_, rfl, by rw [HE.out]; exact hown', grow_alloc (o := .cells #[.int .u8 92, .int .u8 120, .int .u8 (d1.toNat : Int), .int .u8 (d2.toNat : Int)] 5) ⟨hg'.os, hg'.tape, hg'.output, hg'.size, hg'.block⟩, hn'.mono (by simp)⟩)

theorem bl_len (s : ByteArray) : s.data.toList.length = s.size := by rw [Array.length_toList]; rfl
set_option maxRecDepth 100000 in
set_option maxHeartbeats 1000000 in
theorem literalP {base : Nat} {v : Value} {l : List UInt8} (s : ByteArray) (w : World) (h : OB w base v l) (hbase : base ≤ w.heap.size) (hb : (l ++ M.quote s.data.toList).length ≤ 140737488355000) :
    Calls Tryz.prog 22 #[v, .string s] w (Adds base (l ++ M.quote s.data.toList) v w) := by
  have HL := Lib.hid (bl_len s)
  have hq := M.quote_ge s.data.toList
  have hg := M.escs_ge s.data.toList
  rw [List.length_append] at hb
  rw [HL.out] at hg
  have hlim : l.length + (M.escs s.data.toList).length + 2 ≤ 140737488355000 := by omega
  have hs : s.size ≤ 140737488355000 := by omega
  have hl0 : l.length ≤ 140737488354998 := by omega
  have HLIM := Lib.hid hlim
  clear hb hq hg hlim
  go_enter Tryz.func22, Tryz.ntmps22
  go_wp2_with (at_builtin; refine wpList_append_rbx rfl _ _ rfl base _ l rfl (h.alloc _) _ _ _ _ _ [34] rfl (RB.one _ rfl) ?b1 ?b2 ?_)
  case b1 => omega
  case b2 => simp; omega
  intro v1 w1 hown1 hg1 hn1
  have H1 := Lib.hid hown1; have G1 := Lib.hid (grow_alloc hg1); have N1 := Lib.hid (hn1.mono (w0 := w) (by simp))
  have H0 := Lib.hid h
  clear hown1 hg1 hn1 h
  go_wp2_with fail
  go_loopw [0, 11] (fun bv iv wr => ∃ k : Nat, k ≤ s.size ∧ iv = .int .i64 k ∧ Hid (OB wr base bv (l ++ [34] ++ M.escs (s.data.toList.take k))) ∧ Hid (w.grownBy wr v.ownBlock) ∧ Hid (Nx w v bv)) (fun _ iv _ => s.size - (intOf iv).toNat)
  case atStart => exact ⟨0, Nat.zero_le _, rfl, Lib.hid (by rw [List.take_zero, M.escs_nil, List.append_nil]; exact H1.out), G1, N1⟩
  case round =>
    clear H1 G1 N1
    obtain ⟨k, hk, rfl, HB, HG, HN⟩ := hrel
    have hel := M.escs_take_le s.data.toList k
    have hll : (l ++ [34] ++ M.escs (s.data.toList.take k)).length ≤ 140737488355000 - 1 := by have := HLIM.out; simp; omega
    have hsz := HG.out.size
    have hbs := Nat.le_trans hbase hsz
    have HLL := Lib.hid hll
    clear hll hel
    by_cases hlt : k < s.size
    · have hkl : k < s.data.toList.length := by rw [HL.out]; exact hlt
      have hc := s[k].toNat_lt
      have HT := Lib.hid (M.escs_take hkl)
      go_wp2_with fail
      refine (letterP s[k].toNat hc _ HB.out hbs (Nat.le_trans HLL.out (by decide))).mono ?_
      rintro e w2 ⟨v2, rfl, hown2, hg2, hn2⟩
      have H2 : Hid (OB w2 base v2 (l ++ [34] ++ M.escs (s.data.toList.take (k + 1)))) := Lib.hid (by rw [HT.out, ← List.append_assoc]; exact hown2)
      have HG2 := Lib.hid (grow2 HG.out HN.out hg2)
      have HN2 := Lib.hid (HN.out.trans hsz hn2)
      clear hown2 hg2 hn2
      go_wp2
      go_roundw
      case rel => exact ⟨k + 1, by omega, by go_num, H2, HG2, HN2⟩
      case measure => simp [intOf]; omega
    · have he : s.data.toList.take k = s.data.toList := List.take_of_length_le (by rw [HL.out]; omega)
      have HE := Lib.hid he
      clear he
      go_wp2_with (at_builtin; refine wpList_append_rbx rfl _ _ rfl base _ _ rfl (HB.out.alloc _) _ _ _ _ _ [34] rfl (RB.one _ rfl) ?b1 ?b2 ?_)
      case b1 => have := HLL.out; omega
      case b2 => simp; omega
      intro v2 w2 hown2 hg2 hn2
      have HG2 := Lib.hid (grow2 HG.out HN.out (grow_alloc hg2))
      have HN2 := Lib.hid (HN.out.trans hsz (hn2.mono (by simp)))
      have H2 : Hid (OB w2 base v2 (l ++ M.quote s.data.toList)) := Lib.hid (by
        rw [HE.out] at hown2
        have e : l ++ M.quote s.data.toList = l ++ 34 :: (M.escs s.data.toList ++ [34]) := by unfold M.quote; simp
        rw [e]; simpa using hown2)
      clear hown2 hg2 hn2
      go_wp2
      go_ret
      exact ⟨_, rfl, H2.out, HG2.out, HN2.out⟩

set_option maxRecDepth 100000 in
set_option maxHeartbeats 1000000 in
theorem quote_any (s : ByteArray) (w : World) (hs : s.size ≤ 1000000000) :
    Calls Tryz.prog 13 #[.string s] w fun e w' => e = .returned (.string (tstr (M.quote s.data.toList))) ∧ Below w.heap.size w w' := by
  go_enter Tryz.func13, Tryz.ntmps13
  go_wp2_with fail
  refine (literalP (base := w.heap.size) s w (OB.empty _ _) (Nat.le_refl _) (by have := M.quote_len s.data.toList; rw [bl_len] at this; simp only [List.nil_append]; omega)).mono ?_
  rintro e w1 ⟨v1, rfl, hown, hg, -⟩
  have hbel := below_own (OB.empty w w.heap.size) (Nat.le_refl _) hg
  rw [List.nil_append] at hown
  obtain ⟨A, n, c, rfl, hr⟩ := hown.form
  have hcv := run_tstr hr
  clear hr hown
  go_wp2_with fail
  go_ret
  exact ⟨rfl, hbel⟩
end Go.Proofs.YtdkggnciamfcmaaGreatDoor
