/-
  Layer 7: the reference: string literals.
-/
import Derived.Test.YtffolfnaalijnaaDoorSRefB
import Derived.Test.YtffolfnaalijnaaDoorSCodG
import Derived.Test.YtffolfnaalijnaaDoorSCodC
namespace Go.Proofs.YtffolfnaalijnaaDoor
set_option linter.unusedVariables false
open Go.RowKit

/-- What the reading of a literal gives. -/
def LitEnds (r : Z.R) (e : Ending) : Prop := match r with
  | .ok _ t _ n => e = .returned (.tuple #[.string (bS t), .int .i64 (n : Int), .int .i64 0])
  | .err er => e = .returned (.tuple #[.string ⟨#[]⟩, .int .i64 0, .int .i64 er])
theorem u8_nat (c : UInt8) : UInt8.ofNat ((c.toNat : Int)).toNat = c := by simp

set_option maxRecDepth 100000 in
set_option maxHeartbeats 8000000 in
theorem rliteral_any (s : ByteArray) (w : World) (h0 : 0 < s.size) (hs : s.size ≤ 100000) :
    Calls Tryd.prog 42 #[.string s] w fun e w' => LitEnds (Z.lit s.data.toList) e ∧ Below w.heap.size w w' := by
  obtain ⟨R, hR⟩ : ∃ R, R = Z.lit s.data.toList := ⟨_, rfl⟩
  rw [← hR]
  unfold Z.lit at hR
  rw [l7_len] at hR
  have HR := Lib.hid hR
  clear hR
  go_enter Tryd.func42, Tryd.ntmps42
  go_wp2_with fail
  go_loopw [5, 6, 7, 8, 9] (fun v x _ _ _ wr => ∃ (i f : Nat) (acc : List UInt8), x = .int .i64 i ∧ 1 ≤ i ∧ i ≤ s.size ∧ s.size - i < f ∧ acc.length ≤ i ∧ Hid (OB wr w.heap.size v acc) ∧ Hid (Below w.heap.size w wr) ∧ Hid (Z.litG f (left s i) acc i = R)) (fun _ x _ _ _ _ => s.size - (intOf x).toNat)
  case atStart => exact ⟨1, s.size, [], rfl, Nat.le_refl _, h0, by omega, by simp, Lib.hid (OB.empty _ _), Lib.hid (Below.refl _ _), Lib.hid HR.out.symm⟩
  case round =>
    obtain ⟨i, f, acc, rfl, hi1, hi2, hf, hacc, HO, HB, HL⟩ := hrel
    obtain ⟨f, rfl⟩ : ∃ f', f = f' + 1 := ⟨f - 1, by omega⟩
    have hbz := HB.out.size
    have hL := HL.out
    rw [Z.litG] at hL
    clear HL
    by_cases hlt : i < s.size
    · have hpk := peek_at hlt
      have hcl : Z.clsL (left s i) = Z.cls (s[i]'hlt).toNat := by rw [left_cons hlt]; rfl
      have hc8 := (s[i]'hlt).toNat_lt
      have hun := u8_nat (s[i]'hlt)
      obtain ⟨u, hu⟩ : ∃ u, u = s[i]'hlt := ⟨_, rfl⟩
      have hsu : ((s[i]'hlt).toNat : Int) = (u.toNat : Int) := by rw [hu]
      rw [← hu] at hpk hcl hc8 hun
      obtain ⟨ch, hch⟩ : ∃ ch, ch = u.toNat := ⟨_, rfl⟩
      rw [← hch] at hpk hcl hc8 hun hsu
      have HCH := Lib.hid hch
      have HUN := Lib.hid hun
      have i0 : (0 : Int) ≤ (i : Int) := by omega
      have i1 : (i : Int) < (s.size : Int) := by omega
      have hii : decide ((i : Int) < (s.size : Int)) = true := by simp; omega
      have hch8 : ch < 256 := hc8
      clear hu hch hc8 hun
      by_cases h34 : ch = 34
      · have hL2 : R = if 4096 < acc.length then .err 6 else .ok 4 acc 0 (i + 1) := by
          rw [if_pos (by rw [hcl]; exact Z.mark_cls.2 h34)] at hL; exact hL.symm
        have HL2 := Lib.hid hL2
        obtain ⟨A, m, c, rfl, hr⟩ := HO.out.form
        have hm := hr.len
        have hcv := run_bS hr
        have hmc := hr.cap
        have hcm := hr.most
        unfold maxLen at hcm
        have HM := Lib.hid hm
        have hm1 : m ≤ 100000 := by omega
        have e34 : ((ch : Int) == 34) = true := by rw [h34]; rfl
        clear hL hL2 hr hm hpk hcl h34
        by_cases h96 : 4096 < m
        · have HN := Lib.hid h96
          go_wp2_with fail
          go_ret3
          refine ⟨?_, HB.out⟩
          rw [HL2.out, if_pos (by rw [HM.out]; exact HN.out)]; rfl
        · have HN := Lib.hid h96
          have dn : decide (4096 < (m : Int)) = false := by simp; omega
          go_wp2_with fail
          go_ret3
          refine ⟨?_, HB.out⟩
          rw [HL2.out, if_neg (by rw [HM.out]; have := HN.out; omega)]; rfl
      have hn4 : ¬ Z.clsL (left s i) = 4 := fun e => h34 (Z.mark_cls.1 (by rw [← hcl]; exact e))
      have e34 : ((ch : Int) == 34) = false := by rw [beq_eq_false_iff_ne]; omega
      rw [if_neg hn4, chr_peek, hpk] at hL
      clear hn4 hcl
      by_cases hpl : ¬ (32 ≤ ch ∧ ch ≤ 126)
      · have n92 : ¬ (ch : Int) = 92 := by omega
        have hpb : plainB (ch : Int) = false := by unfold plainB; simp; omega
        rw [if_neg n92, if_neg (by rw [hpb]; decide), refE_pos (by omega)] at hL
        have hL : Z.R.err 3 = R := hL
        have hcs : decide ((ch : Int) < 32) = true ∨ (decide ((ch : Int) < 32) = false ∧ decide ((126 : Int) < (ch : Int)) = true) := by
          by_cases h : ch < 32
          · exact .inl (by simp; omega)
          · exact .inr ⟨by simp; omega, by simp; omega⟩
        clear hpb n92 h34 hpl
        rcases hcs with g1 | ⟨g1, g2⟩
        · have HRE : Hid (R = .err 3) := Lib.hid (hL.symm)
          clear hL
          go_wp2_with fail
          go_ret3
          refine ⟨?_, HB.out⟩
          rw [HRE.out]; rfl
        · have HRE : Hid (R = .err 3) := Lib.hid (hL.symm)
          clear hL
          go_wp2_with fail
          go_ret3
          refine ⟨?_, HB.out⟩
          rw [HRE.out]; rfl
      have hpl : 32 ≤ ch ∧ ch ≤ 126 := by omega
      obtain ⟨hp1, hp2⟩ := hpl
      have g1 : decide ((ch : Int) < 32) = false := by simp; omega
      have g2 : decide ((126 : Int) < (ch : Int)) = false := by simp; omega
      by_cases h92 : ¬ (ch = 92)
      · have n92 : ¬ (ch : Int) = 92 := by omega
        have e92 : ((ch : Int) != 92) = true := by rw [bne_iff_ne]; exact n92
        have hpb : plainB (ch : Int) = true := by unfold plainB; simp; omega
        rw [if_neg n92, if_pos hpb, HUN.out] at hL
        have hL : Z.litG f ((left s i).drop 1) (acc ++ [u]) (i + 1) = R := hL
        rw [left_drop] at hL
        clear hpb n92 h34 h92
        have HLL : Hid (Z.litG f (left s (i + 1)) (acc ++ [u]) (i + 1) = R) := Lib.hid hL
        have hr := RB.one wr (n := (ch : Int)) (c := u) (by rw [HCH.out])
        have ho4 := HO.out.alloc (.cells #[.int .u8 (ch : Int)] 5)
        clear hL
        go_wp2_with (at_builtin; refine wpList_append_rb rfl _ _ rfl w.heap.size _ acc rfl ho4 _ _ _ _ _ [u] rfl hr ?c1 ?c2 ?_)
        case c1 => omega
        case c2 => (first | omega | (simp; omega))
        intro v' w4 ho5 hb5
        have HB5 := Lib.hid ((HB.out.alloc hbz (.cells #[.int .u8 (ch : Int)] 5)).trans hb5)
        have HO5 := Lib.hid ho5
        clear hr ho4 ho5 hb5
        go_wp2_with fail
        exact ⟨⟨i + 1, f, acc ++ [u], by go_num, by omega, by omega, by omega, by simp; omega, HO5, HB5, HLL⟩, by simp [intOf]; omega⟩
      have h92 : ch = 92 := by omega
      have e92 : ((ch : Int) != 92) = false := by rw [h92]; rfl
      rw [if_pos (by omega), left_drop, esc_peek] at hL
      clear hpk
      by_cases hlt1 : ¬ (i + 1 < s.size)
      · have hge : decide ((s.size : Int) ≤ (i : Int) + 1) = true := by simp; omega
        rw [peek_end (by omega)] at hL
        have hL : Z.R.err 4 = R := hL
        clear h34 h92
        have HRE : Hid (R = .err 4) := Lib.hid (hL.symm)
        clear hL
        go_wp2_with fail
        go_ret3
        refine ⟨?_, HB.out⟩
        rw [HRE.out]; rfl
      have hlt1 : i + 1 < s.size := by omega
      have hge : decide ((s.size : Int) ≤ (i : Int) + 1) = false := by simp; omega
      have hpk := peek_at hlt1
      have hd8 := (s[i + 1]'hlt1).toNat_lt
      have hun := u8_nat (s[i + 1]'hlt1)
      obtain ⟨v, hv⟩ : ∃ v, v = s[i + 1]'hlt1 := ⟨_, rfl⟩
      have hsv : ((s[i + 1]'hlt1).toNat : Int) = (v.toNat : Int) := by rw [hv]
      rw [← hv] at hpk hd8 hun
      obtain ⟨d, hd⟩ : ∃ d, d = v.toNat := ⟨_, rfl⟩
      rw [← hd] at hpk hd8 hun hsv
      have HD := Lib.hid hd
      have HUV := Lib.hid hun
      have k0 : (0 : Int) ≤ (i : Int) + 1 := by omega
      have k1 : (i : Int) + 1 < (s.size : Int) := by omega
      rw [hpk] at hL
      clear hd hun hv h34 h92 HCH HUN
      by_cases d34 : d = 34
      · rw [if_pos (.inl (by omega)), HUV.out] at hL
        have hL : Z.litG f ((left s i).drop 2) (acc ++ [v]) (i + 2) = R := hL
        rw [left_drop] at hL
        have f1 : ((d : Int) == 34) = true := by rw [d34]; rfl
        have HLL : Hid (Z.litG f (left s (i + 2)) (acc ++ [v]) (i + 2) = R) := Lib.hid hL
        have hr := RB.one wr (n := 34) (c := v) (by have := HD.out; omega)
        have ho4 := HO.out.alloc (.cells #[.int .u8 34] 5)
        clear hL
        go_wp2_with (at_builtin; refine wpList_append_rb rfl _ _ rfl w.heap.size _ acc rfl ho4 _ _ _ _ _ [v] rfl hr ?c1 ?c2 ?_)
        case c1 => omega
        case c2 => (first | omega | (simp; omega))
        intro v' w4 ho5 hb5
        have HB5 := Lib.hid ((HB.out.alloc hbz (.cells #[.int .u8 34] 5)).trans hb5)
        have HO5 := Lib.hid ho5
        clear hr ho4 ho5 hb5
        go_wp2_with fail
        exact ⟨⟨i + 2, f, acc ++ [v], by go_num, by omega, by omega, by omega, by simp; omega, HO5, HB5, HLL⟩, by simp [intOf]; omega⟩
      have f1 : ((d : Int) == 34) = false := by rw [beq_eq_false_iff_ne]; omega
      by_cases d92 : d = 92
      · rw [if_pos (.inr (by omega)), HUV.out] at hL
        have hL : Z.litG f ((left s i).drop 2) (acc ++ [v]) (i + 2) = R := hL
        rw [left_drop] at hL
        have f2 : ((d : Int) == 92) = true := by rw [d92]; rfl
        have HLL : Hid (Z.litG f (left s (i + 2)) (acc ++ [v]) (i + 2) = R) := Lib.hid hL
        have hr := RB.one wr (n := 92) (c := v) (by have := HD.out; omega)
        have ho4 := HO.out.alloc (.cells #[.int .u8 92] 5)
        clear hL
        go_wp2_with (at_builtin; refine wpList_append_rb rfl _ _ rfl w.heap.size _ acc rfl ho4 _ _ _ _ _ [v] rfl hr ?c1 ?c2 ?_)
        case c1 => omega
        case c2 => (first | omega | (simp; omega))
        intro v' w4 ho5 hb5
        have HB5 := Lib.hid ((HB.out.alloc hbz (.cells #[.int .u8 92] 5)).trans hb5)
        have HO5 := Lib.hid ho5
        clear hr ho4 ho5 hb5
        go_wp2_with fail
        exact ⟨⟨i + 2, f, acc ++ [v], by go_num, by omega, by omega, by omega, by simp; omega, HO5, HB5, HLL⟩, by simp [intOf]; omega⟩
      have f2 : ((d : Int) == 92) = false := by rw [beq_eq_false_iff_ne]; omega
      rw [if_neg (by omega)] at hL
      by_cases d110 : d = 110
      · rw [if_pos (by omega)] at hL
        have hL : Z.litG f ((left s i).drop 2) (acc ++ [10]) (i + 2) = R := hL
        rw [left_drop] at hL
        have f3 : ((d : Int) == 110) = true := by rw [d110]; rfl
        have HLL : Hid (Z.litG f (left s (i + 2)) (acc ++ [10]) (i + 2) = R) := Lib.hid hL
        have hr := RB.one wr (n := 10) (c := 10) (rfl)
        have ho4 := HO.out.alloc (.cells #[.int .u8 10] 5)
        clear hL
        go_wp2_with (at_builtin; refine wpList_append_rb rfl _ _ rfl w.heap.size _ acc rfl ho4 _ _ _ _ _ [10] rfl hr ?c1 ?c2 ?_)
        case c1 => omega
        case c2 => (first | omega | (simp; omega))
        intro v' w4 ho5 hb5
        have HB5 := Lib.hid ((HB.out.alloc hbz (.cells #[.int .u8 10] 5)).trans hb5)
        have HO5 := Lib.hid ho5
        clear hr ho4 ho5 hb5
        go_wp2_with fail
        exact ⟨⟨i + 2, f, acc ++ [10], by go_num, by omega, by omega, by omega, by simp; omega, HO5, HB5, HLL⟩, by simp [intOf]; omega⟩
      have f3 : ((d : Int) == 110) = false := by rw [beq_eq_false_iff_ne]; omega
      rw [if_neg (by omega)] at hL
      by_cases d116 : d = 116
      · rw [if_pos (by omega)] at hL
        have hL : Z.litG f ((left s i).drop 2) (acc ++ [9]) (i + 2) = R := hL
        rw [left_drop] at hL
        have f4 : ((d : Int) == 116) = true := by rw [d116]; rfl
        have HLL : Hid (Z.litG f (left s (i + 2)) (acc ++ [9]) (i + 2) = R) := Lib.hid hL
        have hr := RB.one wr (n := 9) (c := 9) (rfl)
        have ho4 := HO.out.alloc (.cells #[.int .u8 9] 5)
        clear hL
        go_wp2_with (at_builtin; refine wpList_append_rb rfl _ _ rfl w.heap.size _ acc rfl ho4 _ _ _ _ _ [9] rfl hr ?c1 ?c2 ?_)
        case c1 => omega
        case c2 => (first | omega | (simp; omega))
        intro v' w4 ho5 hb5
        have HB5 := Lib.hid ((HB.out.alloc hbz (.cells #[.int .u8 9] 5)).trans hb5)
        have HO5 := Lib.hid ho5
        clear hr ho4 ho5 hb5
        go_wp2_with fail
        exact ⟨⟨i + 2, f, acc ++ [9], by go_num, by omega, by omega, by omega, by simp; omega, HO5, HB5, HLL⟩, by simp [intOf]; omega⟩
      have f4 : ((d : Int) == 116) = false := by rw [beq_eq_false_iff_ne]; omega
      rw [if_neg (by omega)] at hL
      by_cases d120 : ¬ (d = 120)
      · rw [if_neg (by omega), refE_pos (by omega)] at hL
        have hL : Z.R.err 3 = R := hL
        have f5 : ((d : Int) == 120) = false := by rw [beq_eq_false_iff_ne]; omega
        have HRE : Hid (R = .err 3) := Lib.hid (hL.symm)
        clear hL
        go_wp2_with fail
        go_ret3
        refine ⟨?_, HB.out⟩
        rw [HRE.out]; rfl
      have d120 : d = 120 := by omega
      have f5 : ((d : Int) == 120) = true := by rw [d120]; rfl
      rw [if_pos (by omega), left_drop, num2_peek] at hL
      clear d34 d92 d110 d116 d120 hpk
      by_cases hlt2 : ¬ (i + 2 < s.size)
      · have hg2 : decide ((s.size : Int) ≤ (i : Int) + 2) = true := by simp; omega
        rw [peek_end (by omega), if_pos (by decide)] at hL
        have hL : Z.R.err 4 = R := hL
        clear hlt2
        have HRE : Hid (R = .err 4) := Lib.hid hL.symm
        clear hL
        go_wp2_with fail
        refine wp_loop_rounds 3 ?_
        rw [rounds_succ]
        go_wp2_with fail
        go_ret3
        refine ⟨?_, HB.out⟩
        rw [HRE.out]; rfl
      have hlt2 : i + 2 < s.size := by omega
      have hg2 : decide ((s.size : Int) ≤ (i : Int) + 2) = false := by simp; omega
      have hp2 := peek_at hlt2
      have ha8 := (s[i + 2]'hlt2).toNat_lt
      obtain ⟨a, ha⟩ : ∃ a, a = (s[i + 2]'hlt2).toNat := ⟨_, rfl⟩
      have hsa : ((s[i + 2]'hlt2).toNat : Int) = (a : Int) := by rw [ha]
      rw [← ha] at hp2 ha8
      have hxa : hexZ (Z.peek (left s (i + 1 + 1))) = Z.hexd a := by rw [show i + 1 + 1 = i + 2 by omega, hp2]; unfold hexZ; rw [if_neg (by omega), Int.toNat_natCast]
      have hba := hexZ_bd (Z.peek (left s (i + 1 + 1)))
      rw [hxa] at hba hL
      obtain ⟨x1, hx1⟩ : ∃ x1, x1 = Z.hexd a := ⟨_, rfl⟩
      rw [← hx1] at hba hL
      have HX1 := Lib.hid hx1
      obtain ⟨ba1, ba2⟩ := hba
      have m0 : (0 : Int) ≤ (i : Int) + 2 := by omega
      have m1 : (i : Int) + 2 < (s.size : Int) := by omega
      have ha256 : a < 256 := ha8
      have hrf : refE (Z.peek (left s (i + 1 + 1))) = 3 := by rw [show i + 1 + 1 = i + 2 by omega, hp2]; exact refE_pos (by omega)
      rw [hrf] at hL
      clear ha ha8 hxa hx1 hp2 hrf
      by_cases hn1 : x1 < 0
      · rw [if_pos hn1] at hL
        have hL : Z.R.err 3 = R := hL
        have HRE : Hid (R = .err 3) := Lib.hid hL.symm
        have dx1 : decide (x1 < 0) = true := by simp; omega
        clear hL
        go_wp2_with fail
        refine wp_loop_rounds 3 ?_
        rw [rounds_succ]
        go_wp2_with fail
        refine (rhex_any a ha256 wr).mono ?_
        rintro e w2 ⟨rfl, rfl⟩
        rw [← HX1.out]
        go_wp2_with fail
        go_ret3
        refine ⟨?_, HB.out⟩
        rw [HRE.out]; rfl
      have dx1 : decide (x1 < 0) = false := by simp; omega
      have x10 : 0 ≤ x1 := by omega
      rw [if_neg hn1, left_drop] at hL
      by_cases hlt3 : ¬ (i + 3 < s.size)
      · have hg3 : decide ((s.size : Int) ≤ (i : Int) + 3) = true := by simp; omega
        rw [peek_end (by omega), if_pos (by decide)] at hL
        have hL : Z.R.err 4 = R := hL
        clear hlt3 hn1
        have HRE : Hid (R = .err 4) := Lib.hid hL.symm
        clear hL
        go_wp2_with fail
        refine wp_loop_rounds 3 ?_
        rw [rounds_succ]
        go_wp2_with fail
        refine (rhex_any a ha256 wr).mono ?_
        rintro e w2 ⟨rfl, rfl⟩
        rw [← HX1.out]
        go_wp2_with fail
        refine (rhex_any a ha256 _).mono ?_
        rintro e w2 ⟨rfl, rfl⟩
        rw [← HX1.out]
        go_wp2_with fail
        rw [rounds_succ]
        go_wp2_with fail
        go_ret3
        refine ⟨?_, HB.out⟩
        rw [HRE.out]; rfl
      have hlt3 : i + 3 < s.size := by omega
      have hg3 : decide ((s.size : Int) ≤ (i : Int) + 3) = false := by simp; omega
      have hp3 := peek_at hlt3
      have hb8 := (s[i + 3]'hlt3).toNat_lt
      obtain ⟨b, hb⟩ : ∃ b, b = (s[i + 3]'hlt3).toNat := ⟨_, rfl⟩
      have hsb : ((s[i + 3]'hlt3).toNat : Int) = (b : Int) := by rw [hb]
      rw [← hb] at hp3 hb8
      have hxb : hexZ (Z.peek (left s (i + 1 + 1 + 1))) = Z.hexd b := by rw [show i + 1 + 1 + 1 = i + 3 by omega, hp3]; unfold hexZ; rw [if_neg (by omega), Int.toNat_natCast]
      have hbb := hexZ_bd (Z.peek (left s (i + 1 + 1 + 1)))
      rw [hxb] at hbb hL
      obtain ⟨x2, hx2⟩ : ∃ x2, x2 = Z.hexd b := ⟨_, rfl⟩
      rw [← hx2] at hbb hL
      have HX2 := Lib.hid hx2
      obtain ⟨bb1, bb2⟩ := hbb
      have n0 : (0 : Int) ≤ (i : Int) + 3 := by omega
      have n1 : (i : Int) + 3 < (s.size : Int) := by omega
      have hb256 : b < 256 := hb8
      have hrf : refE (Z.peek (left s (i + 1 + 1 + 1))) = 3 := by rw [show i + 1 + 1 + 1 = i + 3 by omega, hp3]; exact refE_pos (by omega)
      rw [hrf] at hL
      clear hb hb8 hxb hx2 hp3 hrf hn1
      by_cases hn2 : x2 < 0
      · rw [if_pos hn2] at hL
        have hL : Z.R.err 3 = R := hL
        have HRE : Hid (R = .err 3) := Lib.hid hL.symm
        have dx2 : decide (x2 < 0) = true := by simp; omega
        clear hL
        go_wp2_with fail
        refine wp_loop_rounds 3 ?_
        rw [rounds_succ]
        go_wp2_with fail
        refine (rhex_any a ha256 wr).mono ?_
        rintro e w2 ⟨rfl, rfl⟩
        rw [← HX1.out]
        go_wp2_with fail
        refine (rhex_any a ha256 _).mono ?_
        rintro e w2 ⟨rfl, rfl⟩
        rw [← HX1.out]
        go_wp2_with fail
        rw [rounds_succ]
        go_wp2_with fail
        refine (rhex_any b hb256 _).mono ?_
        rintro e w2 ⟨rfl, rfl⟩
        rw [← HX2.out]
        go_wp2_with fail
        go_ret3
        refine ⟨?_, HB.out⟩
        rw [HRE.out]; rfl
      have dx2 : decide (x2 < 0) = false := by simp; omega
      have x20 : 0 ≤ x2 := by omega
      rw [if_neg hn2] at hL
      have hL : Z.litG f ((left s i).drop 4) (acc ++ [UInt8.ofNat (16 * x1.toNat + x2.toNat)]) (i + 4) = R := hL
      rw [left_drop] at hL
      have hcc : 16 * x1 + x2 = ((UInt8.ofNat (16 * x1.toNat + x2.toNat)).toNat : Int) := by simp; omega
      obtain ⟨cc, hc⟩ : ∃ cc, cc = UInt8.ofNat (16 * x1.toNat + x2.toNat) := ⟨_, rfl⟩
      rw [← hc] at hL hcc
      have HCC := Lib.hid hcc
      clear hc hcc
      have hmx : (16 * x1 + x2) % 256 = 16 * x1 + x2 := by omega
      clear hn2
      go_wp2_with fail
      refine wp_loop_rounds 3 ?_
      rw [rounds_succ]
      go_wp2_with fail
      refine (rhex_any a ha256 wr).mono ?_
      rintro e w2 ⟨rfl, rfl⟩
      rw [← HX1.out]
      go_wp2_with fail
      refine (rhex_any a ha256 _).mono ?_
      rintro e w2 ⟨rfl, rfl⟩
      rw [← HX1.out]
      go_wp2_with fail
      rw [rounds_succ]
      go_wp2_with fail
      refine (rhex_any b hb256 _).mono ?_
      rintro e w2 ⟨rfl, rfl⟩
      rw [← HX2.out]
      go_wp2_with fail
      refine (rhex_any b hb256 _).mono ?_
      rintro e w2 ⟨rfl, rfl⟩
      rw [← HX2.out]
      go_wp2_with fail
      rw [rounds_succ]
      have HLL : Hid (Z.litG f (left s (i + 4)) (acc ++ [cc]) (i + 4) = R) := Lib.hid hL
      have hr := RB.one w2 (n := (16 * x1 + x2)) (c := cc) (HCC.out)
      have ho4 := HO.out.alloc (.cells #[.int .u8 (16 * x1 + x2)] 5)
      clear hL
      go_wp2_with (at_builtin; refine wpList_append_rb rfl _ _ rfl w.heap.size _ acc rfl ho4 _ _ _ _ _ [cc] rfl hr ?c1 ?c2 ?_)
      case c1 => omega
      case c2 => (first | omega | (simp; omega))
      intro v' w4 ho5 hb5
      have HB5 := Lib.hid ((HB.out.alloc hbz (.cells #[.int .u8 (16 * x1 + x2)] 5)).trans hb5)
      have HO5 := Lib.hid ho5
      clear hr ho4 ho5 hb5
      go_wp2_with fail
      exact ⟨⟨i + 4, f, acc ++ [cc], by go_num, by omega, by omega, by omega, by simp; omega, HO5, HB5, HLL⟩, by simp [intOf]; omega⟩
    · obtain rfl : i = s.size := by omega
      have hii : decide ((s.size : Int) < (s.size : Int)) = false := by simp
      rw [left_nil (Nat.le_refl _)] at hL
      have hL : Z.R.err 4 = R := hL
      have HRE : Hid (R = .err 4) := Lib.hid (hL.symm)
      clear hL
      go_wp2_with fail
      go_ret3
      refine ⟨?_, HB.out⟩
      rw [HRE.out]; rfl
end Go.Proofs.YtffolfnaalijnaaDoor
