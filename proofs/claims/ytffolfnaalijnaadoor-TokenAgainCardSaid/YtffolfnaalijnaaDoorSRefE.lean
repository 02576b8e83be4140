/-
  Layer 7: the reference: Scan.
-/
import Derived.Test.YtffolfnaalijnaaDoorSRefD
namespace Go.Proofs.YtffolfnaalijnaaDoor
set_option linter.unusedVariables false
open Go.RowKit

set_option maxRecDepth 100000 in
set_option maxHeartbeats 8000000 in
theorem rscan_any (s : ByteArray) (w : World) (hs : s.size ≤ maxLen) :
    Calls Tryd.prog 12 #[.string s] w (SEnds s w) := by
  unfold maxLen at hs
  by_cases hbig : 16384 < s.size
  · have hz : Z.scan s.data.toList = ([], 0, 6) := by unfold Z.scan; rw [if_pos (by rw [l7_len]; exact hbig)]
    unfold SEnds
    rw [hz]
    clear hz
    go_enter Tryd.func12, Tryd.ntmps12
    go_wp2_with fail
    go_ret3
    exact ⟨none, 0, rfl, TR.nil_ _ _ _, Below.refl _ _⟩
  · have hft : s.size ≤ 16384 := by omega
    have hbi : decide (16384 < (s.size : Int)) = false := by simp; omega
    obtain ⟨R, hR⟩ : ∃ R, R = Z.scan s.data.toList := ⟨_, rfl⟩
    unfold SEnds
    rw [← hR]
    unfold Z.scan at hR
    rw [if_neg (by rw [l7_len]; exact hbig), l7_len] at hR
    have HR := Lib.hid hR
    clear hR hbig
    go_enter Tryd.func12, Tryd.ntmps12
    go_wp2_with fail
    go_loopw [5, 6, 7, 8, 9] (fun v x _ _ _ wr => ∃ (i f : Nat) (acc : List Z.Tok), x = .int .i64 i ∧ i ≤ s.size ∧ s.size - i < f ∧ acc.length ≤ i ∧ Hid (OT wr w.heap.size v acc) ∧ Hid (Below w.heap.size w wr) ∧ Hid (Z.scanG f (left s i) i acc = R)) (fun _ x _ _ _ _ => s.size - (intOf x).toNat)
    case atStart => exact ⟨0, s.size + 1, [], rfl, Nat.zero_le _, by omega, by simp, Lib.hid (OT.empty _ _), Lib.hid (Below.refl _ _), Lib.hid HR.out.symm⟩
    case round =>
      obtain ⟨i, f, acc, rfl, hi, hf, hacc, HO, HB, HL⟩ := hrel
      obtain ⟨f, rfl⟩ : ∃ f', f = f' + 1 := ⟨f - 1, by omega⟩
      have hbz := HB.out.size
      have HOWN : Hid (∀ b, u5.ownBlock = some b → w.heap.size ≤ b) := Lib.hid fun b hb => (World.ownsRow.lt HO.out b hb).1
      by_cases hlt : i < s.size
      · have hcons := left_cons hlt
        have hc8 := (s[i]'hlt).toNat_lt
        obtain ⟨u, hu⟩ : ∃ u, u = s[i]'hlt := ⟨_, rfl⟩
        have hsu0 : ((s[i]'hlt).toNat : Int) = (u.toNat : Int) := by rw [hu]
        rw [← hu] at hcons hc8
        obtain ⟨ch, hch⟩ : ∃ ch, ch = u.toNat := ⟨_, rfl⟩
        have hsu : ((s[i]'hlt).toNat : Int) = (ch : Int) := by rw [hsu0, hch]
        rw [← hch] at hc8
        have HCH := Lib.hid hch
        have HCONS := Lib.hid hcons
        have i0 : (0 : Int) ≤ (i : Int) := by omega
        have i1 : (i : Int) < (s.size : Int) := by omega
        have hii : decide ((i : Int) < (s.size : Int)) = true := by simp; omega
        clear hsu0 hu hch hc8 hcons
        by_cases hbl : Z.blank ch = true
        · have hcs : ch = 32 ∨ ch = 9 ∨ ch = 10 := by unfold Z.blank at hbl; simp at hbl; omega
          have HLL : Hid (Z.scanG (f + 1) (left s (i + 1)) (i + 1) acc = R) := Lib.hid (by
            have := HL.out
            rw [HCONS.out, Z.scanG_blank (by rw [← HCH.out]; exact hbl)] at this; exact this)
          clear hbl HL
          have hbs : (((ch : Int) == 32) = true) ∨ (((ch : Int) == 32) = false ∧ ((ch : Int) == 9) = true) ∨ (((ch : Int) == 32) = false ∧ ((ch : Int) == 9) = false ∧ ((ch : Int) == 10) = true) := by
            rcases hcs with rfl | rfl | rfl
            · exact .inl rfl
            · exact .inr (.inl ⟨rfl, rfl⟩)
            · exact .inr (.inr ⟨rfl, rfl, rfl⟩)
          clear hcs
          rcases hbs with g1 | ⟨g1, g2⟩ | ⟨g1, g2, g3⟩
          all_goals (
            go_wp2_with fail
            exact ⟨⟨i + 1, f + 1, acc, by go_num, hlt, by omega, by omega, HO, HB, HLL⟩, by simp [intOf]; omega⟩)
        · have hnb : Z.blank ch = false := by cases h : Z.blank ch; rfl; exact absurd h hbl
          have hsp : Z.spanN Z.blank (left s i) = 0 := by rw [HCONS.out]; exact Z.spanN_no (by rw [← HCH.out]; exact hnb)
          have hL := HL.out
          rw [Z.scanG, hsp, List.drop_zero, Nat.add_zero] at hL
          have hq : ch ≠ 32 ∧ ch ≠ 9 ∧ ch ≠ 10 := by unfold Z.blank at hnb; simp at hnb; omega
          obtain ⟨q1, q2, q3⟩ := hq
          have g1 : ((ch : Int) == 32) = false := by rw [beq_eq_false_iff_ne]; omega
          have g2 : ((ch : Int) == 9) = false := by rw [beq_eq_false_iff_ne]; omega
          have g3 : ((ch : Int) == 10) = false := by rw [beq_eq_false_iff_ne]; omega
          obtain ⟨Y, hY⟩ : ∃ Y, Y = bS (left s i) := ⟨_, rfl⟩
          have hcut : s.extract i s.size = Y := by
            rw [cut_eq, hY, List.take_of_length_le (by rw [left_len]; omega)]
          have hYl : Y.data.toList = left s i := by rw [hY]; rfl
          have hYz : Y.size = s.size - i := by rw [hY, bS_size, left_len]
          have HYL := Lib.hid hYl
          have hne : left s i ≠ [] := by rw [HCONS.out]; simp
          have HNE := Lib.hid hne
          clear hnb hbl hsp q1 q2 q3 hY hYl HL hne
          go_wp2_with fail
          refine (rone_any Y wr (by omega) (by omega)).mono ?_
          rintro e w2 ⟨hm, hb2⟩
          rw [HYL.out] at hm
          have ho2 := HO.out.kept (grown_below hb2 none) (Classical.em _)
          have HB2 := Lib.hid (HB.out.trans (hb2.mono hbz))
          have hz2 := Nat.le_trans hbz hb2.size
          have HO2 := Lib.hid ho2
          clear HO HB ho2 hb2
          cases hone : Z.one (left s i) with
          | err er =>
            rw [hone] at hm hL
            have hm : e = .returned (.tuple #[.agg #[.int .i64 0, .int .i64 0, .string ⟨#[]⟩, .int .i64 0], .int .i64 0, .int .i64 er]) := hm
            subst hm
            have HLL : Hid (R = ([], i, er)) := Lib.hid hL.symm
            have her := Z.one_err hone
            have hen : (er != 0) = true := by rw [bne_iff_ne]; exact her
            clear hL hone her
            go_wp2_with fail
            go_ret3
            rw [HLL.out]
            exact ⟨none, 0, rfl, TR.nil_ _ _ _, HB2.out.alloc hz2 _⟩
          | ok k t v n =>
            have hk0 : k ≠ 0 := fun e => HNE.out (Z.one_end hone e).1
            have hn1 := Z.one_pos hone hk0
            have hnl := Z.one_len hone
            rw [left_len] at hnl
            rw [hone] at hm hL
            have hm : e = .returned (.tuple #[.agg #[.int .i64 k, .int .i64 0, .string (bS t), .int .i64 v], .int .i64 (n : Int), .int .i64 0]) := hm
            subst hm
            have hL : (if k = 0 then (acc ++ [(⟨k, (i : Int), t, v⟩ : Z.Tok)], 0, 0) else Z.scanG f ((left s i).drop n) (i + n) (acc ++ [⟨k, (i : Int), t, v⟩])) = R := hL
            rw [if_neg hk0, left_drop] at hL
            have HLL := Lib.hid hL
            obtain ⟨T, hT⟩ : ∃ T, T = bS t := ⟨_, rfl⟩
            rw [← hT]
            have HT := Lib.hid hT
            obtain ⟨na, hna⟩ : ∃ n, n = acc.length := ⟨_, rfl⟩
            have HNA := Lib.hid hna
            have hnb : na ≤ 1000000 := by omega
            have ho : w2.ownsRow w.heap.size 30 4 u5 na (rowCells acc) := by rw [hna]; exact HO2.out
            have ho3 := World.ownsRow.alloc (World.ownsRow.alloc ho (.cells #[.int .i64 k, .int .i64 (i : Int), .string T, .int .i64 v] 30)) (.cells #[.int .i64 k, .int .i64 (i : Int), .string T, .int .i64 v] 30)
            obtain ⟨a1, a2⟩ := al2_heap w2 (.cells #[.int .i64 k, .int .i64 (i : Int), .string T, .int .i64 v] 30) (.cells #[.int .i64 k, .int .i64 (i : Int), .string T, .int .i64 v] 30)
            clear hL hone hT hna ho a1 hk0
            go_wp2_with (at_builtin; refine wpList_push_tok rfl _ _ rfl w.heap.size na (w2.heap.size + 1) u5 (rowCells acc) k (i : Int) v T 30 (0, 0) rfl ho3 rfl a2 ?c1 ?c2 ?_)
            case c1 => omega
            case c2 => simp; omega
            intro g1 cap w3 h1 h2 h3 h4
            have hw23 : w2.grownBy ((w2.alloc (.cells #[.int .i64 k, .int .i64 (i : Int), .string T, .int .i64 v] 30)).alloc (.cells #[.int .i64 k, .int .i64 (i : Int), .string T, .int .i64 v] 30)) u5.ownBlock := (World.grownBy_alloc _ _ _).trans (World.grownBy_alloc _ _ _)
            have hg3 := hw23.trans h2
            have hb3 := HB2.out.grown hg3 HB2.out.size (fun b hb => HOWN.out b hb)
            rw [HT.out] at h1
            have ho4 := OT.push HNA.out h1
            have HB3 := Lib.hid hb3; have HO4 := Lib.hid ho4
            clear h1 h2 h3 h4 hw23 hg3 hb3 ho4 ho3 a2 HB2 HO2 HOWN
            go_wp2_with fail
            exact ⟨⟨i + n, f, acc ++ [⟨k, (i : Int), t, v⟩], by go_num, by omega, by omega, by rw [List.length_append]; simp; omega, HO4, HB3, HLL⟩, by simp [intOf]; omega⟩
      · obtain rfl : i = s.size := by omega
        have hii : decide ((s.size : Int) < (s.size : Int)) = false := by simp
        have HLR : Hid (R = (acc ++ [⟨0, ((s.size : Nat) : Int), [], 0⟩], 0, 0)) := Lib.hid (by
          have := HL.out
          rw [left_nil (Nat.le_refl _)] at this
          exact this.symm)
        obtain ⟨na, hna⟩ : ∃ n, n = acc.length := ⟨_, rfl⟩
        have HNA := Lib.hid hna
        have hnb : na ≤ 1000000 := by omega
        have ho : wr.ownsRow w.heap.size 30 4 u5 na (rowCells acc) := by rw [hna]; exact HO.out
        have ho3 := World.ownsRow.alloc ho (.cells #[.int .i64 0, .int .i64 (s.size : Int), .string ⟨#[]⟩, .int .i64 0] 30)
        have a2 := al1_heap wr (.cells #[.int .i64 0, .int .i64 (s.size : Int), .string ⟨#[]⟩, .int .i64 0] 30)
        clear HL hna ho
        go_wp2_with (at_builtin; refine wpList_push_tok rfl _ _ rfl w.heap.size na wr.heap.size u5 (rowCells acc) 0 (s.size : Int) 0 ⟨#[]⟩ 30 (0, 0) rfl ho3 rfl a2 ?c1 ?c2 ?_)
        case c1 => omega
        case c2 => (first | omega | (simp; omega))
        intro g1 cap w3 h1 h2 h3 h4
        have hg3 := (World.grownBy_alloc wr (.cells #[.int .i64 0, .int .i64 (s.size : Int), .string ⟨#[]⟩, .int .i64 0] 30) u5.ownBlock).trans h2
        have hb3 := HB.out.grown hg3 HB.out.size (fun b hb => HOWN.out b hb)
        have ho4 : OT w3 w.heap.size (.slice (some ⟨g1, 0, none⟩) (na + 1) cap) (acc ++ [⟨0, (s.size : Int), [], 0⟩]) := OT.push HNA.out h1
        have HOF := ho4.form
        have HB3 := Lib.hid hb3
        clear h1 h2 h3 h4 hg3 hb3 ho4 ho3 a2
        go_wp2_with fail
        go_ret3
        rw [HLR.out]
        obtain ⟨A, c, hA, hTR⟩ := HOF
        refine ⟨A, c, ?_, hTR.weak (Nat.le_refl _) (Nat.le_refl _), HB3.out⟩
        rw [show (acc ++ [(⟨0, (s.size : Int), [], 0⟩ : Z.Tok)]).length = na + 1 by rw [List.length_append, HNA.out]; rfl] at hA ⊢
        rw [← hA]
        rfl
end Go.Proofs.YtffolfnaalijnaaDoor
