/-
  Layer 7: Scan.
-/
import Derived.Test.YtffolfnaalijnaaDoorSCodJ
import Derived.Laws.EntriesVeiled
namespace Go.Proofs.YtffolfnaalijnaaDoor
set_option linter.unusedVariables false
open Go.RowKit

theorem below7_drewN {B : Nat} {w w1 : World} (hb : Below B w w1) (n : Nat) : Below B w (w1.drewN n) := hb.trans ⟨rfl, rfl, rfl, Nat.le_refl _, fun _ _ => rfl⟩
theorem OT.push {w : World} {base : Nat} {v : Value} {acc : List Z.Tok} {n : Nat} {k p z : Int} {t : List UInt8} (hn : n = acc.length) (h : w.ownsRow base 30 4 v (n + 1) (rowCells acc ++ [.int .i64 k, .int .i64 p, .string (bS t), .int .i64 z])) : OT w base v (acc ++ [⟨k, p, t, z⟩]) := by
  subst hn
  unfold OT
  rw [rowCells_snoc, List.length_append]
  exact h
/-- What Scan gives. -/
def SEnds (s : ByteArray) (w : World) (e : Ending) (w' : World) : Prop := ∃ A c, e = .returned (.tuple #[.slice A (Z.scan s.data.toList).1.length c, .int .i64 ((Z.scan s.data.toList).2.1 : Int), .int .i64 (Z.scan s.data.toList).2.2]) ∧
  TR w' w.heap.size w'.heap.size A (Z.scan s.data.toList).1.length c (Z.scan s.data.toList).1 ∧ Below w.heap.size w w'

set_option maxRecDepth 100000 in
set_option maxHeartbeats 4000000 in
theorem scan_any (s : ByteArray) (w : World) (hs : s.size ≤ maxLen) (G : Gates w) :
    Calls Tryd.prog 11 #[.string s] w (SEnds s w) := by
  unfold maxLen at hs
  by_cases hbig : 16384 < s.size
  · have hz : Z.scan s.data.toList = ([], 0, 6) := by unfold Z.scan; rw [if_pos (by rw [l7_len]; exact hbig)]
    unfold SEnds
    rw [hz]
    have HG := Lib.hid G
    clear hz G
    go_enter Tryd.func11, Tryd.ntmps11
    go_wp2_with fail
    go_ret3
    exact ⟨none, 0, rfl, TR.nil_ _ _ _, Below.refl _ _⟩
  · have hft : s.size ≤ 16384 := by omega
    have hbi : decide (16384 < (s.size : Int)) = false := by simp; omega
    obtain ⟨R, hR⟩ : ∃ R, R = Z.scan s.data.toList := ⟨_, rfl⟩
    unfold SEnds
    rw [← hR]
    unfold Z.scan at hR
    rw [if_neg (by rw [l7_len]; exact hbig), l7_len] at hR
    have HR := Lib.hid hR
    have HG := Lib.hid G
    clear hR G hbig
    go_enter Tryd.func11, Tryd.ntmps11
    go_wp2_with fail
    refine (classifier_any w).mono ?_
    rintro e w1 ⟨h, rfl, hh, htab, hb1⟩
    have HTAB := Lib.hid htab
    have HB1 := Lib.hid hb1
    have hsz1 := row_lt7 htab
    clear htab hb1
    go_wp2_with fail
    obtain ⟨g, hg⟩ : ∃ g, g = w1.heap.size := ⟨_, rfl⟩
    rw [← hg]
    have hsc : Sc (w1.alloc (.cells #[.string s, .int .i64 0, clsV h] 38)) g h s 0 := ⟨by rw [hg]; exact al1_heap _ _, (al_old hsz1).trans HTAB.out, by omega, Nat.zero_le _, hft⟩
    have hb2 : Below w.heap.size w (w1.alloc (.cells #[.string s, .int .i64 0, clsV h] 38)) := HB1.out.alloc HB1.out.size _
    have hz2 : (w1.alloc (.cells #[.string s, .int .i64 0, clsV h] 38)).heap.size = g + 1 := by rw [hg]; simp
    have hge : w.heap.size ≤ g := by rw [hg]; exact HB1.out.size
    have HSC := Lib.hid hsc; have HB2 := Lib.hid hb2
    have hhg : h < g := by omega
    clear hsc hb2 hg HTAB HB1 hsz1
    generalize w1.alloc (.cells #[.string s, .int .i64 0, clsV h] 38) = W0 at *
    go_loopw [6, 7, 8] (fun v _ _ wr => ∃ (i f : Nat) (acc : List Z.Tok), Hid (OT wr (g + 1) v acc) ∧ Hid (Sc wr g h s i) ∧ Hid (Below w.heap.size w wr) ∧ g + 1 ≤ wr.heap.size ∧ s.size - i < f ∧ acc.length ≤ i ∧ i ≤ s.size ∧ Hid (Z.scanG f (left s i) i acc = R)) (fun _ _ _ wr => s.size - atOf7 wr g)
    case atStart => exact ⟨0, s.size + 1, [], Lib.hid (OT.empty _ _), HSC, HB2, by omega, by omega, by simp, by omega, Lib.hid HR.out.symm⟩
    case round =>
      clear HSC HB2 HR hz2
      obtain ⟨i, f, acc, HO, HS, HB, hz, hf, hacc, hi, HL⟩ := hrel
      have HAT := Lib.hid (atOf7_eq HS.out)
      obtain ⟨f, rfl⟩ : ∃ f', f = f' + 1 := ⟨f - 1, by omega⟩
      have HOWN : Hid (∀ b, u6.ownBlock = some b → g + 1 ≤ b) := Lib.hid fun b hb => (World.ownsRow.lt HO.out b hb).1
      go_wp2_with fail
      refine (next_any HS.out ⟨HG.out, HB.out, hge⟩).mono ?_
      rintro e w2 ⟨hg2, hm⟩
      have hL := HL.out
      rw [Z.scanG] at hL
      have ho2 := HO.out.kept hg2 (.inr (fun e => by have := HOWN.out g e; omega))
      have hb2 := HB.out.grown hg2 (by omega) (fun k hk => by injection hk with hk; omega)
      have hz2 := Nat.le_trans hz hg2.size
      have HO2 := Lib.hid ho2; have HB2 := Lib.hid hb2
      obtain ⟨p, hp⟩ : ∃ p, p = i + Z.spanN Z.blank (left s i) := ⟨_, rfl⟩
      have hip : i ≤ p := by omega
      have HPP := Lib.hid hp
      rw [← hp] at hm hL
      clear HO HS HB hg2 ho2 hb2 hp HL
      cases hone : Z.one ((left s i).drop (Z.spanN Z.blank (left s i))) with
      | err er =>
        rw [hone] at hm hL
        obtain ⟨rfl, her, j, kj⟩ := hm
        have HLL : Hid (R = ([], p, er)) := Lib.hid hL.symm
        have hen : (er != 0) = true := by rw [bne_iff_ne]; exact her
        clear hL kj hone her
        go_wp2_with fail
        go_quiet (fail)
        go_wp2_with fail
        go_ret3
        rw [HLL.out]
        exact ⟨none, 0, rfl, TR.nil_ _ _ _, below7_drewN (HB2.out.alloc HB2.out.size _) nq⟩
      | ok k t v n =>
        have hpos := fun hk => Z.one_pos hone hk
        have HPOS : Hid (k ≠ 0 → 1 ≤ n) := Lib.hid hpos
        rw [hone] at hm hL
        obtain ⟨rfl, kj⟩ := hm
        have hL : (if k = 0 then (acc ++ [⟨k, (p : Int), t, v⟩], 0, 0) else Z.scanG f (((left s i).drop (Z.spanN Z.blank (left s i))).drop n) (p + n) (acc ++ [⟨k, (p : Int), t, v⟩])) = R := hL
        obtain ⟨T, hT⟩ : ∃ T, T = bS t := ⟨_, rfl⟩
        rw [← hT]
        have HT := Lib.hid hT
        have HLL := Lib.hid hL
        have HKJ := Lib.hid kj
        have hpj := kj.le
        obtain ⟨na, hna⟩ : ∃ n, n = acc.length := ⟨_, rfl⟩
        have HNA := Lib.hid hna
        have hnb : na ≤ 1000000 := by omega
        have ho : w2.ownsRow (g + 1) 30 4 u6 na (rowCells acc) := by rw [hna]; exact HO2.out
        have ho3 := World.ownsRow.alloc (World.ownsRow.alloc ho (.cells #[.int .i64 k, .int .i64 (p : Int), .string T, .int .i64 v] 30)) (.cells #[.int .i64 k, .int .i64 (p : Int), .string T, .int .i64 v] 30)
        obtain ⟨a1, a2⟩ := al2_heap w2 (.cells #[.int .i64 k, .int .i64 (p : Int), .string T, .int .i64 v] 30) (.cells #[.int .i64 k, .int .i64 (p : Int), .string T, .int .i64 v] 30)
        have HA1 := Lib.hid a1
        have HLT : Hid (∀ b, u6.ownBlock = some b → b < w2.heap.size) := Lib.hid fun b hb => (World.ownsRow.lt ho b hb).2
        clear hL kj hone hT hpos hna ho a1
        go_wp2_with (at_builtin; refine wpList_push_tok rfl _ _ rfl (g + 1) na (w2.heap.size + 1) u6 (rowCells acc) k (p : Int) v T 30 (0, 0) rfl ho3 rfl a2 ?c1 ?c2 ?_)
        case c1 => omega
        case c2 => simp; omega
        intro g1 cap w3 h1 h2 h3 h4
        have hw23 : w2.grownBy ((w2.alloc (.cells #[.int .i64 k, .int .i64 (p : Int), .string T, .int .i64 v] 30)).alloc (.cells #[.int .i64 k, .int .i64 (p : Int), .string T, .int .i64 v] 30)) u6.ownBlock := (World.grownBy_alloc _ _ _).trans (World.grownBy_alloc _ _ _)
        have hg3 := hw23.trans h2
        have hrow3 := (h2.block w2.heap.size (by simp only [World.size_alloc]; omega) (fun e => by have := HLT.out _ e.symm; omega)).trans HA1.out
        obtain ⟨⟨r0, r1, r2, r3⟩, t0, t1, t2, t3⟩ := row4_cells hrow3
        have hk3 := HKJ.out.kept hg3 (fun e => by have := HOWN.out _ e.symm; omega) (fun e => by have := HOWN.out _ e.symm; omega)
        have hb3 := HB2.out.grown hg3 HB2.out.size (fun b hb => by have := HOWN.out b hb; omega)
        rw [HT.out] at h1
        have ho4 := OT.push HNA.out h1
        have hz3 := Nat.le_trans hz2 hg3.size
        have HK3 := Lib.hid hk3; have HB3 := Lib.hid hb3; have HO4 := Lib.hid ho4
        clear h1 h2 h3 h4 hw23 hg3 hrow3 hk3 hb3 ho4 ho3 a2 HA1 HB2 HO2 HKJ HOWN HLT
        by_cases hk0 : k = 0
        · have HLR : Hid (R = (acc ++ [⟨k, (p : Int), t, v⟩], 0, 0)) := Lib.hid (by rw [← HLL.out, if_pos hk0])
          have HOF := HO4.out.form
          have ek : (k == 0) = true := by rw [hk0]; rfl
          have HKZ := Lib.hid hk0
          clear HLL hk0
          go_wp2_with fail
          go_ret3
          rw [HLR.out]
          obtain ⟨A, c, hA, hTR⟩ := HOF
          refine ⟨A, c, ?_, hTR.weak (by omega) (Nat.le_refl _), HB3.out⟩
          rw [show (acc ++ [(⟨k, (p : Int), t, v⟩ : Z.Tok)]).length = na + 1 by rw [List.length_append, HNA.out]; rfl] at hA ⊢
          rw [← hA]
          rfl
        · have ek : (k == 0) = false := by rw [beq_eq_false_iff_ne]; exact hk0
          have hn1 := HPOS.out hk0
          have HLR : Hid (Z.scanG f (left s (p + n)) (p + n) (acc ++ [⟨k, (p : Int), t, v⟩]) = R) := Lib.hid (by
            have h := HLL.out
            rw [if_neg hk0, left_drop, left_drop] at h
            rw [← HPP.out] at h
            exact h)
          clear HLL hk0
          go_wp2_with fail
          refine ⟨⟨p + n, f, acc ++ [⟨k, (p : Int), t, v⟩], HO4, HK3, HB3, hz3, by omega, by rw [List.length_append]; simp; omega, hpj, HLR⟩, ?_⟩
          rw [atOf7_eq HK3.out, HAT.out]; omega
end Go.Proofs.YtffolfnaalijnaaDoor
