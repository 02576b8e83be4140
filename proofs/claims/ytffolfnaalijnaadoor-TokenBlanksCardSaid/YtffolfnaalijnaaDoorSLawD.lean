/-
  Layer 7: the law of blanks ahead of a text.
-/
import Derived.Test.YtffolfnaalijnaaDoorSLawC
namespace Go.Proofs.YtffolfnaalijnaaDoor
set_option linter.unusedVariables false
open Go.RowKit

theorem alike_sh (m : Nat) (T : List Z.Tok) : Alike T (T.map (Z.sh m)) := by
  refine ⟨by simp, fun j hj => ?_⟩
  simp [List.getD, hj, Z.sh]
theorem sh_pos (m : Nat) (T : List Z.Tok) (j : Nat) (hj : j < T.length) : ((T.map (Z.sh m)).getD j default).pos = (T.getD j default).pos + (m : Int) := by
  simp [List.getD, hj, Z.sh]

theorem scanG_nil : ∀ (f : Nat) (l : List UInt8) (i : Nat) (acc : List Z.Tok), (Z.scanG f l i acc).2.2 ≠ 0 → (Z.scanG f l i acc).1 = [] := by
  intro f
  induction f with
  | zero => intro l i acc h; rfl
  | succ f ih =>
    intro l i acc h
    rw [Z.scanG] at h ⊢
    cases ho : Z.one (l.drop (Z.spanN Z.blank l)) with
    | err e => rfl
    | ok k t v n =>
      rw [ho] at h
      by_cases hk : k = 0
      · simp only [if_pos hk] at h; exact absurd rfl h
      · simp only [if_neg hk] at h ⊢
        exact ih _ _ _ h
theorem scanG_offb : ∀ (f : Nat) (l : List UInt8) (i : Nat) (acc : List Z.Tok), (Z.scanG f l i acc).2.1 ≤ i + l.length := by
  intro f
  induction f with
  | zero => intro l i acc; simp [Z.scanG]
  | succ f ih =>
    intro l i acc
    rw [Z.scanG]
    have hb := Z.spanN_le Z.blank l
    cases ho : Z.one (l.drop (Z.spanN Z.blank l)) with
    | err e => show i + Z.spanN Z.blank l ≤ _; omega
    | ok k t v n =>
      by_cases hk : k = 0
      · simp only [if_pos hk]; omega
      · have hl := Z.one_len ho
        rw [List.length_drop] at hl
        simp only [if_neg hk]
        have := ih ((l.drop (Z.spanN Z.blank l)).drop n) (i + Z.spanN Z.blank l + n) (acc ++ [⟨k, ((i + Z.spanN Z.blank l : Nat) : Int), t, v⟩])
        rw [List.length_drop, List.length_drop] at this
        omega
theorem scan_nil {l : List UInt8} (h : (Z.scan l).2.2 ≠ 0) : (Z.scan l).1 = [] := by
  unfold Z.scan at h ⊢
  split
  · rfl
  · rename_i hc; rw [if_neg hc] at h; exact scanG_nil _ _ _ _ h
theorem scan_offb (l : List UInt8) : (Z.scan l).2.1 ≤ l.length := by
  unfold Z.scan
  split
  · simp
  · have := scanG_offb (l.length + 1) l 0 []; omega
theorem app7 (a b : ByteArray) : (a ++ b).data.toList = a.data.toList ++ b.data.toList := by rw [ByteArray.data_append, Array.toList_append]
theorem bS_rep (j : Nat) : bS (List.replicate j 32) ++ (⟨#[32]⟩ : ByteArray) = bS (List.replicate (j + 1) 32) := by
  apply bS_inj
  rw [app7, List.replicate_succ']
  rfl

set_option maxRecDepth 100000 in
set_option maxHeartbeats 8000000 in
theorem blanksW (s : ByteArray) (a : Nat) (ha : a < 256) (W : World) (hs : s.size ≤ maxLen) (G : Gates W) :
    Calls Tryd.prog 9 #[.string s, .int .u8 (a : Int)] W fun e w' => e = .returned (.bool true) ∧ Below W.heap.size W w' := by
  have hs63 := hs
  unfold maxLen at hs63
  have HG := Lib.hid G
  clear G
  by_cases hbig : 400 < s.size
  · go_enter Tryd.func9, Tryd.ntmps9
    go_wp2_with fail
    refine (works_any W HG.out).mono ?_
    rintro e w1 ⟨rfl, hb⟩
    go_wp2_with fail
    go_ret
    exact ⟨rfl, hb⟩
  · have hs5 : s.size ≤ 400 := by omega
    have hbi : decide (400 < (s.size : Int)) = false := by simp; omega
    obtain ⟨m, hm⟩ : ∃ m, m = a % 20 := ⟨_, rfl⟩
    have hm20 : m < 20 := by omega
    have hmi2 : ((a : Int) % 20) = (m : Int) := by omega
    clear hbig hs63 hm
    go_enter Tryd.func9, Tryd.ntmps9
    go_wp2_with fail
    go_loop [6, 7] (fun x i => ∃ (j : Nat) (X : ByteArray), j ≤ m ∧ i = .int .i64 j ∧ x = .string X ∧ X.size = j ∧ Hid (X = bS (List.replicate j 32))) (fun _ i => m - (intOf i).toNat)
    case atStart => exact ⟨0, _, Nat.zero_le _, rfl, rfl, rfl, Lib.hid rfl⟩
    case round =>
      obtain ⟨j, X, hj, rfl, rfl, hXs, HX⟩ := hrel
      by_cases hlt : j < m
      · have hji : decide ((j : Int) < (m : Int)) = true := by simp; omega
        go_wp2_with fail
        go_round
        case rel => exact ⟨j + 1, _, hlt, by go_num, rfl, by rw [HX.out, bS_rep, bS_size]; simp, Lib.hid (by rw [HX.out, bS_rep])⟩
        case measure => simp [intOf]; omega
      · obtain rfl : j = m := by omega
        have hji : decide ((j : Int) < (j : Int)) = false := by simp
        have hXX : (X ++ s).data.toList = List.replicate j 32 ++ s.data.toList := by rw [app7, HX.out]; rfl
        have hsb := Z.scan_blanks (l := s.data.toList) (m := j) (by rw [l7_len]; omega)
        rw [← hXX] at hsb
        have hzz : (X ++ s).size = j + s.size := by rw [ByteArray.size_append, hXs]
        clear hXX HX
        go_wp2_with fail
        refine (scan_any s W hs HG.out).mono ?_
        intro e w1 hse
        obtain ⟨T, O, er, n, A, c, hsc, hn, hnn, rfl, hT, hb1⟩ := scan_parts hse
        have HB1 := Lib.hid hb1
        have HG1 := Lib.hid (HG.out.below hb1)
        have HT := Lib.hid hT
        have hO : O ≤ 400 := by have := scan_offb s.data.toList; rw [hsc, l7_len] at this; exact Nat.le_trans this hs5
        have HNIL : Hid (er ≠ 0 → n = 0) := Lib.hid (fun h => by have := scan_nil (l := s.data.toList) (by rw [hsc]; exact h); rw [hsc] at this; rw [hn, show T = [] from this]; rfl)
        have HFIN : Hid (er = 0 → Z.Fin s.data.toList T) := Lib.hid (fun h => by have := Z.scan_off (l := s.data.toList) (by rw [hsc]; exact h); rwa [hsc] at this)
        rw [hsc] at hsb
        have HSB : Hid (Z.scan (X ++ s).data.toList = (T.map (Z.sh j), (if er = 0 then 0 else O + j), er)) := Lib.hid hsb
        have HN := Lib.hid hn
        clear hb1 hs hse hT hsc hn hsb
        go_wp2_with fail
        obtain ⟨Y, hY⟩ : ∃ Y, Y = X ++ s := ⟨_, rfl⟩
        rw [← hY] at HSB ⊢
        rw [← hY] at hzz
        clear hY
        refine (scan_any Y w1 (by unfold maxLen; omega) HG1.out).mono ?_
        intro e w2 hse
        obtain ⟨T2, O2, er2, n2, A2, c2, hsc, hn2, hnn2, rfl, hT2, hb2⟩ := scan_parts hse
        rw [HSB.out] at hsc
        simp only [Prod.mk.injEq] at hsc
        obtain ⟨hT2e, hO2, rfl⟩ := hsc
        have hnn : n = n2 := by rw [hn2, HN.out, ← hT2e]; simp
        subst hnn
        have HTB : Hid (TR w2 W.heap.size w1.heap.size A n c T) := Lib.hid (HT.out.below hb2 (Nat.le_refl _))
        have HT2 : Hid (TR w2 w1.heap.size w2.heap.size A2 n c2 (T.map (Z.sh j))) := Lib.hid (by rw [hT2e]; exact hT2)
        have HB2 := Lib.hid (HB1.out.trans (hb2.mono HB1.out.size))
        have HG2 := Lib.hid (HG1.out.below hb2)
        clear hb2 hse hT2 hn2 HSB HT hT2e
        have hee : (er != er) = false := by simp
        by_cases hok : er = 0
        · have HF := Lib.hid (HFIN.out hok)
          subst hok
          clear hO2
          go_wp2_with fail
          refine (same_any HTB.out HT2.out (by omega) (alike_sh j T)).mono ?_
          rintro e w3 ⟨rfl, m3, rfl⟩
          go_wp2_with fail
          go_loopw [14, 69] (fun _ i wr => ∃ (q m4 : Nat), q ≤ n ∧ i = .int .i64 q ∧ wr = w2.drewN m4) (fun _ i _ => n - (intOf i).toNat)
          case atStart => exact ⟨0, m3, Nat.zero_le _, rfl, rfl⟩
          case round =>
            obtain ⟨q, m4, hq, rfl, rfl⟩ := hrel
            by_cases hlt : q < n
            · obtain ⟨b, off, rfl, _, _, hc⟩ := HTB.out.at_ (by omega)
              obtain ⟨b', off', rfl, _, _, hc'⟩ := HT2.out.at_ (by omega)
              obtain ⟨_, c1, _, _⟩ := hc q hlt
              obtain ⟨_, d1, _, _⟩ := hc' q hlt
              rw [sh_pos j T q (by rw [← HN.out]; exact hlt)] at d1
              have hb : 0 ≤ (T.getD q default).pos ∧ (T.getD q default).pos ≤ 400 := by
                rcases (Fin_each HF.out).2 q (by rw [← HN.out]; exact hlt) with ⟨_, h⟩ | ⟨_, _, p, h, hp, _⟩
                · rw [h]; show (0 : Int) ≤ (s.data.toList.length : Int) ∧ (s.data.toList.length : Int) ≤ 400; rw [l7_len]; omega
                · rw [l7_len] at hp; rw [h]; omega
              obtain ⟨P, hP⟩ : ∃ P, P = (T.getD q default).pos := ⟨_, rfl⟩
              rw [← hP] at c1 d1 hb
              obtain ⟨P2, hP2⟩ : ∃ P2, P2 = P + (j : Int) := ⟨_, rfl⟩
              rw [← hP2] at d1
              obtain ⟨hb0, hb1⟩ := hb
              have hp20 : 0 ≤ P2 := by omega
              have hp21 : P2 ≤ 420 := by omega
              have hsb : P2 - (j : Int) = P := by omega
              have hpp : (P != P) = false := by simp
              have q0 : (0 : Int) ≤ (q : Int) := by omega
              have q1 : (q : Int) < (n : Int) := by omega
              have hqi : decide ((q : Int) < (n : Int)) = true := by simp; omega
              clear hc hc' hP hP2
              go_wp2_with fail
              go_quiet (fail)
              go_wp2_with fail
              go_roundw
              case rel => exact ⟨q + 1, m4 + nq, hlt, by go_num, rfl⟩
              case measure => simp [intOf]; omega
            · have hqi : decide ((q : Int) < (n : Int)) = false := by simp; omega
              have HG5 : Hid (Gates (w2.drewN m4)) := Lib.hid (HG2.out.below (below7_drewN (Below.refl _ _) m4))
              have HB5 : Hid (Below W.heap.size W (w2.drewN m4)) := Lib.hid (below7_drewN HB2.out m4)
              go_wp2_with fail
              refine (works_any _ HG5.out).mono ?_
              rintro e w5 ⟨rfl, hb5⟩
              have HB6 := Lib.hid (HB5.out.trans (hb5.mono HB5.out.size))
              clear hb5
              go_wp2_with fail
              go_ret
              exact ⟨rfl, HB6.out⟩
        · have hn0 := HNIL.out hok
          have hO2' : O2 = O + j := by rw [← hO2, if_neg hok]
          have hoi : ((O2 : Nat) : Int) = (O : Int) + (j : Int) := by omega
          have ho20 : (O2 : Int) ≤ 500 := by omega
          have hok2 : (er == 0) = false := by rw [beq_eq_false_iff_ne]; exact hok
          have hok3 : (er != 0) = true := by rw [bne_iff_ne]; exact hok
          obtain ⟨z2, hz2⟩ : ∃ z : Int, z = (O2 : Int) := ⟨_, rfl⟩
          rw [← hz2] at hoi ho20 ⊢
          have hz20 : 0 ≤ z2 := by omega
          have hzs : z2 - (j : Int) = (O : Int) := by omega
          have hzz2 : ((O : Int) != (O : Int)) = false := by simp
          subst hn0
          clear hO2 hO2' hoi hz2 hok
          go_wp2_with fail
          go_loop [14, 69] (fun _ i => i = .int .i64 0) (fun _ i => 0)
          case atStart => rfl
          case round =>
            obtain rfl := hrel
            go_wp2_with fail
            refine (works_any w2 HG2.out).mono ?_
            rintro e w5 ⟨rfl, hb5⟩
            have HB6 := Lib.hid (HB2.out.trans (hb5.mono HB2.out.size))
            clear hb5
            go_wp2_with fail
            go_ret
            exact ⟨rfl, HB6.out⟩

theorem blanksI (s : ByteArray) (a : Int) (ha : (Lit.int .u8 a).wf = true) (W : World) (hs : s.size ≤ maxLen) (G : Gates W) :
    Calls Tryd.prog 9 #[.string s, .int .u8 a] W fun e w' => e = .returned (.bool true) ∧ Below W.heap.size W w' := by
  have e0 : IntKind.u8.min = 0 := by decide
  have e1 : IntKind.u8.max = 255 := by decide
  simp [Lit.wf, e0, e1] at ha
  obtain ⟨n, hn⟩ : ∃ n : Nat, a = (n : Int) := ⟨a.toNat, by omega⟩
  subst hn
  exact blanksW s n (by omega) W hs G
end Go.Proofs.YtffolfnaalijnaaDoor
