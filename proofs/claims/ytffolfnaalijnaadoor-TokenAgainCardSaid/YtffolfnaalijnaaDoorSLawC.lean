/-
  Layer 7: the law of offsets.
-/
import Derived.Test.YtffolfnaalijnaaDoorSLawB
namespace Go.Proofs.YtffolfnaalijnaaDoor
set_option linter.unusedVariables false
open Go.RowKit

theorem scanG_len : ∀ (f : Nat) (l : List UInt8) (i : Nat) (acc : List Z.Tok), (Z.scanG f l i acc).1.length ≤ acc.length + l.length + 1 := by
  intro f
  induction f with
  | zero => intro l i acc; simp [Z.scanG]
  | succ f ih =>
    intro l i acc
    rw [Z.scanG]
    have hb := Z.spanN_le Z.blank l
    cases ho : Z.one (l.drop (Z.spanN Z.blank l)) with
    | err e => simp
    | ok k t v n =>
      by_cases hk : k = 0
      · simp only [if_pos hk, List.length_append, List.length_singleton]; omega
      · have hn := Z.one_pos ho hk
        have hl := Z.one_len ho
        rw [List.length_drop] at hl
        simp only [if_neg hk]
        have := ih ((l.drop (Z.spanN Z.blank l)).drop n) (i + Z.spanN Z.blank l + n) (acc ++ [⟨k, ((i + Z.spanN Z.blank l : Nat) : Int), t, v⟩])
        rw [List.length_append, List.length_drop, List.length_drop, List.length_singleton] at this
        omega
theorem scan_len (l : List UInt8) : (Z.scan l).1.length ≤ 16385 := by
  unfold Z.scan
  split
  · simp
  · have := scanG_len (l.length + 1) l 0 []
    simp at this
    omega
/-- What Scan gives, in parts. -/
theorem scan_parts {s : ByteArray} {w w' : World} {e : Ending} (h : SEnds s w e w') : ∃ (T : List Z.Tok) (O : Nat) (er : Int) (n : Nat) (A : Option Addr) (c : Nat), Z.scan s.data.toList = (T, O, er) ∧ n = T.length ∧ n ≤ 16385 ∧
    e = .returned (.tuple #[.slice A n c, .int .i64 (O : Int), .int .i64 er]) ∧ TR w' w.heap.size w'.heap.size A n c T ∧ Below w.heap.size w w' := by
  obtain ⟨A, c, h1, h2, h3⟩ := h
  exact ⟨_, _, _, _, A, c, rfl, rfl, scan_len _, h1, h2, h3⟩

theorem Fin_rise {L : List UInt8} {T : List Z.Tok} (h : Z.Fin L T) : ∀ j, j + 1 < T.length → (T.getD j default).pos < (T.getD (j + 1) default).pos := by
  obtain ⟨acc, rfl, hI⟩ := h
  intro j hj
  rw [List.length_append, List.length_singleton] at hj
  rcases Nat.lt_or_ge (j + 1) acc.length with h1 | h1
  · rw [Z.getD_snoc _ _ _ (by omega), Z.getD_snoc _ _ _ h1]
    exact hI.rise j h1
  · have e : j + 1 = acc.length := by omega
    rw [Z.getD_snoc _ _ _ (by omega), e, Z.getD_last]
    obtain ⟨_, p, h3, h4, _⟩ := hI.each j (by omega)
    rw [h3]
    show (p : Int) < (L.length : Int)
    omega
theorem Fin_each {L : List UInt8} {T : List Z.Tok} (h : Z.Fin L T) : 0 < T.length ∧ ∀ j, j < T.length → (j + 1 = T.length ∧ T.getD j default = ⟨0, (L.length : Int), [], 0⟩) ∨ (j + 1 < T.length ∧ (T.getD j default).k ≠ 0 ∧ ∃ p : Nat, (T.getD j default).pos = (p : Int) ∧ ∃ hp : p < L.length, Z.blank (L[p]).toNat = false) := by
  obtain ⟨acc, rfl, hI⟩ := h
  rw [List.length_append, List.length_singleton]
  refine ⟨by omega, fun j hj => ?_⟩
  rcases Nat.lt_or_ge j acc.length with h1 | h1
  · refine .inr ⟨by omega, ?_⟩
    rw [Z.getD_snoc _ _ _ h1]
    obtain ⟨h2, p, h3, _, h5⟩ := hI.each j h1
    exact ⟨h2, p, h3, h5⟩
  · obtain rfl : j = acc.length := by omega
    exact .inl ⟨rfl, Z.getD_last _ _⟩
theorem Fin_first {L : List UInt8} {T : List Z.Tok} (h : Z.Fin L T) : -1 < (T.getD 0 default).pos := by
  obtain ⟨h0, h⟩ := Fin_each h
  rcases h 0 h0 with ⟨_, h⟩ | ⟨_, _, p, h, _⟩
  · rw [h]; show (-1 : Int) < (L.length : Int); omega
  · rw [h]; omega

set_option maxRecDepth 100000 in
set_option maxHeartbeats 4000000 in
theorem offsetsW (s : ByteArray) (W : World) (hs : s.size ≤ maxLen) (G : Gates W) :
    Calls Tryd.prog 8 #[.string s] W fun e w' => e = .returned (.bool true) ∧ Below W.heap.size W w' := by
  have hs63 := hs
  unfold maxLen at hs63
  have HG := Lib.hid G
  clear G
  by_cases hbig : 400 < s.size
  · go_enter Tryd.func8, Tryd.ntmps8
    go_wp2_with fail
    refine (works_any W HG.out).mono ?_
    rintro e w1 ⟨rfl, hb⟩
    go_wp2_with fail
    go_ret
    exact ⟨rfl, hb⟩
  · have hs5 : s.size ≤ 400 := by omega
    have hbi : decide (400 < (s.size : Int)) = false := by simp; omega
    clear hbig hs63
    go_enter Tryd.func8, Tryd.ntmps8
    go_wp2_with fail
    refine (scan_any s W hs HG.out).mono ?_
    intro e w1 hse
    obtain ⟨T, O, er, n, A, c, hsc, hn, hnn, rfl, hT, hb1⟩ := scan_parts hse
    have HB1 := Lib.hid hb1
    have HG1 := Lib.hid (HG.out.below hb1)
    have HT := Lib.hid hT
    have HN := Lib.hid hn
    clear hb1 hs hse hT
    by_cases hok : er = 0
    · have HF : Hid (Z.Fin s.data.toList T) := Lib.hid (by have := Z.scan_off (l := s.data.toList) (by rw [hsc]; exact hok); rwa [hsc] at this)
      have hn0 : 0 < n := by rw [hn]; exact (Fin_each HF.out).1
      subst hok
      clear hn hsc
      go_wp2_with fail
      go_loopw [6, 7, 8, 9, 25] (fun la _ _ _ i wr => ∃ (j : Nat) (z : Int), j ≤ n ∧ i = .int .i64 j ∧ la = .int .i64 z ∧ -1 ≤ z ∧ z ≤ 400 ∧ Hid (j < n → z < (T.getD j default).pos) ∧ Hid (Below w1.heap.size w1 wr)) (fun _ _ _ _ i _ => n - (intOf i).toNat)
      case atStart => exact ⟨0, -1, Nat.zero_le _, rfl, rfl, by omega, by omega, Lib.hid fun _ => Fin_first HF.out, Lib.hid (Below.refl _ _)⟩
      case round =>
        obtain ⟨j, z, hj, rfl, rfl, hz1, hz2, HZ, HW⟩ := hrel
        by_cases hlt : j < n
        · obtain ⟨b, off, rfl, _, _, hc⟩ := (HT.out.below HW.out (Nat.le_refl _)).at_ (by omega)
          obtain ⟨c0, c1, c2, c3⟩ := hc j hlt
          have hzl := HZ.out hlt
          have hfe := (Fin_each HF.out).2 j (by rw [← HN.out]; exact hlt)
          have hrs : j + 1 < n → (T.getD j default).pos < (T.getD (j + 1) default).pos := fun h => Fin_rise HF.out j (by rw [← HN.out]; exact h)
          have HRS := Lib.hid hrs
          have j0 : (0 : Int) ≤ (j : Int) := by omega
          have j1 : (j : Int) < (n : Int) := by omega
          have hji : decide ((j : Int) < (n : Int)) = true := by simp; omega
          have HWA := Lib.hid (HW.out.alloc HW.out.size (.cells #[.int .i64 (T.getD j default).k, .int .i64 (T.getD j default).pos, .string (bS (T.getD j default).t), .int .i64 (T.getD j default).v] 30))
          clear hc hrs HZ
          rcases hfe with ⟨h1, h2⟩ | ⟨h1, h2, p, h3, hp, h5⟩
          · rw [h2] at c0 c1 c2 c3 hzl HWA
            have hzl : z < ((s.data.toList.length : Nat) : Int) := hzl
            rw [l7_len] at hzl
            have c1 : wr.cell? ⟨b, off + j * 4 + 1, none⟩ = some (.int .i64 (s.size : Int)) := by rw [c1, l7_len]
            replace c0 : wr.cell? ⟨b, off + j * 4, none⟩ = some (.int .i64 0) := c0
            replace c2 : wr.cell? ⟨b, off + j * 4 + 2, none⟩ = some (.string (bS [])) := c2
            replace c3 : wr.cell? ⟨b, off + j * 4 + 3, none⟩ = some (.int .i64 0) := c3
            have HWB : Hid (Below w1.heap.size w1 (wr.alloc (.cells #[.int .i64 0, .int .i64 (s.size : Int), .string (bS []), .int .i64 0] 30))) := Lib.hid (HW.out.alloc HW.out.size _)
            have e0 : ((j : Int) == (n : Int) - 1) = true := by have : (j : Int) = (n : Int) - 1 := by (have := HN.out; omega)
                                                                rw [this]; simp
            have e1 : decide ((s.size : Int) ≤ z) = false := by simp; omega
            have e2 : decide ((s.size : Int) < z) = false := by simp; omega
            have hjn : j + 1 = n := by have := HN.out; omega
            clear h1 h2 HWA
            go_wp2_with fail
            exact ⟨⟨j + 1, (s.size : Int), by omega, by go_num, rfl, by omega, by omega, Lib.hid fun h => by omega, HWB⟩, by simp [intOf]; omega⟩
          · have hjn : j + 1 < n := by have := HN.out; omega
            have hnx := HRS.out hjn
            obtain ⟨k, hk⟩ : ∃ k, k = (T.getD j default).k := ⟨_, rfl⟩
            obtain ⟨v, hv⟩ : ∃ v, v = (T.getD j default).v := ⟨_, rfl⟩
            obtain ⟨t, ht⟩ : ∃ t, t = bS (T.getD j default).t := ⟨_, rfl⟩
            rw [← hk, ← hv, ← ht, h3] at HWA
            rw [← hk] at c0 h2
            rw [h3] at c1 hzl hnx
            rw [← ht] at c2
            rw [← hv] at c3
            have hp : p < s.size := by rw [l7_len] at hp; exact hp
            have hb2 : Z.blank (s[p]'hp).toNat = false := h5
            obtain ⟨ch, hch⟩ : ∃ ch, ch = (s[p]'hp).toNat := ⟨_, rfl⟩
            have hsp : ((s[p]'hp).toNat : Int) = (ch : Int) := by rw [hch]
            rw [← hch] at hb2
            unfold Z.blank at hb2
            simp only [Bool.or_eq_false_iff, decide_eq_false_iff_not] at hb2
            obtain ⟨⟨b1, b2⟩, b3⟩ := hb2
            have e0 : ((j : Int) == (n : Int) - 1) = false := by rw [beq_eq_false_iff_ne]; omega
            have e1 : decide ((p : Int) ≤ z) = false := by simp; omega
            have e2 : decide ((p : Int) < z) = false := by simp; omega
            have e3 : (k == 0) = false := by rw [beq_eq_false_iff_ne]; exact h2
            have e4 : decide ((s.size : Int) ≤ (p : Int)) = false := by simp; omega
            have i0 : (0 : Int) ≤ (p : Int) := by omega
            have i1 : (p : Int) < (s.size : Int) := by omega
            have g1 : ((ch : Int) == 32) = false := by rw [beq_eq_false_iff_ne]; omega
            have g2 : ((ch : Int) == 10) = false := by rw [beq_eq_false_iff_ne]; omega
            have g3 : ((ch : Int) == 9) = false := by rw [beq_eq_false_iff_ne]; omega
            have HNX := Lib.hid hnx
            clear h1 h2 h3 h5 hk hv ht hch b1 b2 b3 hnx HRS
            go_wp2_with fail
            exact ⟨⟨j + 1, (p : Int), by omega, by go_num, rfl, by omega, by omega, Lib.hid fun h => HNX.out, HWA⟩, by simp [intOf]; omega⟩
        · have hji : decide ((j : Int) < (n : Int)) = false := by simp; omega
          have hn0i : decide ((0 : Int) < (n : Int)) = true := by simp; omega
          have HGR := Lib.hid ((HG1.out).below HW.out)
          have HBR := Lib.hid (HB1.out.trans (HW.out.mono HB1.out.size))
          go_wp2_with fail
          refine (works_any wr HGR.out).mono ?_
          rintro e w2 ⟨rfl, hb⟩
          have HB2 := Lib.hid (HBR.out.trans (hb.mono HBR.out.size))
          clear hb
          go_wp2_with fail
          go_ret
          exact ⟨rfl, HB2.out⟩
    · have hen : (er != 0) = true := by rw [bne_iff_ne]; exact hok
      clear hok hsc hn
      go_wp2_with fail
      refine (works_any w1 HG1.out).mono ?_
      rintro e w2 ⟨rfl, hb⟩
      have HB2 := Lib.hid (HB1.out.trans (hb.mono HB1.out.size))
      clear hb
      go_wp2_with fail
      go_ret
      exact ⟨rfl, HB2.out⟩
end Go.Proofs.YtffolfnaalijnaaDoor
