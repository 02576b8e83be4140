/-
  Layer 7: the code's scanner: integers, signs.
-/
import Derived.Test.YtffolfnaalijnaaDoorSGate
namespace Go.Proofs.YtffolfnaalijnaaDoor
set_option linter.unusedVariables false
open Go.RowKit

theorem take_all (p : Nat → Bool) (l : List UInt8) : ∀ c ∈ l.take (Z.spanN p l), p c.toNat = true := by
  induction l with
  | nil => intro c hc; simp at hc
  | cons a r ih =>
    intro c hc
    cases hp : p a.toNat with
    | false => rw [Z.spanN_no hp] at hc; simp at hc
    | true =>
      rw [Z.spanN_yes hp, List.take_succ_cons] at hc
      rcases List.mem_cons.1 hc with rfl | h
      · exact hp
      · exact ih c h
theorem take_digs (l : List UInt8) : Q.Digs (l.take (Z.spanN Z.digit l)) := fun c hc => by
  have := take_all Z.digit l c hc
  unfold Z.digit at this; simpa using this
theorem digs_pos {l : List UInt8} (h : Z.clsL l = 3) : 0 < Z.spanN Z.digit l := by
  cases l with
  | nil => exact absurd h (by decide)
  | cons c r => rw [Z.spanN_yes (Z.digit_cls.1 h)]; omega
theorem bS_head {l : List UInt8} {n : Nat} (hn : 0 < n) (T : ByteArray) (hT : T = bS (l.take n)) (h : 0 < T.size) : (T[0].toNat : Int) = Z.peek l := by
  subst hT
  cases l with
  | nil => rw [bS_size] at h; simp at h
  | cons c r =>
    cases n with
    | zero => omega
    | succ n => rfl

/-- The new blocks of a token's box and of a row of classes. -/
theorem boxes {w : World} {g h i : Nat} {s : ByteArray} {l : List Nat} {xs : List Value} (k : Sc w g h s i) (hl : xs = l.map fun (c : Nat) => Value.int .u8 (c : Int)) (h2 : l.length ≤ 2) :
    Sc ((w.alloc (.cells #[.int .i64 0, .int .i64 0, .string ⟨#[]⟩, .int .i64 0] 30)).alloc (.cells xs.toArray 59)) g h s i ∧
    CR ((w.alloc (.cells #[.int .i64 0, .int .i64 0, .string ⟨#[]⟩, .int .i64 0] 30)).alloc (.cells xs.toArray 59)) (w.heap.size + 1) l ∧
    ((w.alloc (.cells #[.int .i64 0, .int .i64 0, .string ⟨#[]⟩, .int .i64 0] 30)).alloc (.cells xs.toArray 59)).heap[w.heap.size]? = some (.cells #[.int .i64 0, .int .i64 0, .string ⟨#[]⟩, .int .i64 0] 30 (0, 0)) ∧
    w.grownBy ((w.alloc (.cells #[.int .i64 0, .int .i64 0, .string ⟨#[]⟩, .int .i64 0] 30)).alloc (.cells xs.toArray 59)) (some g) ∧
    ((w.alloc (.cells #[.int .i64 0, .int .i64 0, .string ⟨#[]⟩, .int .i64 0] 30)).alloc (.cells xs.toArray 59)).heap.size = w.heap.size + 2 := by
  subst hl
  exact ⟨(k.alloc _).alloc _, ⟨(al2_heap _ _ _).2, h2⟩, (al2_heap _ _ _).1, (World.grownBy_alloc _ _ _).trans (World.grownBy_alloc _ _ _), by simp⟩
theorem left_len (s : ByteArray) (i : Nat) : (left s i).length = s.size - i := by show (s.data.toList.drop i).length = _; rw [List.length_drop, l7_len]

set_option maxRecDepth 100000 in
set_option maxHeartbeats 4000000 in
theorem integer_any {W w : World} {g h i : Nat} {s : ByteArray} (k : Sc w g h s i) (E : Env W w g) (h3 : Z.clsL (left s i) = 3) :
    Calls Tryd.prog 36 #[.pointer (some ⟨g, 0, none⟩)] w (TEnds g h s (Z.int (left s i)) i w) := by
  have HK := Lib.hid k
  have HE := Lib.hid E
  have hlt := k.lt
  have hlh := k.lth
  obtain ⟨R, hR⟩ : ∃ R, R = Z.int (left s i) := ⟨_, rfl⟩
  rw [← hR]
  unfold Z.int at hR
  have HR := Lib.hid hR
  have hpos := digs_pos h3
  clear k hR E h3
  go_enter Tryd.func36, Tryd.ntmps36
  go_wp2_with fail
  obtain ⟨hkr, hcr, hrow, hg0, hsz⟩ := boxes (l := [3]) (xs := [.int .u8 3]) HK.out rfl (by decide)
  refine (span_any (L := [3]) hkr hcr (by omega) (by decide)).mono ?_
  rintro e w1 ⟨rfl, k1, hg1⟩
  have hrow1 := (hg1.block _ (by rw [hsz]; omega) (by simp; omega)).trans hrow
  have hg2 := hg0.trans hg1
  rw [inL_digit] at k1 ⊢
  have HK1 := Lib.hid k1
  have HG := Lib.hid hg2
  have HROW := Lib.hid hrow1
  obtain ⟨⟨r0, r1, r2, r3⟩, f0, f1, f2, f3⟩ := row4_cells hrow1
  obtain ⟨N, hN⟩ : ∃ N, N = Z.spanN Z.digit (left s i) := ⟨_, rfl⟩
  rw [← hN] at HR HK1 hpos ⊢
  obtain ⟨T, hT⟩ : ∃ T, T = bS ((left s i).take N) := ⟨_, rfl⟩
  rw [← hT]
  have hlen := left_len s i
  have hsl := Z.spanN_le Z.digit (left s i)
  rw [← hN] at hsl
  have hTs : T.size = N := by
    rw [hT, bS_size, List.length_take]
    omega
  have hNs : N ≤ 16384 := by
    have h2 := HK.out.fit
    omega
  have h0s : 0 < T.size := by omega
  have hT0 := bS_head hpos T hT h0s
  have hp0 := peek_range (left s i)
  obtain ⟨p, hp⟩ : ∃ p, p = Z.peek (left s i) := ⟨_, rfl⟩
  rw [← hp] at hT0 HR hp0
  obtain ⟨p0, p1⟩ := hp0
  have HT := Lib.hid hT
  have HN0 := Lib.hid hN
  have HDG : Hid (Q.Digs T.data.toList) := Lib.hid (by rw [hT, bS_data, hN]; exact take_digs _)
  have HNE : Hid (T.data.toList ≠ []) := Lib.hid (by intro e; have := l7_len T; rw [e] at this; simp at this; omega)
  rw [left_drop] at HR
  clear hN hkr hcr hrow hg0 k1 hg1 hrow1 hg2 hT hsz hlen hsl hp
  have fin0 : ∀ (er : Int) (w2 : World), er ≠ 0 → R = .err er → w.grownBy w2 (some g) → (∃ j, Sc w2 g h s j) → w2.heap[w.heap.size]? = some (.cells #[.int .i64 0, .int .i64 0, .string ⟨#[]⟩, .int .i64 0] 30 (0, 0)) →
      TEnds g h s R i w (.returned (.tuple #[tokV 0 0 ⟨#[]⟩ 0, .int .i64 er])) (put4 w2 w.heap.size (.int .i64 0) (.int .i64 0) (.string ⟨#[]⟩) (.int .i64 0)) := fun er w2 h1 h2 h3 ⟨j, h4⟩ h5 =>
    TEnds.no h2 h1 h3 (Nat.le_refl _) h4 rfl hlt hlh
  have FIN0 := Lib.hid fin0
  clear fin0
  by_cases hbad : 1 < N ∧ p = 48
  · obtain ⟨hb1, hb2⟩ := hbad
    have hre : R = .err 3 := by rw [HR.out, if_pos (.inl ⟨hb1, hb2⟩)]
    have HRE := Lib.hid hre
    have e1 : (p == 48) = true := by rw [hb2]; rfl
    clear hre hb2
    go_wp2_with fail
    (try simp only [Exit.inBlock, Exit.then])
    refine bodyPost_ret (results_tok Tryd.results36 _ _ w.heap.size _ (0, 0) _ rfl rfl (put4_row HROW.out _ _ _ _) (by kernel_rfl)) rfl ?_
    exact FIN0.out 3 w1 (by decide) HRE.out HG.out ⟨_, HK1.out⟩ HROW.out
  · -- one digit, or no leading zero
    have hA : (decide (1 < (N : Int)) = true ∧ (p == 48) = false) ∨ decide (1 < (N : Int)) = false := by
      by_cases h1 : 1 < N
      · refine .inl ⟨by simp; omega, ?_⟩
        rw [beq_eq_false_iff_ne]
        exact fun e => hbad ⟨h1, e⟩
      · exact .inr (by simp; omega)
    have HB := Lib.hid hbad
    obtain ⟨b, hb⟩ : ∃ b, b = Z.clsL (left s (i + N)) := ⟨_, rfl⟩
    have HBB := Lib.hid hb
    have hb6 : b ≤ 6 := by rw [hb]; exact Z.clsL_le _
    clear hb hbad
    by_cases hb2 : b = 2
    · have hre : R = .err 3 := by rw [HR.out, if_pos (.inr (HBB.out.symm.trans hb2))]
      have HRE := Lib.hid hre
      clear hre
      subst hb2
      rcases hA with ⟨hA1, hA2⟩ | hA1
      all_goals (
        go_wp2_with fail
        refine (class_any HK1.out).mono ?_
        rintro e w2 ⟨rfl, n2, rfl⟩
        rw [← HBB.out]
        have HK2 := Lib.hid (HK1.out.drewN n2)
        have HG2 := Lib.hid (HG.out.trans (grown7_drewN w1 n2 (some g)))
        have HROW2 : Hid ((w1.drewN n2).heap[w.heap.size]? = some (.cells #[.int .i64 0, .int .i64 0, .string ⟨#[]⟩, .int .i64 0] 30 (0, 0))) := Lib.hid HROW.out
        obtain ⟨⟨s0, s1, s2, s3⟩, t0, t1, t2, t3⟩ := row4_cells HROW2.out
        generalize w1.drewN n2 = w2 at *
        go_wp2_with fail
        (try simp only [Exit.inBlock, Exit.then])
        refine bodyPost_ret (results_tok Tryd.results36 _ _ w.heap.size _ (0, 0) _ rfl rfl (put4_row HROW2.out _ _ _ _) (by kernel_rfl)) rfl ?_
        exact FIN0.out 3 w2 (by decide) HRE.out HG2.out ⟨_, HK2.out⟩ HROW2.out)
    · have hbe : ((b : Int) == 2) = false := by rw [beq_eq_false_iff_ne]; omega
      have hno : ¬ ((1 < N ∧ p = 48) ∨ Z.clsL (left s (i + N)) = 2) := fun e => by
        rcases e with e | e
        · exact HB.out e
        · exact hb2 (HBB.out.trans e)
      have HR2 : Hid (R = if Z.val T.data.toList ≤ 9223372036854775807 then .ok 3 [] (Z.val T.data.toList : Int) N else .err 14) := Lib.hid (by rw [HR.out, if_neg hno, HT.out, bS_data])
      clear hno hb2 HR
      obtain ⟨V, hV⟩ : ∃ V, V = Z.val T.data.toList := ⟨_, rfl⟩
      rw [← hV] at HR2
      have HV := Lib.hid hV
      clear hV
      rcases hA with ⟨hA1, hA2⟩ | hA1
      all_goals (
        go_wp2_with fail
        refine (class_any HK1.out).mono ?_
        rintro e w2 ⟨rfl, n2, rfl⟩
        rw [← HBB.out]
        have HK2 := Lib.hid (HK1.out.drewN n2)
        have HG2 := Lib.hid (HG.out.trans (grown7_drewN w1 n2 (some g)))
        have HROW2 : Hid ((w1.drewN n2).heap[w.heap.size]? = some (.cells #[.int .i64 0, .int .i64 0, .string ⟨#[]⟩, .int .i64 0] 30 (0, 0))) := Lib.hid HROW.out
        clear r0 r1 r2 r3 f0 f1 f2 f3
        generalize w1.drewN n2 = w2 at *
        go_wp2_with fail
        refine (atoi7_any T w2 (by omega) HDG.out HNE.out (HE.out.step HG2.out).now).mono ?_
        rintro e w3 ⟨n, er, rfl, hb3, hcase⟩
        have HK3 := Lib.hid (HK2.out.kept (grown_below hb3 none) (by simp) (by simp))
        have HG3 := Lib.hid (HG2.out.trans (grown_below hb3 (some g)))
        have HROW3 : Hid (w3.heap[w.heap.size]? = some (.cells #[.int .i64 0, .int .i64 0, .string ⟨#[]⟩, .int .i64 0] 30 (0, 0))) := Lib.hid ((hb3.block _ (row_lt7 HROW2.out)).trans HROW2.out)
        obtain ⟨⟨s0, s1, s2, s3⟩, t0, t1, t2, t3⟩ := row4_cells HROW3.out
        clear hb3
        rw [← HV.out] at hcase
        rcases hcase with ⟨hv1, rfl, rfl⟩ | ⟨hv1, M, rfl⟩
        · have HV1 := Lib.hid hv1
          clear hv1
          go_wp2_with fail
          (try simp only [Exit.inBlock, Exit.then])
          refine bodyPost_ret (results_tok Tryd.results36 _ _ w.heap.size _ (0, 0) _ rfl rfl (put4_row HROW3.out _ _ _ _) (by kernel_rfl)) rfl ?_
          exact TEnds.yes (r := w.heap.size) (by rw [HR2.out, if_pos HV1.out]) rfl rfl HG3.out (Nat.le_refl _) HK3.out rfl hlt hlh
        · have HV1 := Lib.hid hv1
          clear hv1
          go_wp2_with fail
          (try simp only [Exit.inBlock, Exit.then])
          refine bodyPost_ret (results_tok Tryd.results36 _ _ w.heap.size _ (0, 0) _ rfl rfl (put4_row HROW3.out _ _ _ _) (by kernel_rfl)) rfl ?_
          exact FIN0.out 14 w3 (by decide) (by rw [HR2.out, if_neg (by have := HV1.out; omega)]) HG3.out ⟨_, HK3.out⟩ HROW3.out)
end Go.Proofs.YtffolfnaalijnaaDoor
