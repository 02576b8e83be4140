/-
  Layer 2: the code's Drop.
-/
import Derived.Test.YtcamhcgafmmkdaaVDrp
import Derived.Test.YtcamhcgafmmkdaaVCodJ
import Derived.Test.YtcamhcgafmmkdaaVGrowV
import Derived.Test.YtcamhcgafmmkdaaVCutC
import Derived.IntWalk
import Derived.Deep.RegionHeld3
namespace Go.Proofs.Ytcamhcgafmmkdaa
set_option linter.unusedVariables false
open Go.RowKit
open M (V)

theorem five_set {a0 w : World} {B g : Nat} (h : Below B a0 w) (hg : B ≤ g) (a b c d e : Value) : Below B a0 (((((w.setCell ⟨g, 0, none⟩ a).setCell ⟨g, 1, none⟩ b).setCell ⟨g, 2, none⟩ c).setCell ⟨g, 3, none⟩ d).setCell ⟨g, 4, none⟩ e) := stored_below h hg a b c d e
theorem copyVF {w : World} {d : Nat} {v : Value} {t : V} (h : Hid (VB w 0 w.heap.size d v t)) :
    Calls Try.prog 24 #[v] w (NewV w.heap.size d t w) := copy_at d _ _ _ _ _ h.out (Nat.le_refl _)

/-- 's[k:]', whatever the cap: its address under one name. -/
theorem run_cut (T : TypeId) (sz : Nat) (hT : Try.prog.underlying T = some (.slice (Try.prog.elem T))) (hs : ∀ W : World, (sizeOf (Try.prog.elem T)).run Try.prog W = .ok sz W) (b o k n c : Nat) (hk : k ≤ n) :
    ∃ B' : Option Addr, (¬ c = k → B' = some ⟨b, o + k * sz, none⟩) ∧ ∀ W : World, (Instr.sliceAt T (.slice (some ⟨b, o, none⟩) n c) (some (.int .i64 (k : Int))) none none).run Try.prog W = .ok (.slice B' (n - k) (c - k)) W ∧ (Instr.slice T (.slice (some ⟨b, o, none⟩) n c) (some (.int .i64 (k : Int))) none none).run Try.prog W = .ok (.slice B' (n - k) (c - k)) W := by
  refine ⟨if c = k then some ⟨b, o, none⟩ else (some ⟨b, o, none⟩ : Option Addr).map (·.add (k * sz)), fun h => by rw [if_neg h, Option.map_some, addr_plus], fun W => ?_⟩
  have h1 : (Instr.slice T (.slice (some ⟨b, o, none⟩) n c) (some (.int .i64 (k : Int))) none none).run Try.prog W = .ok (.slice (if c = k then some ⟨b, o, none⟩ else (some ⟨b, o, none⟩ : Option Addr).map (·.add (k * sz))) (n - k) (c - k)) W := by
    rw [run_slice_l W T _ n c hT .i64 k (by omega) (by omega), hs W]
    simp [Result.andThen, sliced]
  exact ⟨by rw [run_sliceAt_slice W T _ _ _ _ hT]; exact h1, h1⟩

set_option maxRecDepth 100000 in
set_option maxHeartbeats 4000000 in
theorem dropX {v : Value} {t : V} {lo hi : Nat} {w : World} (h : VX w lo hi v t) (hhi : hi ≤ w.heap.size) (key : ByteArray) (hsz : t.its.length ≤ 2000) :
    Calls Try.prog 10 #[v, .string key] w (NewDrop t key w) := by
  obtain ⟨d, h⟩ := h
  match d, h with
  | 0, h => exact h.elim
  | d + 1, h =>
  have h0 := h
  obtain ⟨A, m, c, B, p, e, rfl, k1, k2, n1, n2, s1, hI, hK⟩ := h
  have H0 := Lib.hid h0
  have hb0 : Below (w.heap.size + 2) ((w.alloc (.cells #[.int .i64 t.k, .int .i64 t.n, .string t.s, .slice A m c, .slice B p e] 25)).alloc (.cells #[.int .i64 0, .int .i64 0, .string ByteArray.empty, .slice none 0 0, .slice none 0 0] 25)) _ := Below.refl _ _
  have hz := two_size hb0
  have HI := Lib.hid hI; have HK := Lib.hid hK
  have HL := Lib.hid hI.len; have HL2 := Lib.hid hK.len
  have hcap := hI.cap
  have hcap2 := hK.cap
  have hmost := hI.most
  have hmost2 := hK.most
  have hp0 : m ≤ 2000 := by have := hI.len; omega
  clear hI hK h0
  cases hw : (t.k == 5 && t.wf) with
  | false =>
    have HW := Lib.hid hw
    clear hw
    go_enter Try.func10, Try.ntmps10
    go_wp2_with fail
    refine (isMapX ⟨_, H0.out.later (two_below hb0) hhi⟩ (by omega)).mono ?_
    rintro e w1 ⟨rfl, hb1⟩
    rw [HW.out]
    have hb2 := two_step hb0 hb1
    go_wp2_with fail
    refine (null_any _).mono ?_
    rintro e w2 ⟨rfl, hb3⟩
    have hb4 := two_step hb2 hb3
    obtain ⟨h1, h2⟩ := two_heap hb4 (Nat.le_refl _)
    obtain ⟨b0, b1, b2, b3, b4, f0, f1, f2, f3, f4⟩ := lit5 h2
    have H2 := Lib.hid h2
    clear h1 h2
    go_wp2_with fail
    have hfin := lit_stored H2.out (.int .i64 0) (.int .i64 0) (.string ByteArray.empty) (.slice none 0 0) (.slice none 0 0)
    refine bodyPost_ret (v := .tuple #[.agg #[.int .i64 0, .int .i64 0, .string ByteArray.empty, .slice none 0 0, .slice none 0 0], .int .i64 12]) (results_cell_slot Try.results10 _ _ (w.heap.size + 1) 25 _ (0, 0) _ rfl hfin (by kernel_rfl) rfl) rfl ?_
    exact ⟨fun _ => rfl, (fun h => by rw [HW.out] at h; cases h), stored_below (two_below hb4) (by omega) _ _ _ _ _⟩
  | true =>
    have hkw : t.k = 5 ∧ t.wf = true := by simpa using hw
    obtain ⟨hR, hlen⟩ := M.wf_rise hkw.2 hkw.1
    have HW := Lib.hid hw; have HR := Lib.hid hR; have HLN := Lib.hid hlen
    clear hw hkw hR hlen
    go_enter Try.func10, Try.ntmps10
    go_wp2_with fail
    refine (isMapX ⟨_, H0.out.later (two_below hb0) hhi⟩ (by omega)).mono ?_
    rintro e w1 ⟨rfl, hb1⟩
    rw [HW.out]
    have hb2 := two_step hb0 hb1
    obtain ⟨⟨b0, b1, b2, b3, b4⟩, g0, g1, g2, g3, g4⟩ := two5 hb2
    have hz2 := two_size hb2
    go_wp2_with fail
    refine (search_any (HK.out.later (two_below hb2) hhi) (by omega) HR.out key).mono ?_
    rintro e w2 ⟨i, f, rfl, hi1, hA, hB, hF, hb3⟩
    have HPL : Hid (M.Place t.ks key i f) := Lib.hid ⟨hi1, hA, hB, hF⟩
    have hb4 := two_step hb2 hb3
    have hz4 := two_size hb4
    have HF := Lib.hid hF
    clear hA hB hF b0 b1 b2 b3 b4 g0 g1 g2 g3 g4
    cases f with
    | false =>
      go_wp2_with fail
      refine (null_any _).mono ?_
      rintro e w3 ⟨rfl, hb5⟩
      have hb6 := two_step hb4 hb5
      obtain ⟨h1, h2⟩ := two_heap hb6 (Nat.le_refl _)
      obtain ⟨b0, b1, b2, b3, b4, f0, f1, f2, f3, f4⟩ := lit5 h2
      have H2 := Lib.hid h2
      clear h1 h2
      go_wp2_with fail
      have hfin := lit_stored H2.out (.int .i64 0) (.int .i64 0) (.string ByteArray.empty) (.slice none 0 0) (.slice none 0 0)
      refine bodyPost_ret (v := .tuple #[.agg #[.int .i64 0, .int .i64 0, .string ByteArray.empty, .slice none 0 0, .slice none 0 0], .int .i64 15]) (results_cell_slot Try.results10 _ _ (w.heap.size + 1) 25 _ (0, 0) _ rfl hfin (by kernel_rfl) rfl) rfl ?_
      refine ⟨(fun h => by rw [HW.out] at h; cases h), fun _ i' f' hp' => ⟨fun _ => rfl, fun hf' => ?_⟩, stored_below (two_below hb6) (by omega) _ _ _ _ _⟩
      have := (place_uniq HPL.out hp').2
      rw [hf'] at this; cases this
    | true =>
      obtain ⟨hi2, hi3⟩ := HF.out.1 rfl
      have him : i < m := by rw [HLN.out, HL.out] at hi2; exact hi2
      have hip : i < p := by rw [HLN.out, HL.out] at hi2; have h1 := HL2.out; have h2 := HLN.out; have h3 := HL.out; omega
      have hmp : m = p := by have h1 := HL2.out; have h2 := HLN.out; have h3 := HL.out; omega
      have hp : p ≤ 2000 := by omega
      clear hi1 hi2 hi3
      obtain ⟨⟨b0, b1, b2, b3, b4⟩, g0, g1, g2, g3, g4⟩ := two5 hb4
      subst hmp
      obtain ⟨ba, oa, rfl, -⟩ := HI.out.at_ (by omega)
      obtain ⟨bb, ob, rfl, -⟩ := HK.out.at_ (by omega)
      have HS : Hid (∀ W, Below w2.heap.size w2 W → W.cell? ⟨w.heap.size, 0, none⟩ = some (.int .i64 t.k) ∧ W.cell? ⟨w.heap.size, 1, none⟩ = some (.int .i64 t.n) ∧ W.cell? ⟨w.heap.size, 2, none⟩ = some (.string t.s) ∧ W.cell? ⟨w.heap.size, 3, none⟩ = some (.slice (some ⟨ba, oa, none⟩) m c) ∧ W.cell? ⟨w.heap.size, 4, none⟩ = some (.slice (some ⟨bb, ob, none⟩) m e)) :=
        Lib.hid (fun W hW => (two5 (two_step hb4 hW)).1)
      have HS2 : Hid (∀ W, Below (w.heap.size + 1) w2 W → W.cell? ⟨w.heap.size, 0, none⟩ = some (.int .i64 t.k) ∧ W.cell? ⟨w.heap.size, 1, none⟩ = some (.int .i64 t.n) ∧ W.cell? ⟨w.heap.size, 2, none⟩ = some (.string t.s) ∧ W.cell? ⟨w.heap.size, 3, none⟩ = some (.slice (some ⟨ba, oa, none⟩) m c) ∧ W.cell? ⟨w.heap.size, 4, none⟩ = some (.slice (some ⟨bb, ob, none⟩) m e)) :=
        Lib.hid (fun W hW => by
          have hc := fun j => hW.cell (p := ⟨w.heap.size, j, none⟩) (by show w.heap.size < _; omega)
          exact ⟨(hc 0).trans b0, (hc 1).trans b1, (hc 2).trans b2, (hc 3).trans b3, (hc 4).trans b4⟩)
      have HK2 := Lib.hid (HK.out.later (two_below hb4) hhi)
      have HI2 := Lib.hid (HI.out.later (two_below hb4) hhi)
      have hz5 : w.heap.size + 1 ≤ w2.heap.size := by omega
      have hhi2 : hi ≤ w2.heap.size := by omega
      obtain ⟨tx, htx⟩ : ∃ tx, Hid (tx = V.mk 5 0 ByteArray.empty (M.dropAt t.its i) (M.dropAt t.ks i)) := ⟨_, Lib.hid rfl⟩
      have q3 : (0 : Int) ≤ (i : Int) := by omega
      have q5 : (i : Int) ≤ (c : Int) := by omega
      have q6 : (i : Int) ≤ (e : Int) := by omega
      have ei : ((i + 1 : Nat) : Int) = (i : Int) + 1 := by omega
      obtain ⟨B9, hB9, hcB⟩ := run_cut 23 1 Try.underlying23 (fun W => by kernel_rfl) bb ob (i + 1) m e (by omega)
      obtain ⟨A9, hA9, hcA⟩ := run_cut 22 5 Try.underlying22 (fun W => by kernel_rfl) ba oa (i + 1) m c (by omega)
      rw [Nat.mul_one] at hB9
      simp only [ei] at hcB hcA
      have hcB1 := fun W => (hcB W).1
      have hcB2 := fun W => (hcB W).2
      have hcA1 := fun W => (hcA W).1
      have hcA2 := fun W => (hcA W).2
      have HB9 := Lib.hid hB9
      have HA9 := Lib.hid hA9
      clear hcB hcA hB9 hA9 ei
      have HS0 : Hid (∀ W, Below (w.heap.size + 1) w2 W → W.cell? ⟨w.heap.size, 3, none⟩ = some (.slice (some ⟨ba, oa, none⟩) m c) ∧ W.cell? ⟨w.heap.size, 4, none⟩ = some (.slice (some ⟨bb, ob, none⟩) m e)) :=
        Lib.hid (fun W hW => by
          have hc := fun j => hW.cell (p := ⟨w.heap.size, j, none⟩) (by show w.heap.size < _; omega)
          exact ⟨(hc 3).trans b3, (hc 4).trans b4⟩)
      obtain ⟨n9, hn9⟩ : ∃ n9, n9 = m - (i + 1) := ⟨_, rfl⟩
      obtain ⟨c9, hc9⟩ : ∃ c9, c9 = c - (i + 1) := ⟨_, rfl⟩
      obtain ⟨e9, he9⟩ : ∃ e9, e9 = e - (i + 1) := ⟨_, rfl⟩
      rw [← hn9, ← hc9] at hcA1 hcA2
      rw [← hn9, ← he9] at hcB1 hcB2
      have Hn9 := Lib.hid hn9; have Hc9 := Lib.hid hc9; have He9 := Lib.hid he9
      clear hn9 hc9 he9
      clear b0 b1 b2 g0 g1 g2 g3 g4 HR HS HS2 HF HL HL2 HLN hb2 hb3 hz hz2 hcap hcap2 k1 k2 n1 n2 s1 H0
      have q1 : IntKind.i64.wrap ((i : Int) + 1) = (i : Int) + 1 := IntWalk.i64_in _ (by omega)
      go_wp2_with fail
      go_region_held3 (fun W => W.cell? ⟨w.heap.size, 3, none⟩ = some (.slice (some ⟨ba, oa, none⟩) m c) ∧ W.cell? ⟨w.heap.size, 4, none⟩ = some (.slice (some ⟨bb, ob, none⟩) m e))
        (first
          | with_reducible exact HS0.out _ (five_set (hbC.mono hz5) (Nat.le_refl _) _ _ _ _ _)
          | with_reducible exact HS0.out _ (hbC.mono hz5)
          | with_reducible exact HS0.out _ (hbB.mono hz5)
          | with_reducible exact HS0.out _ (hbA.mono hz5)
          | with_reducible exact HS0.out _ ((hbA.alloc hbA.size _).mono hz5)
          | with_reducible exact HS0.out _ ((below_drew (Below.refl _ _)).mono hz5)
          | with_reducible exact HS0.out _ ((below_drew ((Below.refl _ _).alloc (Nat.le_refl _) _)).mono hz5)
          | with_reducible exact HS0.out _ ((below_drew (((Below.refl _ _).alloc (Nat.le_refl _) _).alloc (by simp) _)).mono hz5))
        (first
          | (go_at_call 28; (with_reducible refine (cutK HK2.out hhi2 him hp (below_drew ((Below.refl _ _).alloc (Nat.le_refl _) _)) Hn9.out He9.out HB9.out (al1 w2 _)).mono ?_); rintro _ w3 ⟨B3, p3, e3, rfl, hks, hbA, hbL⟩)
          | (go_at_call 28; (with_reducible refine (cutK HK2.out hhi2 him hp (below_drew (((Below.refl _ _).alloc (Nat.le_refl _) _).alloc (by simp) _)) Hn9.out He9.out HB9.out (al2 w2 _ _)).mono ?_); rintro _ w3 ⟨B3, p3, e3, rfl, hks, hbA, hbL⟩; have hqP := blk_kept hbL (al3 w2 _ _))
          | (go_at_call 28; (with_reducible refine (cutK HK2.out hhi2 him hp (below_drew (((Below.refl _ _).alloc (Nat.le_refl _) _).alloc (by simp) _)) Hn9.out He9.out HB9.out (al3 w2 _ _)).mono ?_); rintro _ w3 ⟨B3, p3, e3, rfl, hks, hbA, hbL⟩; have hqP := blk_kept hbL (al2 w2 _ _))
          | (go_at_call 29; (with_reducible refine (cutV HI2.out hhi2 him hp (hbA.alloc hbA.size _) Hn9.out Hc9.out HA9.out (heap_alloc_new w3 _)).mono ?_); rintro _ w4 ⟨A3, n3, c3, rfl, his, hbB, hbL2⟩; have HVF : Hid (VB w4 0 w4.heap.size (d + 1) (.agg #[.int .i64 5, .int .i64 0, .string ByteArray.empty, .slice A3 n3 c3, .slice B3 p3 e3]) tx) := Lib.hid (by rw [htx.out]; exact vb_map his (ks_on hks (al_on hbL2))))
          | (go_at_call 29; (with_reducible refine (cutV HI2.out hhi2 him hp hbA Hn9.out Hc9.out HA9.out hqP).mono ?_); rintro _ w4 ⟨A3, n3, c3, rfl, his, hbB, hbL2⟩; have HVF : Hid (VB w4 0 w4.heap.size (d + 1) (.agg #[.int .i64 5, .int .i64 0, .string ByteArray.empty, .slice A3 n3 c3, .slice B3 p3 e3]) tx) := Lib.hid (by rw [htx.out]; exact vb_map his (ks_on hks hbL2)))
          | (go_at_call 24; refine (copyVF HVF).mono ?_; rintro _ w5 ⟨v5, rfl, hv5, hbL3⟩; obtain ⟨A5, n5, c5, B5, p5, e5, rfl⟩ := hv5.agg; have HV5 := Lib.hid hv5; have hbC := hbB.trans (hbL3.mono hbB.size); have h2 := (two_heap (two_step hb4 hbC) (Nat.le_refl _)).2; obtain ⟨x0, x1, x2, x3, x4, f0, f1, f2, f3, f4⟩ := lit5 h2; have H2 := Lib.hid h2; clear hv5 h2))
      all_goals
        go_wp2_with fail
        have hfin := lit_stored H2.out (.int .i64 tx.k) (.int .i64 tx.n) (.string tx.s) (.slice A5 n5 c5) (.slice B5 p5 e5)
        refine bodyPost_ret (v := .tuple #[.agg #[.int .i64 tx.k, .int .i64 tx.n, .string tx.s, .slice A5 n5 c5, .slice B5 p5 e5], .int .i64 0]) (results_cell_slot Try.results10 _ _ (w.heap.size + 1) 25 _ (0, 0) _ rfl hfin (by kernel_rfl) rfl) rfl ?_
        refine ⟨(fun h => by rw [HW.out] at h; cases h), fun _ i' f' hp' => ⟨fun hf' => ?_, fun _ => ⟨_, rfl, ?_⟩⟩, stored_below (two_below (two_step hb4 hbC)) (by omega) _ _ _ _ _⟩
        · have := (place_uniq HPL.out hp').2
          rw [hf'] at this; cases this
        · obtain ⟨rfl, -⟩ := place_uniq HPL.out hp'
          have hz6 := hbB.size
          have hx := HV5.out.kept (show Kept w4.heap.size w5.heap.size w5 (stored w5 (w.heap.size + 1) (.int .i64 tx.k) (.int .i64 tx.n) (.string tx.s) (.slice A5 n5 c5) (.slice B5 p5 e5)) from fun b x1 x2 => stored_other _ _ _ _ _ _ _ _ (by omega))
          have hx2 := hx.weak (lo' := 0) (hi' := (stored w5 (w.heap.size + 1) (.int .i64 tx.k) (.int .i64 tx.n) (.string tx.s) (.slice A5 n5 c5) (.slice B5 p5 e5)).heap.size) (Nat.zero_le _) (by rw [stored_size]; omega)
          have hd : dropV t i = tx := htx.out.symm
          rw [hd]
          exact ⟨_, hx2⟩
end Go.Proofs.Ytcamhcgafmmkdaa
