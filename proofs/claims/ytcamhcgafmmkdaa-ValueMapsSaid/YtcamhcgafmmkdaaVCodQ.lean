/-
  Layer 2: the code's Put.
-/
import Derived.Test.YtcamhcgafmmkdaaVDrp
import Derived.Test.YtcamhcgafmmkdaaVCodJ
import Derived.Test.YtcamhcgafmmkdaaVCutP
import Derived.Test.YtcamhcgafmmkdaaVCodP
import Derived.Test.YtcamhcgafmmkdaaVMem4
import Derived.IntWalk
import Derived.Deep.RegionHeld3
namespace Go.Proofs.Ytcamhcgafmmkdaa
set_option linter.unusedVariables false
open Go.RowKit
open M (V)

theorem three_step {W w1 w2 : World} {o o' o'' : Obj} (hb : Below (W.heap.size + 3) (((W.alloc o).alloc o').alloc o'') w1) (h2 : Below w1.heap.size w1 w2) : Below (W.heap.size + 3) (((W.alloc o).alloc o').alloc o'') w2 := hb.trans (h2.mono (three_size hb))
theorem bel_trans {w3 W w4 : World} (h : Below w3.heap.size w3 W) (h2 : Below W.heap.size W w4) : Below w3.heap.size w3 w4 := h.trans (h2.mono h.size)

/-- What copyWithinLimits returns, in one form. -/
def PutRes (t : V) (d B : Nat) (w' : World) (v : Value) (er : Int) : Prop :=
  (t.within = true → er = 0 ∧ VB w' B w'.heap.size d v t) ∧ (t.within = false → er = 6 ∧ v = .agg #[.int .i64 0, .int .i64 0, .string ByteArray.empty, .slice none 0 0, .slice none 0 0])
def NewW2 (d : Nat) (t : V) (w : World) (e : Ending) (w' : World) : Prop :=
  ∃ k n s A m c C p q er, e = .returned (.tuple #[.agg #[.int .i64 k, .int .i64 n, .string s, .slice A m c, .slice C p q], .int .i64 er]) ∧ Below w.heap.size w w' ∧ Hid (PutRes t d w.heap.size w' (.agg #[.int .i64 k, .int .i64 n, .string s, .slice A m c, .slice C p q]) er)
theorem copyWVF {w : World} {d : Nat} {v : Value} {t : V} (h : Hid (VB w 0 w.heap.size d v t)) :
    Calls Try.prog 27 #[v] w (NewW2 d t w) := by
  refine (copyWithin_any h.out (Nat.le_refl _)).mono ?_
  rintro e w' ⟨h1, h2, hb⟩
  cases hw : t.within with
  | true =>
    obtain ⟨v, rfl, hv⟩ := h1 hw
    obtain ⟨A, m, c, C, p, q, rfl⟩ := hv.agg
    exact ⟨_, _, _, _, _, _, _, _, _, _, rfl, hb, Lib.hid ⟨fun _ => ⟨rfl, hv⟩, fun h => by rw [hw] at h; cases h⟩⟩
  | false =>
    have e1 := h2 hw
    subst e1
    exact ⟨_, _, _, _, _, _, _, _, _, _, rfl, hb, Lib.hid ⟨(fun h => by rw [hw] at h; cases h), fun _ => ⟨rfl, rfl⟩⟩⟩

theorem put_end {t tx ty : V} {key : ByteArray} {i d B g : Nat} {f : Bool} {w w5 : World} {k5 m5 er : Int} {s5 : ByteArray} {A5 B5 : Option Addr} {n5 c5 p5 e5 : Nat} (hw : Hid ((t.k == 5 && t.wf) = true)) (hp : Hid (M.Place t.ks key i f))
    (hty : Hid (ty = putV t i (nxt i f) key tx)) (hg : g < B) (hg2 : w.heap.size ≤ g) (hb : Below w.heap.size w w5) (hv : Hid (PutRes ty d B w5 (.agg #[.int .i64 k5, .int .i64 m5, .string s5, .slice A5 n5 c5, .slice B5 p5 e5]) er)) :
    NewPut t key tx w (.returned (.tuple #[.agg #[.int .i64 k5, .int .i64 m5, .string s5, .slice A5 n5 c5, .slice B5 p5 e5], .int .i64 er])) (stored w5 g (.int .i64 k5) (.int .i64 m5) (.string s5) (.slice A5 n5 c5) (.slice B5 p5 e5)) := by
  obtain ⟨h1, h2⟩ := hv.out
  refine ⟨(fun h => by rw [hw.out] at h; cases h), fun _ i' f' hp' => ⟨fun hf => ?_, fun hf => ?_⟩, stored_below hb hg2 _ _ _ _ _⟩
  · obtain ⟨rfl, rfl⟩ := place_uniq hp.out hp'
    rw [← hty.out] at hf
    obtain ⟨rfl, hz⟩ := h2 hf
    rw [hz]
  · obtain ⟨rfl, rfl⟩ := place_uniq hp.out hp'
    rw [← hty.out] at hf ⊢
    obtain ⟨rfl, hz⟩ := h1 hf
    have hx := hz.kept (show Kept B w5.heap.size w5 (stored w5 g (.int .i64 k5) (.int .i64 m5) (.string s5) (.slice A5 n5 c5) (.slice B5 p5 e5)) from fun b x1 x2 => stored_other _ _ _ _ _ _ _ _ (by omega))
    have hx2 := hx.weak (lo' := 0) (hi' := (stored w5 g (.int .i64 k5) (.int .i64 m5) (.string s5) (.slice A5 n5 c5) (.slice B5 p5 e5)).heap.size) (Nat.zero_le _) (by rw [stored_size]; omega)
    exact ⟨_, rfl, _, hx2⟩

set_option maxRecDepth 100000 in
set_option maxHeartbeats 8000000 in
theorem putX {v x : Value} {t tx : V} {lo hi : Nat} {key : ByteArray} {w : World} (h : VX w lo hi v t) (hx : VX w lo hi x tx) (hhi : hi ≤ w.heap.size) (hkey : key.size ≤ 140737488351232) (hsz : t.its.length ≤ 2000) :
    Calls Try.prog 8 #[v, .string key, x] w (NewPut t key tx w) := by
  obtain ⟨d1, h⟩ := h
  obtain ⟨d2, hx⟩ := hx
  have hv := h.up (d' := max d1 d2 + 1) (by omega)
  have hxx := hx.up (d' := max d1 d2) (by omega)
  generalize max d1 d2 = d at hv hxx
  clear h hx
  have h0 := hv
  obtain ⟨A, m, c, B, p, e, rfl, k1, k2, n1, n2, s1, hI, hK⟩ := hv
  obtain ⟨Ax, mx, cx, Bx, px, ex, rfl⟩ := hxx.agg
  have H0 := Lib.hid h0
  have HX := Lib.hid hxx
  have hb0 : Below (w.heap.size + 3) (((w.alloc (.cells #[.int .i64 t.k, .int .i64 t.n, .string t.s, .slice A m c, .slice B p e] 25)).alloc (.cells #[.int .i64 tx.k, .int .i64 tx.n, .string tx.s, .slice Ax mx cx, .slice Bx px ex] 25)).alloc (.cells #[.int .i64 0, .int .i64 0, .string ByteArray.empty, .slice none 0 0, .slice none 0 0] 25)) _ := Below.refl _ _
  have hz := three_size hb0
  have HI := Lib.hid hI; have HK := Lib.hid hK
  have HL := Lib.hid hI.len; have HL2 := Lib.hid hK.len
  have hcap := hI.cap
  have hcap2 := hK.cap
  have hp0 : m ≤ 2000 := by have := hI.len; omega
  clear hI hK h0 hxx k1 k2 n1 n2 s1
  cases hw : (t.k == 5 && t.wf) with
  | false =>
    have HW := Lib.hid hw
    clear hw
    go_enter Try.func8, Try.ntmps8
    go_wp2_with fail
    refine (isMapX ⟨_, H0.out.later (three_below hb0) hhi⟩ (by omega)).mono ?_
    rintro e w1 ⟨rfl, hb1⟩
    rw [HW.out]
    have hb2 := three_step hb0 hb1
    go_wp2_with fail
    refine (null_any _).mono ?_
    rintro e w2 ⟨rfl, hb3⟩
    have hb4 := three_step hb2 hb3
    have h2 := (three_heap hb4 (Nat.le_refl _)).2.2
    have H2 : Hid (w2.heap[w.heap.size + 1 + 1]? = _) := Lib.hid h2
    obtain ⟨b0, b1, b2, b3, b4, f0, f1, f2, f3, f4⟩ := lit5 H2.out
    clear h2
    go_wp2_with fail
    have hfin := lit_stored H2.out (.int .i64 0) (.int .i64 0) (.string ByteArray.empty) (.slice none 0 0) (.slice none 0 0)
    refine bodyPost_ret (v := .tuple #[.agg #[.int .i64 0, .int .i64 0, .string ByteArray.empty, .slice none 0 0, .slice none 0 0], .int .i64 12]) (results_cell_slot Try.results8 _ _ (w.heap.size + 1 + 1) 25 _ (0, 0) _ rfl hfin (by kernel_rfl) rfl) rfl ?_
    exact ⟨fun _ => rfl, (fun h => by rw [HW.out] at h; cases h), stored_below (three_below hb4) (by omega) _ _ _ _ _⟩
  | true =>
    have hkw : t.k = 5 ∧ t.wf = true := by simpa using hw
    obtain ⟨hR, hlen⟩ := M.wf_rise hkw.2 hkw.1
    have HW := Lib.hid hw; have HR := Lib.hid hR; have HLN := Lib.hid hlen
    have hmp : m = p := by have h1 := HL2.out; have h2 := HL.out; omega
    subst hmp
    clear hw hkw hR hlen
    go_enter Try.func8, Try.ntmps8
    go_wp2_with fail
    refine (isMapX ⟨_, H0.out.later (three_below hb0) hhi⟩ (by omega)).mono ?_
    rintro e w1 ⟨rfl, hb1⟩
    rw [HW.out]
    have hb2 := three_step hb0 hb1
    have hz2 := three_size hb2
    obtain ⟨q0, -, -⟩ := three_heap hb2 (Nat.le_refl _)
    obtain ⟨b0, b1, b2, b3, b4, -⟩ := lit5 q0
    have Q0 := Lib.hid q0
    clear q0
    go_wp2_with fail
    refine (search_any (HK.out.later (three_below hb2) hhi) (by omega) HR.out key).mono ?_
    rintro e w2 ⟨i, f, rfl, hi1, hA, hB, hF, hb3⟩
    have HPL : Hid (M.Place t.ks key i f) := Lib.hid ⟨hi1, hA, hB, hF⟩
    have hb4 := three_step hb2 hb3
    have hz4 := three_size hb4
    have HF := Lib.hid hF
    clear hA hB hF b0 b1 b2 b3 b4 Q0
    have him : i ≤ m := by have h1 := HL2.out; omega
    obtain ⟨q0, q1, -⟩ := three_heap hb4 (Nat.le_refl _)
    obtain ⟨b0, b1, b2, b3, b4, -⟩ := lit5 q0
    have q1' : w2.heap[w.heap.size + 1]? = _ := q1
    obtain ⟨g0, g1, g2, g3, g4, -⟩ := lit5 q1'
    clear q0 q1 q1' hi1
    have HK2 := Lib.hid (HK.out.later (three_below hb4) hhi)
    have HI2 := Lib.hid (HI.out.later (three_below hb4) hhi)
    have HX2 := Lib.hid (HX.out.later (three_below hb4) hhi)
    have hz5 : w.heap.size + 1 + 1 ≤ w2.heap.size := by omega
    have hhi2 : hi ≤ w2.heap.size := by omega
    have HS1 : Hid (∀ W, Below (w.heap.size + 1 + 1) w2 W → W.cell? ⟨w.heap.size, 3, none⟩ = some (.slice A m c) ∧ W.cell? ⟨w.heap.size, 4, none⟩ = some (.slice B m e) ∧
        W.cell? ⟨w.heap.size + 1, 0, none⟩ = some (.int .i64 tx.k) ∧ W.cell? ⟨w.heap.size + 1, 1, none⟩ = some (.int .i64 tx.n) ∧ W.cell? ⟨w.heap.size + 1, 2, none⟩ = some (.string tx.s) ∧ W.cell? ⟨w.heap.size + 1, 3, none⟩ = some (.slice Ax mx cx) ∧ W.cell? ⟨w.heap.size + 1, 4, none⟩ = some (.slice Bx px ex)) :=
      Lib.hid (fun W hW => by
        have hc := fun j => hW.cell (p := ⟨w.heap.size, j, none⟩) (by show w.heap.size < _; omega)
        have hd := fun j => hW.cell (p := ⟨w.heap.size + 1, j, none⟩) (by show w.heap.size + 1 < _; omega)
        exact ⟨(hc 3).trans b3, (hc 4).trans b4, (hd 0).trans g0, (hd 1).trans g1, (hd 2).trans g2, (hd 3).trans g3, (hd 4).trans g4⟩)
    have HS2 : Hid (∀ W, Below w2.heap.size w2 W → _) := Lib.hid (fun W hW => HS1.out W (hW.mono hz5))
    have hic : i ≤ c := by omega
    have hie : i ≤ e := by omega
    obtain ⟨BF, hBF1, hBF2, hBF⟩ := run_front 23 1 Try.underlying23 (fun W => by kernel_rfl) B i m e hie
    obtain ⟨AF, hAF1, hAF2, hAF⟩ := run_front 22 5 Try.underlying22 (fun W => by kernel_rfl) A i m c hic
    have HKF := Lib.hid (HK2.out.part1 (B' := BF) him hBF1 hBF2)
    have HIF := Lib.hid (HI2.out.part1 (B' := AF) him hAF1 hAF2)
    have r1 := fun W => (hBF W).1
    have r2 := fun W => (hBF W).2
    have r3 := fun W => (hAF W).1
    have r4 := fun W => (hAF W).2
    clear hBF1 hBF2 hBF hAF1 hAF2 hAF b0 b1 b2 hb2 hb3 hz hz2
    cases f with
    | true =>
      have hip : i + 1 ≤ m := by have := (HF.out.1 rfl).1; have h2 := HL2.out; omega
      clear HF
      have q1 : IntKind.i64.wrap ((i : Int) + 1) = (i : Int) + 1 := IntWalk.i64_in _ (by omega)
      obtain ⟨B9, hB1, hB2, hB9⟩ := run_back 23 1 Try.underlying23 (fun W => by kernel_rfl) B (i + 1) m e ((i : Int) + 1) (by omega) hip
      obtain ⟨A9, hA1, hA2, hA9⟩ := run_back 22 5 Try.underlying22 (fun W => by kernel_rfl) A (i + 1) m c ((i : Int) + 1) (by omega) hip
      have hKD := HK2.out.part2 (B' := B9) hip hB1 hB2
      have hID := HI2.out.part2 (B' := A9) hip hA1 hA2
      obtain ⟨n9, hn9⟩ : ∃ n9, n9 = m - (i + 1) := ⟨_, rfl⟩
      obtain ⟨c9, hc9⟩ : ∃ c9, c9 = c - (i + 1) := ⟨_, rfl⟩
      obtain ⟨e9, he9⟩ : ∃ e9, e9 = e - (i + 1) := ⟨_, rfl⟩
      rw [← hn9, ← he9] at hKD hB9
      rw [← hn9, ← hc9] at hID hA9
      have hp2 : i + n9 ≤ 2000 := by omega
      have HKD := Lib.hid hKD; have HID := Lib.hid hID
      have r5 := fun W => (hB9 W).1
      have r6 := fun W => (hB9 W).2
      have r7 := fun W => (hA9 W).1
      have r8 := fun W => (hA9 W).2
      obtain ⟨ty, hty⟩ : ∃ ty, Hid (ty = putV t i (i + 1) key tx) := ⟨_, Lib.hid rfl⟩
      have HP2 := Lib.hid hp2
      clear hn9 hc9 he9 hKD hID hB1 hB2 hB9 hA1 hA2 hA9 hp2 hip him hcap hcap2 hic hie hp0
      go_wp2_with fail
      go_region_held3 (fun W => W.cell? ⟨w.heap.size, 3, none⟩ = some (.slice A m c) ∧ W.cell? ⟨w.heap.size, 4, none⟩ = some (.slice B m e) ∧
          W.cell? ⟨w.heap.size + 1, 0, none⟩ = some (.int .i64 tx.k) ∧ W.cell? ⟨w.heap.size + 1, 1, none⟩ = some (.int .i64 tx.n) ∧ W.cell? ⟨w.heap.size + 1, 2, none⟩ = some (.string tx.s) ∧ W.cell? ⟨w.heap.size + 1, 3, none⟩ = some (.slice Ax mx cx) ∧ W.cell? ⟨w.heap.size + 1, 4, none⟩ = some (.slice Bx px ex))
        (first
          | with_reducible exact HS1.out _ (five_set (hbC.mono hz5) (Nat.le_refl _) _ _ _ _ _)
          | with_reducible exact HS1.out _ (hbC.mono hz5)
          | with_reducible exact HS1.out _ (hbB.mono hz5)
          | (with_reducible refine HS2.out _ ?_; repeat (first | with_reducible exact hbA | with_reducible exact Below.refl _ _ | with_reducible refine bel_drew ?_ | with_reducible refine bel_alloc ?_)))
        (first
          | (go_at_call 28; (with_reducible refine (putK HKF.out HKD.out hhi2 HP2.out hkey ?_ ?_).mono ?_); (· repeat (first | with_reducible exact Below.refl _ _ | with_reducible refine bel_drew ?_ | with_reducible refine bel_alloc ?_)); (· ((apply Exists.intro); (apply Exists.intro); (apply Exists.intro); (apply And.intro); (· repeat (first | (with_reducible refine has_new ?_; (simp; done)) | with_reducible refine has_drew ?_ | with_reducible refine has_alloc ?_)); (· repeat (first | (with_reducible refine has_new ?_; (simp; done)) | with_reducible refine has_drew ?_ | with_reducible refine has_alloc ?_)))); rintro _ w3 ⟨B3, p3, e3, rfl, hks, hbA, hbL⟩; have HB3 := Lib.hid (fun g o hg => blk_kept (g := g) (o := o) hbL hg); clear hbL)
          | (go_at_call 29; (with_reducible refine (putVs HIF.out HID.out HX2.out hhi2 HP2.out ?_ ?_).mono ?_); (· repeat (first | with_reducible exact hbA | with_reducible refine bel_drew ?_ | with_reducible refine bel_alloc ?_)); (· ((apply Exists.intro); (apply Exists.intro); (apply Exists.intro); (apply And.intro); (· repeat (first | (with_reducible refine has_new ?_; (simp; done)) | with_reducible refine has_drew ?_ | with_reducible refine has_alloc ?_ | with_reducible refine HB3.out _ _ ?_)); (· repeat (first | (with_reducible refine has_new ?_; (simp; done)) | with_reducible refine has_drew ?_ | with_reducible refine has_alloc ?_ | with_reducible refine HB3.out _ _ ?_)))); rintro _ w4 ⟨A3, n3, c3, rfl, his, hbB, hbL⟩; have hb34 : Below w3.heap.size w3 w4 := bel_trans (by repeat (first | with_reducible exact Below.refl _ _ | with_reducible refine bel_drew ?_ | with_reducible refine bel_alloc ?_)) hbL; have HVF : Hid (VB w4 0 w4.heap.size (d + 1) (.agg #[.int .i64 5, .int .i64 0, .string ByteArray.empty, .slice A3 n3 c3, .slice B3 p3 e3]) ty) := Lib.hid (by rw [hty.out]; exact vb_map his (ks_on hks hb34)); clear his hks hbL hb34)
          | (go_at_call 27; refine (copyWVF HVF).mono ?_; rintro _ w5 ⟨k5, m5, s5, A5, n5, c5, B5, p5, e5, er, rfl, hbL3, HV5⟩; have hbC := hbB.trans (hbL3.mono hbB.size); have h2 := (three_heap (three_step hb4 hbC) (Nat.le_refl _)).2.2; have H2 : Hid (w5.heap[w.heap.size + 1 + 1]? = _) := Lib.hid h2; obtain ⟨x0, x1, x2, x3, x4, f0, f1, f2, f3, f4⟩ := lit5 H2.out; clear h2 hbL3))
      all_goals
        go_wp2_with fail
        have hfin := lit_stored H2.out (.int .i64 k5) (.int .i64 m5) (.string s5) (.slice A5 n5 c5) (.slice B5 p5 e5)
        refine bodyPost_ret (v := .tuple #[.agg #[.int .i64 k5, .int .i64 m5, .string s5, .slice A5 n5 c5, .slice B5 p5 e5], .int .i64 er]) (results_cell_slot Try.results8 _ _ (w.heap.size + 1 + 1) 25 _ (0, 0) _ rfl hfin (by kernel_rfl) rfl) rfl ?_
        exact put_end HW HPL hty (Nat.lt_of_lt_of_le (Nat.lt_succ_self _) (Nat.le_trans hz4 hbB.size)) (Nat.le_trans (Nat.le_succ _) (Nat.le_succ _)) (three_below (three_step hb4 hbC)) HV5
    | false =>
      have hip : i ≤ m := him
      clear HF
      obtain ⟨B9, hB1, hB2, hB9⟩ := run_back 23 1 Try.underlying23 (fun W => by kernel_rfl) B (i) m e ((i : Int)) (by omega) hip
      obtain ⟨A9, hA1, hA2, hA9⟩ := run_back 22 5 Try.underlying22 (fun W => by kernel_rfl) A (i) m c ((i : Int)) (by omega) hip
      have hKD := HK2.out.part2 (B' := B9) hip hB1 hB2
      have hID := HI2.out.part2 (B' := A9) hip hA1 hA2
      obtain ⟨n9, hn9⟩ : ∃ n9, n9 = m - (i) := ⟨_, rfl⟩
      obtain ⟨c9, hc9⟩ : ∃ c9, c9 = c - (i) := ⟨_, rfl⟩
      obtain ⟨e9, he9⟩ : ∃ e9, e9 = e - (i) := ⟨_, rfl⟩
      rw [← hn9, ← he9] at hKD hB9
      rw [← hn9, ← hc9] at hID hA9
      have hp2 : i + n9 ≤ 2000 := by omega
      have HKD := Lib.hid hKD; have HID := Lib.hid hID
      have r5 := fun W => (hB9 W).1
      have r6 := fun W => (hB9 W).2
      have r7 := fun W => (hA9 W).1
      have r8 := fun W => (hA9 W).2
      obtain ⟨ty, hty⟩ : ∃ ty, Hid (ty = putV t i (i) key tx) := ⟨_, Lib.hid rfl⟩
      have HP2 := Lib.hid hp2
      clear hn9 hc9 he9 hKD hID hB1 hB2 hB9 hA1 hA2 hA9 hp2 hip him hcap hcap2 hic hie hp0
      go_wp2_with fail
      go_region_held3 (fun W => W.cell? ⟨w.heap.size, 3, none⟩ = some (.slice A m c) ∧ W.cell? ⟨w.heap.size, 4, none⟩ = some (.slice B m e) ∧
          W.cell? ⟨w.heap.size + 1, 0, none⟩ = some (.int .i64 tx.k) ∧ W.cell? ⟨w.heap.size + 1, 1, none⟩ = some (.int .i64 tx.n) ∧ W.cell? ⟨w.heap.size + 1, 2, none⟩ = some (.string tx.s) ∧ W.cell? ⟨w.heap.size + 1, 3, none⟩ = some (.slice Ax mx cx) ∧ W.cell? ⟨w.heap.size + 1, 4, none⟩ = some (.slice Bx px ex))
        (first
          | with_reducible exact HS1.out _ (five_set (hbC.mono hz5) (Nat.le_refl _) _ _ _ _ _)
          | with_reducible exact HS1.out _ (hbC.mono hz5)
          | with_reducible exact HS1.out _ (hbB.mono hz5)
          | (with_reducible refine HS2.out _ ?_; repeat (first | with_reducible exact hbA | with_reducible exact Below.refl _ _ | with_reducible refine bel_drew ?_ | with_reducible refine bel_alloc ?_)))
        (first
          | (go_at_call 28; (with_reducible refine (putK HKF.out HKD.out hhi2 HP2.out hkey ?_ ?_).mono ?_); (· repeat (first | with_reducible exact Below.refl _ _ | with_reducible refine bel_drew ?_ | with_reducible refine bel_alloc ?_)); (· ((apply Exists.intro); (apply Exists.intro); (apply Exists.intro); (apply And.intro); (· repeat (first | (with_reducible refine has_new ?_; (simp; done)) | with_reducible refine has_drew ?_ | with_reducible refine has_alloc ?_)); (· repeat (first | (with_reducible refine has_new ?_; (simp; done)) | with_reducible refine has_drew ?_ | with_reducible refine has_alloc ?_)))); rintro _ w3 ⟨B3, p3, e3, rfl, hks, hbA, hbL⟩; have HB3 := Lib.hid (fun g o hg => blk_kept (g := g) (o := o) hbL hg); clear hbL)
          | (go_at_call 29; (with_reducible refine (putVs HIF.out HID.out HX2.out hhi2 HP2.out ?_ ?_).mono ?_); (· repeat (first | with_reducible exact hbA | with_reducible refine bel_drew ?_ | with_reducible refine bel_alloc ?_)); (· ((apply Exists.intro); (apply Exists.intro); (apply Exists.intro); (apply And.intro); (· repeat (first | (with_reducible refine has_new ?_; (simp; done)) | with_reducible refine has_drew ?_ | with_reducible refine has_alloc ?_ | with_reducible refine HB3.out _ _ ?_)); (· repeat (first | (with_reducible refine has_new ?_; (simp; done)) | with_reducible refine has_drew ?_ | with_reducible refine has_alloc ?_ | with_reducible refine HB3.out _ _ ?_)))); rintro _ w4 ⟨A3, n3, c3, rfl, his, hbB, hbL⟩; have hb34 : Below w3.heap.size w3 w4 := bel_trans (by repeat (first | with_reducible exact Below.refl _ _ | with_reducible refine bel_drew ?_ | with_reducible refine bel_alloc ?_)) hbL; have HVF : Hid (VB w4 0 w4.heap.size (d + 1) (.agg #[.int .i64 5, .int .i64 0, .string ByteArray.empty, .slice A3 n3 c3, .slice B3 p3 e3]) ty) := Lib.hid (by rw [hty.out]; exact vb_map his (ks_on hks hb34)); clear his hks hbL hb34)
          | (go_at_call 27; refine (copyWVF HVF).mono ?_; rintro _ w5 ⟨k5, m5, s5, A5, n5, c5, B5, p5, e5, er, rfl, hbL3, HV5⟩; have hbC := hbB.trans (hbL3.mono hbB.size); have h2 := (three_heap (three_step hb4 hbC) (Nat.le_refl _)).2.2; have H2 : Hid (w5.heap[w.heap.size + 1 + 1]? = _) := Lib.hid h2; obtain ⟨x0, x1, x2, x3, x4, f0, f1, f2, f3, f4⟩ := lit5 H2.out; clear h2 hbL3))
      all_goals
        go_wp2_with fail
        have hfin := lit_stored H2.out (.int .i64 k5) (.int .i64 m5) (.string s5) (.slice A5 n5 c5) (.slice B5 p5 e5)
        refine bodyPost_ret (v := .tuple #[.agg #[.int .i64 k5, .int .i64 m5, .string s5, .slice A5 n5 c5, .slice B5 p5 e5], .int .i64 er]) (results_cell_slot Try.results8 _ _ (w.heap.size + 1 + 1) 25 _ (0, 0) _ rfl hfin (by kernel_rfl) rfl) rfl ?_
        exact put_end HW HPL hty (Nat.lt_of_lt_of_le (Nat.lt_succ_self _) (Nat.le_trans hz4 hbB.size)) (Nat.le_trans (Nat.le_succ _) (Nat.le_succ _)) (three_below (three_step hb4 hbC)) HV5
end Go.Proofs.Ytcamhcgafmmkdaa
