/-
  Layer 2: the code's Copy.
-/
import Derived.Test.YtdkggnciamfcmaaGreatDoorVMem3
import Derived.Test.YtdkggnciamfcmaaGreatDoorVCodF
namespace Go.Proofs.YtdkggnciamfcmaaGreatDoor
set_option linter.unusedVariables false
open Go.RowKit
open M (V)

/-- A new value that reads as t. -/
def NewV (B d : Nat) (t : V) (w : World) (e : Ending) (w' : World) : Prop := ∃ v, e = .returned v ∧ VB w' B w'.heap.size d v t ∧ Below B w w'
/-- New items. -/
def NewI (B d : Nat) (l : List V) (w : World) (e : Ending) (w' : World) : Prop := ∃ A n c, e = .returned (.slice A n c) ∧ IS w' B w'.heap.size (VB w' B w'.heap.size d) A n c l ∧ Below B w w'

def copyAt (d : Nat) : Prop := ∀ (v : Value) (t : V) (lo hi : Nat) (w : World), VB w lo hi d v t → hi ≤ w.heap.size →
  Calls Tryz.prog 114 #[v] w (NewV w.heap.size d t w)

set_option maxRecDepth 100000 in
set_option maxHeartbeats 2000000 in
theorem copyItems_any {d : Nat} (ih : copyAt d) {A : Option Addr} {n c lo hi : Nat} {l : List V} {w : World} (h : IS w lo hi (VB w lo hi d) A n c l) (hhi : hi ≤ w.heap.size) :
    Calls Tryz.prog 97 #[.slice A n c] w (NewI w.heap.size d l w) := by
  have hcap := h.cap
  have hmost := h.most
  have HL := Lib.hid h.len
  have HI := Lib.hid h
  have IH := Lib.hid ih
  clear h ih
  by_cases hn : n = 0
  · subst hn
    have hl : l = [] := List.eq_nil_of_length_eq_zero HL.out
    subst hl
    go_enter Tryz.func97, Tryz.ntmps97
    go_wp2_with fail
    go_ret
    exact ⟨none, 0, 0, rfl, IS.nil_ _ _ _ _, Below.refl _ _⟩
  have hn0 : ((n : Int) == 0) = false := by rw [beq_eq_false_iff_ne]; omega
  have hn1 : 0 < n := by omega
  clear hn
  go_enter Tryz.func97, Tryz.ntmps97
  go_wp2_with (at_make; refine wpList_make_vals rfl _ _ rfl n rfl rfl hmost ?_)
  intro w1 cs hcs hsz hb1
  have HG := Lib.hid hcs; have HZ := Lib.hid hsz
  clear hcs hsz
  go_wp2_with fail
  go_loopw [14] (fun y wr => ∃ (j : Nat) (cs : Array Value), y = .int .i64 j ∧ j ≤ n ∧ Hid (wr.heap[w.heap.size]? = some (.cells cs 25 (0, 0))) ∧ Hid (cs.size = n * 5) ∧ Hid (∀ q, q < j → Elem wr (w.heap.size + 1) wr.heap.size d cs q (l.getD q default)) ∧ Below w.heap.size w wr) (fun y _ => n - (intOf y).toNat)
  case atStart => exact ⟨0, cs, rfl, by omega, HG, HZ, Lib.hid (fun q h => absurd h (by omega)), hb1⟩
  case round =>
    clear HG HZ hb1
    obtain ⟨j, cs, rfl, hj, HG, HZ, HE, hb⟩ := hrel
    have hg := row_lt HG.out
    by_cases hlt : j < n
    · obtain ⟨b, off, kk, ii, ss, x, y, rfl, c0, c1, c2, c3, c4, hv⟩ := HI.out.item hb hhi hlt
      have hbs := hb.size
      obtain ⟨A1, n1', cc1, B1, m1', e1', rfl, rfl⟩ := hv.cells
      have hb2 := hb.alloc hbs (.cells #[.int .i64 kk, .int .i64 ii, .string ss, .slice A1 n1' cc1, .slice B1 m1' e1'] 25)
      generalize hq : l.getD j default = q at *
      have HQ := Lib.hid hq
      clear hq
      go_wp2_with fail
      refine (IH.out _ _ _ _ _ (hv.alloc (by omega) _) (by simp; omega)).mono ?_
      rintro e w2 ⟨v', rfl, hv', hb3⟩
      obtain ⟨A2, n2, c2', B2, m2, e2, rfl⟩ := hv'.agg
      have hb4 := below_step hb2 hb3
      have hs2 := hb3.size
      simp only [World.size_alloc] at hs2 hv'
      have hg2 : w2.heap[w.heap.size]? = some (.cells cs 25 (0, 0)) := by
        rw [hb3.block _ (by simp; omega), Below.heap_alloc _ _ _ (by omega)]; exact HG.out
      have HE2 : Hid (∀ q, q < j → Elem w2 (w.heap.size + 1) w2.heap.size d cs q (l.getD q default)) := Lib.hid (fun q h => ((HE.out q h).kept (fun b _ h2 => by rw [hb3.block _ (by simp; omega), Below.heap_alloc _ _ _ (by omega)])).weak (Nat.le_refl _) (by omega))
      obtain ⟨u0, u1, u2, u3, u4, d0, d1, d2, d3, d4⟩ := row_any (o := j * 5) hg2 (by have := HZ.out; omega)
      have f0 := row_free (i := j * 5) hg2
      have f1 := row_free (i := j * 5 + 1) hg2
      have f2 := row_free (i := j * 5 + 2) hg2
      have f3 := row_free (i := j * 5 + 3) hg2
      have f4 := row_free (i := j * 5 + 4) hg2
      have HG2 := Lib.hid hg2
      clear hg2 c0 c1 c2 c3 c4 hv hb3 hb2
      go_wp2_with fail
      obtain ⟨cs', r1, r2, r3, r4, r5, r6, r7, r8⟩ := row5 HG2.out (j * 5) (by have := HZ.out; omega) (.int .i64 q.k) (.int .i64 q.n) (.string q.s) (.slice A2 n2 c2') (.slice B2 m2 e2)
      have hkeep : Kept (w.heap.size + 1) w2.heap.size w2 (((((w2.setCell ⟨w.heap.size, j * 5, none⟩ (.int .i64 q.k)).setCell ⟨w.heap.size, j * 5 + 1, none⟩ (.int .i64 q.n)).setCell ⟨w.heap.size, j * 5 + 2, none⟩ (.string q.s)).setCell ⟨w.heap.size, j * 5 + 3, none⟩ (.slice A2 n2 c2')).setCell ⟨w.heap.size, j * 5 + 4, none⟩ (.slice B2 m2 e2)) :=
        fun k h1 _ => five_other w2 w.heap.size (j * 5) k _ _ _ _ _ (by omega)
      refine ⟨⟨j + 1, cs', by go_num, by omega, Lib.hid r1, Lib.hid (r2.trans HZ.out), Lib.hid (fun i h => ?_), five_below hb4 (Nat.le_refl _) _ _ _ _ _ _⟩, by simp [intOf]; omega⟩
      rw [five_size]
      rcases Nat.lt_or_ge i j with h' | h'
      · exact ((HE2.out i h').same fun z z1 z2 => r8 z (by omega)).kept hkeep
      · obtain rfl : i = j := by omega
        rw [HQ.out]
        exact ⟨_, _, _, _, _, r3, r4, r5, r6, r7, (hv'.weak (by omega) (Nat.le_refl _)).kept hkeep⟩
    · go_wp2_with fail
      go_ret
      refine ⟨_, _, _, rfl, IS.row HG.out HL.out (Nat.le_refl _) hmost (Nat.le_refl _) hg fun q h => (HE.out q (by omega)).weak (by omega) (Nat.le_refl _), hb⟩

set_option maxRecDepth 100000 in
set_option maxHeartbeats 2000000 in
theorem copy_step (d : Nat) (ih : copyAt d) : copyAt (d + 1) := by
  intro v t lo hi w h hhi
  obtain ⟨A, m, c, B, p, e, rfl, k1, k2, n1, n2, s1, hI, hK⟩ := h
  have hb0 := pair_below w (.cells #[.int .i64 t.k, .int .i64 t.n, .string t.s, .slice A m c, .slice B p e] 25) (.cells #[.int .i64 0, .int .i64 0, .string ByteArray.empty, .slice none 0 0, .slice none 0 0] 25)
  have IH := Lib.hid ih
  have HI := Lib.hid hI; have HK := Lib.hid hK
  have hcap2 := hK.cap
  have hmost2 := hK.most
  clear ih hI hK
  go_enter Tryz.func114, Tryz.ntmps114
  go_wp2_with fail
  refine (copyItems_any IH.out (HI.out.later hb0 hhi) (by simp; omega)).mono ?_
  rintro e w1 ⟨A1, m1, c1, rfl, hi1, hb1⟩
  have hb2 := two_step (Below.refl _ _) hb1
  obtain ⟨h1, h2⟩ := two_heap hb2 (Nat.le_refl _)
  obtain ⟨b0, b1, b2, b3, b4, f0, f1, f2, f3, f4⟩ := lit5 h1
  obtain ⟨g0, g1, g2, g3, g4, e0, e1, e2, e3, e4⟩ := lit5 h2
  have hs1 := two_size hb2
  have H1 := Lib.hid h1; have H2 := Lib.hid h2
  clear h1 h2
  have hk3 : KS (w1.setCell ⟨w.heap.size, 3, none⟩ (.slice A1 m1 c1)) lo hi B p e t.ks := HK.out.later ((two_below hb2).setCell (Nat.le_refl _) _) hhi
  go_wp2_with (at_builtin; refine wpList_append_ks rfl _ _ rfl w1.heap.size _ [] rfl (OS.empty _ _) lo hi B p e t.ks rfl ?c1 ?c2 ?c3 ?_)
  case c1 => exact hk3
  case c2 => simp; omega
  case c3 => simp
  intro v2 w2 hos hb3 _
  have hos' : OS w2 w1.heap.size v2 t.ks := hos
  obtain ⟨A2, m2, c2, rfl, hk2⟩ := hos'.form (by rw [HK.out.len]; exact hmost2) (fun j hj => HK.out.size j (by rw [HK.out.len] at hj; exact hj))
  have hw3 : (w1.setCell ⟨w.heap.size, 3, none⟩ (.slice A1 m1 c1)).heap[w.heap.size]? = some (.cells #[.int .i64 t.k, .int .i64 t.n, .string t.s, .slice A1 m1 c1, .slice B p e] 25 (0, 0)) := heap_setCell_same _ _ 3 _ _ _ H1.out
  have hw4 : (w1.setCell ⟨w.heap.size, 3, none⟩ (.slice A1 m1 c1)).heap[w.heap.size + 1]? = some (.cells #[.int .i64 0, .int .i64 0, .string ByteArray.empty, .slice none 0 0, .slice none 0 0] 25 (0, 0)) := by
    rw [heap_setCell_other _ _ _ _ (by simp)]; exact H2.out
  have q1 := (hb3.block w.heap.size (by omega)).trans hw3
  have q2 := (hb3.block (w.heap.size + 1) (by omega)).trans hw4
  clear b0 b1 b2 b3 b4 f0 f1 f2 f3 f4 g0 g1 g2 g3 g4 e0 e1 e2 e3 e4 hw3 hw4
  obtain ⟨b0, b1, b2, b3, b4, f0, f1, f2, f3, f4⟩ := lit5 q1
  obtain ⟨g0, g1, g2, g3, g4, e0, e1, e2, e3, e4⟩ := lit5 q2
  have Q1 := Lib.hid q1; have Q2 := Lib.hid q2
  clear q1 q2
  go_wp2_with fail
  have hfin := lit_stored (w := w2.setCell ⟨w.heap.size, 4, none⟩ (.slice A2 m2 c2)) (g := w.heap.size + 1) (by rw [heap_setCell_other _ _ _ _ (by simp)]; exact Q2.out) (.int .i64 t.k) (.int .i64 t.n) (.string t.s) (.slice A1 m1 c1) (.slice A2 m2 c2)
  have hs2 := hb3.size
  rw [set_size] at hs2
  have hko : ∀ b, w.heap.size + 2 ≤ b → (stored (w2.setCell ⟨w.heap.size, 4, none⟩ (.slice A2 m2 c2)) (w.heap.size + 1) (.int .i64 t.k) (.int .i64 t.n) (.string t.s) (.slice A1 m1 c1) (.slice A2 m2 c2)).heap[b]? = w2.heap[b]? := fun b hb => by
    rw [stored_other _ _ _ _ _ _ _ _ (by omega), set_other (by simp; omega)]
  refine bodyPost_ret (v := .agg #[.int .i64 t.k, .int .i64 t.n, .string t.s, .slice A1 m1 c1, .slice A2 m2 c2]) (results_cell_row Tryz.results114 _ _ (w.heap.size + 1) 25 _ (0, 0) _ rfl hfin Tryz.underlying25 rfl (by kernel_rfl)) rfl ?_
  refine ⟨_, rfl, ⟨A1, m1, c1, A2, m2, c2, rfl, k1, k2, n1, n2, s1, ?_, ?_⟩, ?_⟩
  · have hx := IS.kept (w' := stored (w2.setCell ⟨w.heap.size, 4, none⟩ (.slice A2 m2 c2)) (w.heap.size + 1) (.int .i64 t.k) (.int .i64 t.n) (.string t.s) (.slice A1 m1 c1) (.slice A2 m2 c2)) hi1 (fun b x1 x2 => by
      simp only [World.size_alloc] at x1
      rw [hko b (by omega), hb3.block b x2, set_other (by simp; omega)]) (fun v t r => r.kept (fun b x1 x2 => by
      simp only [World.size_alloc] at x1
      rw [hko b (by omega), hb3.block b x2, set_other (by simp; omega)]))
    exact hx.weak (by simp; omega) (by show _ ≤ (stored _ _ _ _ _ _ _).heap.size; rw [stored_size, set_size]; omega) (fun v t r => r.weak (by simp; omega) (by show _ ≤ (stored _ _ _ _ _ _ _).heap.size; rw [stored_size, set_size]; omega))
  · exact (hk2.kept (fun b x1 x2 => hko b (by omega))).weak (by omega) (by show _ ≤ (stored _ _ _ _ _ _ _).heap.size; rw [stored_size, set_size]; omega)
  · exact stored_below ((((two_below hb2).setCell (Nat.le_refl _) _).trans (hb3.mono (by omega))).setCell (Nat.le_refl _) _) (by omega) _ _ _ _ _

theorem copy_at : ∀ d, copyAt d
  | 0 => fun _ _ _ _ _ h _ => h.elim
  | d + 1 => copy_step d (copy_at d)
end Go.Proofs.YtdkggnciamfcmaaGreatDoor
