/-
  Layer 3: the canonical text, the code's: what stands between brackets.
-/
import Derived.Test.YtdkggnciamfcmaaGreatDoorTCodT
import Derived.Test.YtdkggnciamfcmaaGreatDoorTAin
import Derived.Test.YtdkggnciamfcmaaGreatDoorVCodH
namespace Go.Proofs.YtdkggnciamfcmaaGreatDoor
set_option linter.unusedVariables false
open Go.RowKit
open M (V)

def textAt (d : Nat) : Prop := ∀ (vb : Value) (l : List UInt8) (base : Nat) (v : Value) (t : V) (lo hi : Nat) (w : World), OB w base vb l → VB w lo hi d v t → hi ≤ base → base ≤ w.heap.size → t.wf = true → (l ++ M.txt t).length ≤ 140737488355000 → TB base w →
  Calls Tryz.prog 20 #[vb, v] w (Adds base (l ++ M.txt t) vb w)

/-- What stands between the brackets. -/
def M.inner (t : V) : List UInt8 := if t.k = 5 then M.txtp true t.its t.ks else M.txts true t.its

set_option maxRecDepth 100000 in
set_option maxHeartbeats 4000000 in
theorem textItems_any {d : Nat} (ih : textAt d) (vb : Value) (l : List UInt8) (base : Nat) (v : Value) (t : V) (lo hi : Nat) (w : World) (hob : OB w base vb l) (h : VB w lo hi (d + 1) v t) (hhi : hi ≤ base) (hbase : base ≤ w.heap.size) (hw : t.wf = true) (hk : t.k = 4 ∨ t.k = 5)
    (hb : (l ++ M.inner t).length ≤ 140737488355000) (hT : TB base w) :
    Calls Tryz.prog 40 #[vb, v] w (Adds base (l ++ M.inner t) vb w) := by
  obtain ⟨k, n, s, its, ks⟩ := t
  obtain ⟨A, m, c, B, p, e, rfl, k1, k2, n1, n2, s1, hI, hK⟩ := h
  have hmap := M.wf_map hw
  have HWI : Hid (V.wfs its = true) := Lib.hid (M.wf_items hw)
  simp only [V.k, V.n, V.s, V.its, V.ks] at hI hK k1 k2 n1 n2 s1 hk ⊢
  have hcap := hI.cap
  have hmost := hI.most
  have hcap2 := hK.cap
  have hmost2 := hK.most
  have HL := Lib.hid hI.len
  have HL2 := Lib.hid hK.len
  have HI := Lib.hid hI
  have HK := Lib.hid hK
  have IH := Lib.hid ih
  rw [HL.out, HL2.out] at hmap
  have HM := Lib.hid hmap
  clear hI hK ih hmap hw
  obtain ⟨L, hL⟩ : ∃ L, L = l ++ M.inner (.mk k n s its ks) := ⟨_, rfl⟩
  rw [← hL] at hb ⊢
  have HLL := Lib.hid hL; have HB := Lib.hid hb; have HT := Lib.hid hT
  clear hL hb hT
  obtain ⟨W0, hW0⟩ : ∃ W0, W0 = w.alloc (.cells #[.int .i64 k, .int .i64 n, .string s, .slice A m c, .slice B p e] 25) := ⟨_, rfl⟩
  have hbx : (w.alloc (.cells #[.int .i64 k, .int .i64 n, .string s, .slice A m c, .slice B p e] 25)).heap[w.heap.size]? = some (.cells #[.int .i64 k, .int .i64 n, .string s, .slice A m c, .slice B p e] 25 (0, 0)) := heap_alloc_new _ _
  have hz0 : W0.heap.size = w.heap.size + 1 := by rw [hW0]; exact World.size_alloc _ _
  have ho0 : OB W0 base vb l := by rw [hW0]; exact hob.alloc _
  have HOW := Lib.hid ho0
  have hbx0 : W0.heap[w.heap.size]? = some (.cells #[.int .i64 k, .int .i64 n, .string s, .slice A m c, .slice B p e] 25 (0, 0)) := by rw [hW0]; exact hbx
  have HBXF : Hid (∀ W, W0.grownBy W vb.ownBlock → W.heap[w.heap.size]? = some (.cells #[.int .i64 k, .int .i64 n, .string s, .slice A m c, .slice B p e] 25 (0, 0))) := Lib.hid (fun W hg => kept_own hg (hob.ne (Nat.le_refl _)) hbx0)
  have HBLF : Hid (∀ W, W0.grownBy W vb.ownBlock → Below base w W) := Lib.hid (fun W hg => (show Below base w W0 by rw [hW0]; exact (Below.refl _ _).alloc hbase _).trans (below_own ho0 (by omega) hg))
  have HG0 : Hid (w.grownBy W0 vb.ownBlock) := Lib.hid (by rw [hW0]; exact World.grownBy_alloc _ _ _)
  have HW0 := Lib.hid hW0
  obtain ⟨b0, b1, b2, b3, b4, f0, f1, f2, f3, f4⟩ := lit5 hbx
  have ho1 := Lib.hid (hob.alloc (.cells #[.int .i64 k, .int .i64 n, .string s, .slice A m c, .slice B p e] 25))
  clear hbx hob hW0 ho0 hbx0
  go_enter Tryz.func40, Tryz.ntmps40
  go_wp2_with fail
  go_loopw [0, 10] (fun x y wr => ∃ (j : Nat) (l' : List UInt8), y = .int .i64 j ∧ j ≤ m ∧ Hid (OB wr base x l') ∧ Hid (l' ++ (if k = 5 then M.txtp (decide (j = 0)) (its.drop j) (ks.drop j) else M.txts (decide (j = 0)) (its.drop j)) = L) ∧ Hid (W0.grownBy wr vb.ownBlock) ∧ Hid (Nx W0 vb x)) (fun _ y _ => m - (intOf y).toNat)
  case atStart => exact ⟨0, _, rfl, by omega, ho1, Lib.hid (by rw [HLL.out]; rfl), Lib.hid (by rw [HW0.out]; exact grown_refl _ _), Lib.hid (Nx.refl _ _)⟩
  case round =>
    clear ho1 b0 b1 b2 b3 b4 f0 f1 f2 f3 f4
    obtain ⟨j, l', rfl, hj, HOB, HE, HG, HN⟩ := hrel
    have hsz := HG.out.size
    have HBL := Lib.hid (HBLF.out _ HG.out)
    have hbo := HBL.out.size
    have hz1 : w.heap.size < wr.heap.size := by omega
    have hbx := HBXF.out _ HG.out
    have HNE := Lib.hid (HOB.out.ne (Nat.le_refl wr.heap.size))
    by_cases hlt : j < m
    · have hwj := V.wfs_get HWI.out j (by rw [HL.out]; exact hlt)
      obtain ⟨b, off, kk, ii, ss, x, y, rfl, c0, c1, c2, c3, c4, hv⟩ := HI.out.item HBL.out (by omega) hlt
      obtain ⟨A1, n1', cc1, B1, m1', e1', rfl, rfl⟩ := hv.cells
      obtain ⟨b0, b1, b2, b3, b4, f0, f1, f2, f3, f4⟩ := lit5 hbx
      clear hbx
      rcases hk with rfl | rfl
      · have hstep := M.txts_step (l := its) (i := j) (decide (j = 0)) (by rw [HL.out]; exact hlt)
        generalize hq : its.getD j default = q at *
        have HWJ := Lib.hid hwj
        have HE1 : Hid (l' ++ (M.sep (decide (j = 0)) ++ (M.txt q ++ M.txts false (its.drop (j + 1)))) = L) := Lib.hid (by rw [← HE.out, if_neg (by decide), hstep])
        clear hq hstep hwj HE
        rcases Nat.eq_zero_or_pos j with hj0 | hj0
        · have hj0' : ¬ (0 : Int) < (j : Int) := by omega
          have HE2 : Hid (l' ++ M.txt q ++ M.txts false (its.drop (j + 1)) = L) := Lib.hid (by rw [← HE1.out, show decide (j = 0) = true by simp [hj0]]; simp [M.sep])
          have HLN : Hid ((l' ++ M.txt q).length ≤ 140737488355000) := Lib.hid (by have e1 := congrArg List.length HE2.out; have e2 := HB.out; rw [List.length_append] at e1; omega)
          clear HE1 hj0
          have HOc := Lib.hid (HOB.out.alloc (.cells #[.int .i64 kk, .int .i64 ii, .string ss, .slice A1 n1' cc1, .slice B1 m1' e1'] 25))
          have HGc : Hid (W0.grownBy (wr.alloc (.cells #[.int .i64 kk, .int .i64 ii, .string ss, .slice A1 n1' cc1, .slice B1 m1' e1'] 25)) vb.ownBlock) := Lib.hid (HG.out.trans (World.grownBy_alloc _ _ _))
          have HNc := Lib.hid HN.out
          have HVc := Lib.hid (hv.alloc (by omega) (.cells #[.int .i64 kk, .int .i64 ii, .string ss, .slice A1 n1' cc1, .slice B1 m1' e1'] 25))
          have hzc : (wr.alloc (.cells #[.int .i64 kk, .int .i64 ii, .string ss, .slice A1 n1' cc1, .slice B1 m1' e1'] 25)).heap.size = wr.heap.size + 1 := World.size_alloc _ _
          have hszc : W0.heap.size ≤ (wr.alloc (.cells #[.int .i64 kk, .int .i64 ii, .string ss, .slice A1 n1' cc1, .slice B1 m1' e1'] 25)).heap.size := by omega
          clear hv
          go_wp2_with fail
          refine (IH.out _ l' base _ _ _ _ _ HOc.out HVc.out hhi (by omega) HWJ.out HLN.out (HT.out.on (HBLF.out _ HGc.out))).mono ?_
          rintro e w2 ⟨v2, rfl, ho2, hg2, hn2⟩
          have HG2 := Lib.hid (grow2 HGc.out HNc.out hg2)
          have HN2 := Lib.hid (HNc.out.trans hszc hn2)
          have HO2 := Lib.hid ho2
          clear ho2 hg2 hn2
          try clear c0 c1 c2 c3 c4
          try clear b0 b1 b2 b3 b4 f0 f1 f2 f3 f4
          go_wp2_with fail
          go_roundw
          case rel => exact ⟨j + 1, _, by go_num, by omega, HO2, Lib.hid (by first | (rw [if_neg (by decide), show decide (j + 1 = 0) = false by simp]; exact HE2.out) | (rw [show decide (j + 1 = 0) = false by simp]; exact HE2.out)), HG2, HN2⟩
          case measure => simp [intOf]; omega
        · have hj0' : (0 : Int) < (j : Int) := by omega
          have HE2 : Hid (l' ++ [44, 32] ++ M.txt q ++ M.txts false (its.drop (j + 1)) = L) := Lib.hid (by rw [← HE1.out, show decide (j = 0) = false by simp; omega]; simp [M.sep])
          have HLN : Hid ((l' ++ [44, 32] ++ M.txt q).length ≤ 140737488355000) := Lib.hid (by have e1 := congrArg List.length HE2.out; have e2 := HB.out; rw [List.length_append] at e1; omega)
          have HLN1 : Hid (l'.length + 2 ≤ 140737488355000) := Lib.hid (by have := HLN.out; simp at this; omega)
          clear HE1 hj0
          go_wp2_with (at_builtin; refine wpList_append_strx rfl _ _ rfl base _ l' rfl (HOB.out.alloc _) ⟨#[44, 32]⟩ rfl (by decide) ?c1 ?c2 ?_)
          case c1 => have := HLN1.out; first | omega | (simp [ByteArray.size]; omega)
          case c2 => first | omega | (simp; omega)
          intro v1 w1 ho1 hg1 hn1
          have hX : w1.heap[wr.heap.size]? = some (.cells #[.int .i64 kk, .int .i64 ii, .string ss, .slice A1 n1' cc1, .slice B1 m1' e1'] 25 (0, 0)) := kept_own hg1 HNE.out (heap_alloc_new _ _)
          have hgc := grow2 HG.out HN.out (grow_alloc hg1)
          have hbX := HBXF.out _ hgc
          have HVc := Lib.hid ((hv.alloc (by omega) (.cells #[.int .i64 kk, .int .i64 ii, .string ss, .slice A1 n1' cc1, .slice B1 m1' e1'] 25)).later (below_own (HOB.out.alloc _) (by rw [World.size_alloc]; omega) hg1) hhi)
          have hzc := hg1.size
          rw [World.size_alloc] at hzc
          have hszc : W0.heap.size ≤ w1.heap.size := by omega
          have HNc := Lib.hid (HN.out.trans hsz (hn1.mono (w0 := wr) (by rw [World.size_alloc]; omega)))
          have HNB := Lib.hid (hn1.ne (G := wr.heap.size) (by rw [World.size_alloc]; omega) HNE.out)
          have HGc := Lib.hid hgc
          have HOc := Lib.hid ho1
          clear c0 c1 c2 c3 c4 hv b0 b1 b2 b3 b4 f0 f1 f2 f3 f4 hg1 hn1 ho1 hgc
          obtain ⟨c0, c1, c2, c3, c4, _⟩ := lit5 hX
          obtain ⟨b0, b1, b2, b3, b4, f0, f1, f2, f3, f4⟩ := lit5 hbX
          clear hX hbX
          go_wp2_with fail
          refine (IH.out _ _ base _ _ _ _ _ HOc.out HVc.out hhi (by omega) HWJ.out HLN.out (HT.out.on (HBLF.out _ HGc.out))).mono ?_
          rintro e w2 ⟨v2, rfl, ho2, hg2, hn2⟩
          have HG2 := Lib.hid (grow2 HGc.out HNc.out hg2)
          have HN2 := Lib.hid (HNc.out.trans hszc hn2)
          have HO2 := Lib.hid ho2
          clear ho2 hg2 hn2
          try clear c0 c1 c2 c3 c4
          try clear b0 b1 b2 b3 b4 f0 f1 f2 f3 f4
          go_wp2_with fail
          go_roundw
          case rel => exact ⟨j + 1, _, by go_num, by omega, HO2, Lib.hid (by first | (rw [if_neg (by decide), show decide (j + 1 = 0) = false by simp]; exact HE2.out) | (rw [show decide (j + 1 = 0) = false by simp]; exact HE2.out)), HG2, HN2⟩
          case measure => simp [intOf]; omega
      · have hpm : p = m := HM.out rfl
        subst hpm
        have hstep := M.txtp_step (l := its) (ks := ks) (i := j) (decide (j = 0)) (by rw [HL.out]; exact hlt) (by rw [HL2.out]; exact hlt)
        obtain ⟨b9, off9, rfl, c9⟩ := HK.out.item HBL.out (by omega) hlt
        have hlt9 := World.block_lt_of_cell? wr _ c9
        simp only at hlt9
        generalize hq : its.getD j default = q at *
        generalize hx : ks.getD j ByteArray.empty = kx at *
        have HWJ := Lib.hid hwj
        have HXK := Lib.hid hx
        have HE1 : Hid (l' ++ (M.sep (decide (j = 0)) ++ (M.quote kx.data.toList ++ ([58, 32] ++ (M.txt q ++ M.txtp false (its.drop (j + 1)) (ks.drop (j + 1)))))) = L) := Lib.hid (by rw [← HE.out, if_pos rfl, hstep])
        clear hq hx hstep hwj HE
        rcases Nat.eq_zero_or_pos j with hj0 | hj0
        · have hj0' : ¬ (0 : Int) < (j : Int) := by omega
          have HE2A : Hid (l' ++ M.quote kx.data.toList ++ [58, 32] ++ M.txt q ++ M.txtp false (its.drop (j + 1)) (ks.drop (j + 1)) = L) := Lib.hid (by rw [← HE1.out, show decide (j = 0) = true by simp [hj0]]; simp [M.sep])
          obtain ⟨Lq, hLq⟩ : ∃ Lq, Lq = l' ++ M.quote kx.data.toList := ⟨_, rfl⟩
          obtain ⟨Lr, hLr⟩ : ∃ Lr, Lr = Lq ++ [58, 32] := ⟨_, rfl⟩
          have HE2 : Hid (Lr ++ M.txt q ++ M.txtp false (its.drop (j + 1)) (ks.drop (j + 1)) = L) := Lib.hid (by rw [hLr, hLq]; exact HE2A.out)
          have HQL := Lib.hid hLq; have HRL := Lib.hid hLr
          have HLN : Hid ((Lr ++ M.txt q).length ≤ 140737488355000) := Lib.hid (by have e1 := congrArg List.length HE2.out; have e2 := HB.out; rw [List.length_append] at e1; omega)
          have HLC : Hid (Lq.length + 2 ≤ 140737488355000) := Lib.hid (by have e1 := HLN.out; rw [hLr] at e1; simp only [List.length_append, List.length_cons, List.length_nil] at e1 ⊢; omega)
          have HLQ : Hid ((l' ++ M.quote kx.data.toList).length ≤ 140737488355000) := Lib.hid (by rw [← hLq]; have := HLC.out; omega)
          clear HE1 hj0 hLq hLr HE2A
          have HOc := Lib.hid (HOB.out.alloc (.cells #[.int .i64 kk, .int .i64 ii, .string ss, .slice A1 n1' cc1, .slice B1 m1' e1'] 25))
          have HGc : Hid (W0.grownBy (wr.alloc (.cells #[.int .i64 kk, .int .i64 ii, .string ss, .slice A1 n1' cc1, .slice B1 m1' e1'] 25)) vb.ownBlock) := Lib.hid (HG.out.trans (World.grownBy_alloc _ _ _))
          have HNc := Lib.hid HN.out
          have HVc := Lib.hid (hv.alloc (by omega) (.cells #[.int .i64 kk, .int .i64 ii, .string ss, .slice A1 n1' cc1, .slice B1 m1' e1'] 25))
          have hzc : (wr.alloc (.cells #[.int .i64 kk, .int .i64 ii, .string ss, .slice A1 n1' cc1, .slice B1 m1' e1'] 25)).heap.size = wr.heap.size + 1 := World.size_alloc _ _
          have hszc : W0.heap.size ≤ (wr.alloc (.cells #[.int .i64 kk, .int .i64 ii, .string ss, .slice A1 n1' cc1, .slice B1 m1' e1'] 25)).heap.size := by omega
          have HZc : Hid (base ≤ (wr.alloc (.cells #[.int .i64 kk, .int .i64 ii, .string ss, .slice A1 n1' cc1, .slice B1 m1' e1'] 25)).heap.size) := Lib.hid (by omega)
          have HXc : Hid ((wr.alloc (.cells #[.int .i64 kk, .int .i64 ii, .string ss, .slice A1 n1' cc1, .slice B1 m1' e1'] 25)).heap[wr.heap.size]? = some (.cells #[.int .i64 kk, .int .i64 ii, .string ss, .slice A1 n1' cc1, .slice B1 m1' e1'] 25 (0, 0))) := Lib.hid (heap_alloc_new _ _)
          have HNBc := Lib.hid HNE.out
          clear hv
          go_wp2_with fail
          refine (literalP kx _ HOc.out HZc.out HLQ.out).mono ?_
          rintro e wq ⟨vq, rfl, hoq, hgq, hnq⟩
          have hzq := hgq.size
          have HXq := Lib.hid (kept_own hgq HNBc.out HXc.out)
          have HVq := Lib.hid (HVc.out.later (below_own HOc.out HZc.out hgq) hhi)
          have HGq := Lib.hid (grow2 HGc.out HNc.out hgq)
          have HNq := Lib.hid (HNc.out.trans hszc hnq)
          have HNBq := Lib.hid (hnq.ne (G := wr.heap.size) (by omega) HNBc.out)
          have HOq : Hid (OB wq base vq Lq) := Lib.hid (by rw [HQL.out]; exact hoq)
          have hzq2 : W0.heap.size ≤ wq.heap.size := by omega
          clear c0 c1 c2 c3 c4 b0 b1 b2 b3 b4 f0 f1 f2 f3 f4 c9 hgq hnq hoq HOc HGc HNc HXc HVc HNBc HZc
          go_wp2_with (at_builtin; refine wpList_append_strx rfl _ _ rfl base _ _ rfl HOq.out ⟨#[58, 32]⟩ rfl (by decide) ?d1 ?d2 ?_)
          case d1 => have := HLC.out; first | omega | (simp [ByteArray.size]; omega)
          case d2 => omega
          intro vr wz hor hgr hnr
          have hzr := hgr.size
          have hXr := kept_own hgr HNBq.out HXq.out
          have HVc := Lib.hid (HVq.out.later (below_own HOq.out (by omega) hgr) hhi)
          have HGc := Lib.hid (grow2 HGq.out HNq.out hgr)
          have HNc := Lib.hid (HNq.out.trans hzq2 hnr)
          have HOc : Hid (OB wz base vr Lr) := Lib.hid (by rw [HRL.out]; exact hor)
          have hszc2 : W0.heap.size ≤ wz.heap.size := by omega
          clear hgr hnr hor HXq HVq HGq HNq HNBq HOq
          obtain ⟨c0, c1, c2, c3, c4, _⟩ := lit5 hXr
          clear hXr
          go_wp2_with fail
          refine (IH.out _ _ base _ _ _ _ _ HOc.out HVc.out hhi (by omega) HWJ.out HLN.out (HT.out.on (HBLF.out _ HGc.out))).mono ?_
          rintro e w2 ⟨v2, rfl, ho2, hg2, hn2⟩
          have HG2 := Lib.hid (grow2 HGc.out HNc.out hg2)
          have HN2 := Lib.hid (HNc.out.trans hszc2 hn2)
          have HO2 := Lib.hid ho2
          clear ho2 hg2 hn2
          try clear c0 c1 c2 c3 c4
          try clear b0 b1 b2 b3 b4 f0 f1 f2 f3 f4
          go_wp2_with fail
          go_roundw
          case rel => exact ⟨j + 1, _, by go_num, by omega, HO2, Lib.hid (by first | (rw [if_neg (by decide), show decide (j + 1 = 0) = false by simp]; exact HE2.out) | (rw [show decide (j + 1 = 0) = false by simp]; exact HE2.out)), HG2, HN2⟩
          case measure => simp [intOf]; omega
        · have hj0' : (0 : Int) < (j : Int) := by omega
          have HE2A : Hid (l' ++ [44, 32] ++ M.quote kx.data.toList ++ [58, 32] ++ M.txt q ++ M.txtp false (its.drop (j + 1)) (ks.drop (j + 1)) = L) := Lib.hid (by rw [← HE1.out, show decide (j = 0) = false by simp; omega]; simp [M.sep])
          obtain ⟨Lq, hLq⟩ : ∃ Lq, Lq = l' ++ [44, 32] ++ M.quote kx.data.toList := ⟨_, rfl⟩
          obtain ⟨Lr, hLr⟩ : ∃ Lr, Lr = Lq ++ [58, 32] := ⟨_, rfl⟩
          have HE2 : Hid (Lr ++ M.txt q ++ M.txtp false (its.drop (j + 1)) (ks.drop (j + 1)) = L) := Lib.hid (by rw [hLr, hLq]; exact HE2A.out)
          have HQL := Lib.hid hLq; have HRL := Lib.hid hLr
          have HLN : Hid ((Lr ++ M.txt q).length ≤ 140737488355000) := Lib.hid (by have e1 := congrArg List.length HE2.out; have e2 := HB.out; rw [List.length_append] at e1; omega)
          have HLC : Hid (Lq.length + 2 ≤ 140737488355000) := Lib.hid (by have e1 := HLN.out; rw [hLr] at e1; simp only [List.length_append, List.length_cons, List.length_nil] at e1 ⊢; omega)
          have HLQ : Hid ((l' ++ [44, 32] ++ M.quote kx.data.toList).length ≤ 140737488355000) := Lib.hid (by rw [← hLq]; have := HLC.out; omega)
          have HLN1 : Hid (l'.length + 2 ≤ 140737488355000) := Lib.hid (by have e1 := HLQ.out; simp only [List.length_append, List.length_cons, List.length_nil] at e1; omega)
          clear HE1 hj0 hLq hLr HE2A
          go_wp2_with (at_builtin; refine wpList_append_strx rfl _ _ rfl base _ l' rfl (HOB.out.alloc _) ⟨#[44, 32]⟩ rfl (by decide) ?c1 ?c2 ?_)
          case c1 => have := HLN1.out; first | omega | (simp [ByteArray.size]; omega)
          case c2 => first | omega | (simp; omega)
          intro v1 w1 ho1 hg1 hn1
          have hX : w1.heap[wr.heap.size]? = some (.cells #[.int .i64 kk, .int .i64 ii, .string ss, .slice A1 n1' cc1, .slice B1 m1' e1'] 25 (0, 0)) := kept_own hg1 HNE.out (heap_alloc_new _ _)
          have hgc := grow2 HG.out HN.out (grow_alloc hg1)
          have hbX := HBXF.out _ hgc
          have HVc := Lib.hid ((hv.alloc (by omega) (.cells #[.int .i64 kk, .int .i64 ii, .string ss, .slice A1 n1' cc1, .slice B1 m1' e1'] 25)).later (below_own (HOB.out.alloc _) (by rw [World.size_alloc]; omega) hg1) hhi)
          have hzc := hg1.size
          rw [World.size_alloc] at hzc
          have hszc : W0.heap.size ≤ w1.heap.size := by omega
          have HNc := Lib.hid (HN.out.trans hsz (hn1.mono (w0 := wr) (by rw [World.size_alloc]; omega)))
          have HNB := Lib.hid (hn1.ne (G := wr.heap.size) (by rw [World.size_alloc]; omega) HNE.out)
          have HGc := Lib.hid hgc
          have HOc := Lib.hid ho1
          obtain ⟨b9', off9', e9, c9'⟩ := HK.out.item (HBLF.out _ hgc) (by omega) hlt
          simp only [Option.some.injEq, Addr.mk.injEq, and_true] at e9
          obtain ⟨rfl, rfl⟩ := e9
          rw [HXK.out] at c9'
          clear c0 c1 c2 c3 c4 c9 hv b0 b1 b2 b3 b4 f0 f1 f2 f3 f4 hg1 hn1 ho1 hgc
          obtain ⟨c0, c1, c2, c3, c4, _⟩ := lit5 hX
          obtain ⟨b0, b1, b2, b3, b4, f0, f1, f2, f3, f4⟩ := lit5 hbX
          have c9 := c9'
          have HXc := Lib.hid hX
          have HZc : Hid (base ≤ w1.heap.size) := Lib.hid (by omega)
          have HNBc := Lib.hid HNB.out
          clear hX hbX c9' HNB
          go_wp2_with fail
          refine (literalP kx _ HOc.out HZc.out HLQ.out).mono ?_
          rintro e wq ⟨vq, rfl, hoq, hgq, hnq⟩
          have hzq := hgq.size
          have HXq := Lib.hid (kept_own hgq HNBc.out HXc.out)
          have HVq := Lib.hid (HVc.out.later (below_own HOc.out HZc.out hgq) hhi)
          have HGq := Lib.hid (grow2 HGc.out HNc.out hgq)
          have HNq := Lib.hid (HNc.out.trans hszc hnq)
          have HNBq := Lib.hid (hnq.ne (G := wr.heap.size) (by omega) HNBc.out)
          have HOq : Hid (OB wq base vq Lq) := Lib.hid (by rw [HQL.out]; exact hoq)
          have hzq2 : W0.heap.size ≤ wq.heap.size := by omega
          clear c0 c1 c2 c3 c4 b0 b1 b2 b3 b4 f0 f1 f2 f3 f4 c9 hgq hnq hoq HOc HGc HNc HXc HVc HNBc HZc
          go_wp2_with (at_builtin; refine wpList_append_strx rfl _ _ rfl base _ _ rfl HOq.out ⟨#[58, 32]⟩ rfl (by decide) ?d1 ?d2 ?_)
          case d1 => have := HLC.out; first | omega | (simp [ByteArray.size]; omega)
          case d2 => omega
          intro vr wz hor hgr hnr
          have hzr := hgr.size
          have hXr := kept_own hgr HNBq.out HXq.out
          have HVc := Lib.hid (HVq.out.later (below_own HOq.out (by omega) hgr) hhi)
          have HGc := Lib.hid (grow2 HGq.out HNq.out hgr)
          have HNc := Lib.hid (HNq.out.trans hzq2 hnr)
          have HOc : Hid (OB wz base vr Lr) := Lib.hid (by rw [HRL.out]; exact hor)
          have hszc2 : W0.heap.size ≤ wz.heap.size := by omega
          clear hgr hnr hor HXq HVq HGq HNq HNBq HOq
          obtain ⟨c0, c1, c2, c3, c4, _⟩ := lit5 hXr
          clear hXr
          go_wp2_with fail
          refine (IH.out _ _ base _ _ _ _ _ HOc.out HVc.out hhi (by omega) HWJ.out HLN.out (HT.out.on (HBLF.out _ HGc.out))).mono ?_
          rintro e w2 ⟨v2, rfl, ho2, hg2, hn2⟩
          have HG2 := Lib.hid (grow2 HGc.out HNc.out hg2)
          have HN2 := Lib.hid (HNc.out.trans hszc2 hn2)
          have HO2 := Lib.hid ho2
          clear ho2 hg2 hn2
          try clear c0 c1 c2 c3 c4
          try clear b0 b1 b2 b3 b4 f0 f1 f2 f3 f4
          go_wp2_with fail
          go_roundw
          case rel => exact ⟨j + 1, _, by go_num, by omega, HO2, Lib.hid (by first | (rw [if_neg (by decide), show decide (j + 1 = 0) = false by simp]; exact HE2.out) | (rw [show decide (j + 1 = 0) = false by simp]; exact HE2.out)), HG2, HN2⟩
          case measure => simp [intOf]; omega
    · have hend : L = l' := by
        rw [← HE.out]
        split
        · rw [M.txtp_end _ (by rw [HL.out]; omega), List.append_nil]
        · rw [M.txts_end _ (by rw [HL.out]; omega), List.append_nil]
      subst hend
      go_wp2_with fail
      go_ret
      exact ⟨_, rfl, HOB.out, HG0.out.trans HG.out, HN.out.mono (by omega)⟩
end Go.Proofs.YtdkggnciamfcmaaGreatDoor
