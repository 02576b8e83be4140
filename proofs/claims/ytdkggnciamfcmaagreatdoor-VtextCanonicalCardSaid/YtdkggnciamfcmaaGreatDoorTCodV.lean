/-
  Layer 3: the canonical text, the code's: a value.
-/
import Derived.Test.YtdkggnciamfcmaaGreatDoorTCodU
import Derived.Test.YtdkggnciamfcmaaGreatDoorVCodD
namespace Go.Proofs.YtdkggnciamfcmaaGreatDoor
set_option linter.unusedVariables false
open Go.RowKit
open M (V)

section
variable {w w' W W' : World} {base B g : Nat} {v v' : Value} {l : List UInt8} {o : Obj} {r : Option Nat}
theorem OB.drew (h : OB W base v l) : OB W.drew base v l := h
theorem gr_alloc (h : w.grownBy W r) : w.grownBy (W.alloc o) r := h.trans (World.grownBy_alloc _ _ _)
theorem gr_drew (h : w.grownBy W r) : w.grownBy W.drew r := ⟨h.os, h.tape, h.output, h.size, h.block⟩
theorem bk_drew {o : Obj} (h : W.heap[g]? = some o) : W.drew.heap[g]? = some o := h
theorem bk_alloc {o o' : Obj} (h : W.heap[g]? = some o) : (W.alloc o').heap[g]? = some o := (Below.heap_alloc _ _ _ (row_lt h)).trans h
theorem bk_new {o : Obj} (h : g = W.heap.size) : (W.alloc o).heap[g]? = some o := by subst h; exact heap_alloc_new W o
/-- The closing byte, in a block that is not the row's. -/
def Blk (W : World) (v : Value) (b : Int) (g : Nat) : Prop := W.heap[g]? = some (.cells #[.int .u8 b] 5 (0, 0)) ∧ v.ownBlock ≠ some g
theorem Blk.has {b : Int} (h : Blk W v b g) : W.heap[g]? = some (.cells #[.int .u8 b] 5 (0, 0)) := h.1
theorem Blk.app2 {b : Int} (hg : W.grownBy W' v.ownBlock) (hn : Nx W v v') (h1 : W.heap[g]? = some (.cells #[.int .u8 b] 5 (0, 0))) (h2 : v.ownBlock ≠ some g) : Blk W' v' b g := ⟨kept_own hg h2 h1, hn.ne (row_lt h1) h2⟩
theorem Blk.app {b : Int} (h : Blk W v b g) (hg : W.grownBy W' v.ownBlock) (hn : Nx W v v') : Blk W' v' b g := ⟨kept_own hg h.2 h.1, hn.ne (row_lt h.1) h.2⟩
end

set_option maxRecDepth 100000 in
set_option maxHeartbeats 4000000 in
theorem text_step {d : Nat} (ih : textAt d) : textAt (d + 1) := by
  intro vb l base v t lo hi w hob h hhi hbase hw hb hT
  have hVB := h
  obtain ⟨k, n, s, its, ks⟩ := t
  obtain ⟨A, m, c, B, p, e, rfl, k1, k2, n1, n2, s1, hI, hK⟩ := h
  simp only [V.k, V.n, V.s, V.its, V.ks] at k1 k2 n1 n2 s1 hI hK hVB ⊢
  clear hI hK
  have hbl : l.length ≤ 140737488355000 := by rw [List.length_append] at hb; omega
  have HB := Lib.hid hb; have HT := Lib.hid hT; have HV := Lib.hid hVB; have HW := Lib.hid hw; have IH := Lib.hid ih; have HO := Lib.hid hob
  clear hb hT hVB hw ih hob
  obtain ⟨wb, hwb⟩ : ∃ wb, wb = w.alloc (.cells #[.int .i64 k, .int .i64 n, .string s, .slice A m c, .slice B p e] 25) := ⟨_, rfl⟩
  have hz0 : wb.heap.size = w.heap.size + 1 := by rw [hwb]; exact World.size_alloc _ _
  have HOB : Hid (OB wb base vb l) := Lib.hid (by rw [hwb]; exact HO.out.alloc _)
  have hbx : wb.heap[w.heap.size]? = some (.cells #[.int .i64 k, .int .i64 n, .string s, .slice A m c, .slice B p e] 25 (0, 0)) := by rw [hwb]; exact heap_alloc_new _ _
  have HBXF : Hid (∀ W, wb.grownBy W vb.ownBlock → W.heap[w.heap.size]? = some (.cells #[.int .i64 k, .int .i64 n, .string s, .slice A m c, .slice B p e] 25 (0, 0))) := Lib.hid (fun W hg => kept_own hg (HO.out.ne (Nat.le_refl _)) hbx)
  have HBLF : Hid (∀ W, wb.grownBy W vb.ownBlock → Below base w W) := Lib.hid (fun W hg => (show Below base w wb by rw [hwb]; exact (Below.refl _ _).alloc hbase _).trans (below_own HOB.out (by omega) hg))
  have HG0 : Hid (w.grownBy wb vb.ownBlock) := Lib.hid (by rw [hwb]; exact World.grownBy_alloc _ _ _)
  have HWB := Lib.hid hwb
  have HNF : Hid (∀ v' : Value, Nx wb vb v' → Nx w vb v') := Lib.hid (fun v' hn => hn.mono (by omega))
  have hbx' : (w.alloc (.cells #[.int .i64 k, .int .i64 n, .string s, .slice A m c, .slice B p e] 25)).heap[w.heap.size]? = some (.cells #[.int .i64 k, .int .i64 n, .string s, .slice A m c, .slice B p e] 25 (0, 0)) := heap_alloc_new _ _
  obtain ⟨b0, b1, b2, b3, b4, f0, f1, f2, f3, f4⟩ := lit5 hbx'
  clear hbx hbx'
  by_cases hk1 : k = 1
  · subst hk1
    have HE : Hid (M.txt (.mk 1 n s its ks) = if (n == 1) = true then [116, 114, 117, 101] else [102, 97, 108, 115, 101]) := Lib.hid (by rw [M.txt_bool]; by_cases hn : n = 1 <;> simp [hn])
    clear hwb
    go_enter Tryz.func20, Tryz.ntmps20
    go_wp2_with fail
    refine (boolP (base := base) (l := l) (n == 1) _ (HO.out.alloc _) (by simp; omega) hbl).mono ?_
    rintro e w2 ⟨v2, rfl, ho2, hg2, hn2⟩
    go_wp2_with fail
    go_ret
    exact ⟨_, rfl, by rw [HE.out]; exact ho2, grow_alloc hg2, hn2.mono (by simp)⟩
  by_cases hk2 : k = 2
  · subst hk2
    have HE : Hid (M.txt (.mk 2 n s its ks) = Lib.itoa n) := Lib.hid M.txt_int
    clear hwb
    go_enter Tryz.func20, Tryz.ntmps20
    go_wp2_with fail
    refine (intP (base := base) (l := l) n _ (HO.out.alloc _) (by simp; omega) hbl n1 n2 (by rw [← HWB.out]; exact HT.out.on (HBLF.out _ (grown_refl _ _)))).mono ?_
    rintro e w2 ⟨v2, rfl, ho2, hg2, hn2⟩
    go_wp2_with fail
    go_ret
    exact ⟨_, rfl, by rw [HE.out]; exact ho2, grow_alloc hg2, hn2.mono (by simp)⟩
  by_cases hk3 : k = 3
  · subst hk3
    have HE : Hid (M.txt (.mk 3 n s its ks) = M.quote s.data.toList) := Lib.hid M.txt_text
    clear hwb
    go_enter Tryz.func20, Tryz.ntmps20
    go_wp2_with fail
    refine (literalP (base := base) (l := l) s _ (HO.out.alloc _) (by simp; omega) (by rw [← HE.out]; exact HB.out)).mono ?_
    rintro e w2 ⟨v2, rfl, ho2, hg2, hn2⟩
    go_wp2_with fail
    go_ret
    exact ⟨_, rfl, by rw [HE.out]; exact ho2, grow_alloc hg2, hn2.mono (by simp)⟩
  by_cases hk4 : k = 4
  · subst hk4
    have HE : Hid (M.txt (.mk 4 n s its ks) = 91 :: M.inner (.mk 4 n s its ks) ++ [93]) := Lib.hid (by rw [M.txt_list]; rfl)
    have HLN : Hid ((l ++ [91] ++ M.inner (.mk 4 n s its ks)).length ≤ 140737488355000 - 1) := Lib.hid (by have h1 := HB.out; rw [HE.out] at h1; simp only [List.length_append, List.length_cons, List.length_nil] at h1 ⊢; omega)
    have HITEM : Hid (∀ (v1 : Value) (W1 W : World), wb.grownBy W vb.ownBlock → OB W base v1 (l ++ [91]) → Calls Tryz.prog 40 #[v1, .agg #[.int .i64 4, .int .i64 n, .string s, .slice A m c, .slice B p e]] W (Adds base (l ++ [91] ++ M.inner (.mk 4 n s its ks)) v1 W)) := Lib.hid (fun v1 W1 W hg ho =>
      textItems_any IH.out v1 (l ++ [91]) base _ (.mk 4 n s its ks) lo hi W ho (HV.out.later (HBLF.out W hg) hhi) hhi (Nat.le_trans (by omega) hg.size) HW.out (.inl rfl) (Nat.le_trans HLN.out (by decide)) (HT.out.on (HBLF.out W hg)))
    have HLL : Hid ((l ++ [91] ++ M.inner (.mk 4 n s its ks)).length + 1 ≤ 140737488355328) := Lib.hid (by have := HLN.out; omega)
    have HLE : Hid (l ++ M.txt (.mk 4 n s its ks) = l ++ [91] ++ M.inner (.mk 4 n s its ks) ++ [93]) := Lib.hid (by rw [HE.out]; simp)
    rw [HLE.out]
    generalize hL : l ++ [91] ++ M.inner (.mk 4 n s its ks) = L at *
    clear hwb HV HE IH HB HW HLE hL HLN
    go_enter Tryz.func20, Tryz.ntmps20
    go_wp2_with fail
    rw [← HWB.out]
    have hwz : wb.heap.size > w.heap.size := by omega
    obtain ⟨b0, b1, b2, b3, b4, f0, f1, f2, f3, f4⟩ := lit5 (HBXF.out wb (grown_refl _ _))
    go_region_law (first
      | (refine step_append_rbx ?_ (.tmp 28) (.tmp 29) ?_ base (w.heap.size + 1) 1 vb l [91] #[.int .u8 91] 5 (0, 0) ?_ ?_ ?_ ?_ ?_ ?_ ?_ ?_ ?_ ?_
         · rfl
         · rfl
         · simp [Act.eval]
         · (repeat (first | with_reducible exact HOB.out | with_reducible refine OB.drew ?_ | with_reducible refine OB.alloc ?_ _)); done
         · simp [Act.eval]
         · (repeat (first | (with_reducible refine bk_new ?_; (simp [hz0]; done)) | with_reducible refine bk_drew ?_ | with_reducible refine bk_alloc ?_)); done
         · rfl
         · rfl
         · decide
         · omega
         · first | omega | (simp; done) | (simp; omega)
         intro v1 w1 ho1 hg1 hn1
         have HG1 : Hid (wb.grownBy w1 vb.ownBlock) := Lib.hid (World.grownBy.trans (by (repeat (first | with_reducible exact grown_refl _ _ | with_reducible refine gr_drew ?_ | with_reducible refine gr_alloc ?_)); done) hg1)
         have HN1 : Hid (Nx wb vb v1) := Lib.hid (hn1.mono (by first | omega | (simp; done) | (simp; omega) | exact Nat.le_refl _))
         have HO1 := Lib.hid ho1
         have hz1 : w1.heap.size > w.heap.size := Nat.lt_of_lt_of_le hwz HG1.out.size
         obtain ⟨c0, c1, c2, c3, c4, -⟩ := lit5 (HBXF.out w1 HG1.out)
         try (refine (fun (HK1 : Hid (Blk w1 v1 93 (w.heap.size + 1))) => ?_) (Lib.hid (Blk.app2 hg1 hn1 ?_ (HO.out.ne (by omega)))); rotate_left; · (repeat (first | (with_reducible refine bk_new ?_; (simp [hz0]; done)) | with_reducible refine bk_drew ?_ | with_reducible refine bk_alloc ?_)))
         try (refine (fun (HK2 : Hid (Blk w1 v1 93 (w.heap.size + 2))) => ?_) (Lib.hid (Blk.app2 hg1 hn1 ?_ (HO.out.ne (by omega)))); rotate_left; · (repeat (first | (with_reducible refine bk_new ?_; (simp [hz0]; done)) | with_reducible refine bk_drew ?_ | with_reducible refine bk_alloc ?_)))
         clear hg1 hn1 ho1)
      | (refine step_append_rbx ?_ (.tmp 28) (.tmp 29) ?_ base (w.heap.size + 2) 1 vb l [91] #[.int .u8 91] 5 (0, 0) ?_ ?_ ?_ ?_ ?_ ?_ ?_ ?_ ?_ ?_
         · rfl
         · rfl
         · simp [Act.eval]
         · (repeat (first | with_reducible exact HOB.out | with_reducible refine OB.drew ?_ | with_reducible refine OB.alloc ?_ _)); done
         · simp [Act.eval]
         · (repeat (first | (with_reducible refine bk_new ?_; (simp [hz0]; done)) | with_reducible refine bk_drew ?_ | with_reducible refine bk_alloc ?_)); done
         · rfl
         · rfl
         · decide
         · omega
         · first | omega | (simp; done) | (simp; omega)
         intro v1 w1 ho1 hg1 hn1
         have HG1 : Hid (wb.grownBy w1 vb.ownBlock) := Lib.hid (World.grownBy.trans (by (repeat (first | with_reducible exact grown_refl _ _ | with_reducible refine gr_drew ?_ | with_reducible refine gr_alloc ?_)); done) hg1)
         have HN1 : Hid (Nx wb vb v1) := Lib.hid (hn1.mono (by first | omega | (simp; done) | (simp; omega) | exact Nat.le_refl _))
         have HO1 := Lib.hid ho1
         have hz1 : w1.heap.size > w.heap.size := Nat.lt_of_lt_of_le hwz HG1.out.size
         obtain ⟨c0, c1, c2, c3, c4, -⟩ := lit5 (HBXF.out w1 HG1.out)
         try (refine (fun (HK1 : Hid (Blk w1 v1 93 (w.heap.size + 1))) => ?_) (Lib.hid (Blk.app2 hg1 hn1 ?_ (HO.out.ne (by omega)))); rotate_left; · (repeat (first | (with_reducible refine bk_new ?_; (simp [hz0]; done)) | with_reducible refine bk_drew ?_ | with_reducible refine bk_alloc ?_)))
         try (refine (fun (HK2 : Hid (Blk w1 v1 93 (w.heap.size + 2))) => ?_) (Lib.hid (Blk.app2 hg1 hn1 ?_ (HO.out.ne (by omega)))); rotate_left; · (repeat (first | (with_reducible refine bk_new ?_; (simp [hz0]; done)) | with_reducible refine bk_drew ?_ | with_reducible refine bk_alloc ?_)))
         clear hg1 hn1 ho1)
      | (go_simp; go_at_call 40
         refine (HITEM.out v1 w1 _ (by (repeat (first | with_reducible exact HG1.out | with_reducible refine gr_drew ?_ | with_reducible refine gr_alloc ?_)); done) (by (repeat (first | with_reducible exact HO1.out | with_reducible refine OB.drew ?_ | with_reducible refine OB.alloc ?_ _)); done)).mono ?_
         rintro e w2 ⟨v2, rfl, ho2, hg2, hn2⟩
         have HG2 : Hid (wb.grownBy w2 vb.ownBlock) := Lib.hid (grow2 HG1.out HN1.out (by first | with_reducible exact hg2 | with_reducible exact grow_alloc hg2))
         have HN2 : Hid (Nx wb vb v2) := Lib.hid (HN1.out.trans HG1.out.size (hn2.mono (by first | omega | (simp; done) | (simp; omega) | exact Nat.le_refl _)))
         have HO2 := Lib.hid ho2
         have hz2 : w2.heap.size > w.heap.size := Nat.lt_of_lt_of_le hwz HG2.out.size
         first
           | have HK3 := Lib.hid (by with_reducible exact HK1.out.app hg2 hn2)
           | have HK3 := Lib.hid (by with_reducible exact HK2.out.app hg2 hn2)
           | (refine (fun (HK3 : Hid (Blk w2 v2 93 w1.heap.size)) => ?_) (Lib.hid (Blk.app2 hg2 hn2 ?_ (HO1.out.ne (Nat.le_refl _)))); rotate_left; · (with_reducible refine bk_new ?_; rfl))
           | skip
         clear hg2 hn2 ho2)
      | (refine step_append_rbx ?_ (.tmp 32) (.tmp 33) ?_ base (w.heap.size + 1) 1 v2 L [93] #[.int .u8 93] 5 (0, 0) ?_ ?_ ?_ ?_ ?_ ?_ ?_ ?_ ?_ ?_
         · rfl
         · rfl
         · simp [Act.eval]
         · first | with_reducible exact HO2.out | with_reducible exact HO2.out.alloc _
         · simp [Act.eval]
         · first | with_reducible exact HK3.out.has | with_reducible exact heap_alloc_new _ _
         · rfl
         · rfl
         · decide
         · have := HLL.out; omega
         · first | omega | (simp; done) | (simp; omega)
         intro v3 w3 ho3 hg3 hn3
         have HG3 : Hid (wb.grownBy w3 vb.ownBlock) := Lib.hid (grow2 HG2.out HN2.out (by first | with_reducible exact hg3 | with_reducible exact grow_alloc hg3))
         have HN3 : Hid (Nx wb vb v3) := Lib.hid (HN2.out.trans HG2.out.size (hn3.mono (by first | omega | (simp; done) | (simp; omega) | exact Nat.le_refl _)))
         have HO3 := Lib.hid ho3
         clear hg3 hn3 ho3)
      | (refine step_append_rbx ?_ (.tmp 32) (.tmp 33) ?_ base (w.heap.size + 2) 1 v2 L [93] #[.int .u8 93] 5 (0, 0) ?_ ?_ ?_ ?_ ?_ ?_ ?_ ?_ ?_ ?_
         · rfl
         · rfl
         · simp [Act.eval]
         · first | with_reducible exact HO2.out | with_reducible exact HO2.out.alloc _
         · simp [Act.eval]
         · first | with_reducible exact HK3.out.has | with_reducible exact heap_alloc_new _ _
         · rfl
         · rfl
         · decide
         · have := HLL.out; omega
         · first | omega | (simp; done) | (simp; omega)
         intro v3 w3 ho3 hg3 hn3
         have HG3 : Hid (wb.grownBy w3 vb.ownBlock) := Lib.hid (grow2 HG2.out HN2.out (by first | with_reducible exact hg3 | with_reducible exact grow_alloc hg3))
         have HN3 : Hid (Nx wb vb v3) := Lib.hid (HN2.out.trans HG2.out.size (hn3.mono (by first | omega | (simp; done) | (simp; omega) | exact Nat.le_refl _)))
         have HO3 := Lib.hid ho3
         clear hg3 hn3 ho3)
      | (refine step_append_rbx ?_ (.tmp 32) (.tmp 33) ?_ base (w1.heap.size) 1 v2 L [93] #[.int .u8 93] 5 (0, 0) ?_ ?_ ?_ ?_ ?_ ?_ ?_ ?_ ?_ ?_
         · rfl
         · rfl
         · simp [Act.eval]
         · first | with_reducible exact HO2.out | with_reducible exact HO2.out.alloc _
         · simp [Act.eval]
         · first | with_reducible exact HK3.out.has | with_reducible exact heap_alloc_new _ _
         · rfl
         · rfl
         · decide
         · have := HLL.out; omega
         · first | omega | (simp; done) | (simp; omega)
         intro v3 w3 ho3 hg3 hn3
         have HG3 : Hid (wb.grownBy w3 vb.ownBlock) := Lib.hid (grow2 HG2.out HN2.out (by first | with_reducible exact hg3 | with_reducible exact grow_alloc hg3))
         have HN3 : Hid (Nx wb vb v3) := Lib.hid (HN2.out.trans HG2.out.size (hn3.mono (by first | omega | (simp; done) | (simp; omega) | exact Nat.le_refl _)))
         have HO3 := Lib.hid ho3
         clear hg3 hn3 ho3)
      | (refine step_append_rbx ?_ (.tmp 32) (.tmp 33) ?_ base (w2.heap.size) 1 v2 L [93] #[.int .u8 93] 5 (0, 0) ?_ ?_ ?_ ?_ ?_ ?_ ?_ ?_ ?_ ?_
         · rfl
         · rfl
         · simp [Act.eval]
         · first | with_reducible exact HO2.out | with_reducible exact HO2.out.alloc _
         · simp [Act.eval]
         · first | with_reducible exact HK3.out.has | with_reducible exact heap_alloc_new _ _
         · rfl
         · rfl
         · decide
         · have := HLL.out; omega
         · first | omega | (simp; done) | (simp; omega)
         intro v3 w3 ho3 hg3 hn3
         have HG3 : Hid (wb.grownBy w3 vb.ownBlock) := Lib.hid (grow2 HG2.out HN2.out (by first | with_reducible exact hg3 | with_reducible exact grow_alloc hg3))
         have HN3 : Hid (Nx wb vb v3) := Lib.hid (HN2.out.trans HG2.out.size (hn3.mono (by first | omega | (simp; done) | (simp; omega) | exact Nat.le_refl _)))
         have HO3 := Lib.hid ho3
         clear hg3 hn3 ho3)
      | fail)
    all_goals (
      go_wp2_with fail
      go_ret
      exact ⟨_, rfl, HO3.out, HG0.out.trans HG3.out, HNF.out _ HN3.out⟩)
  by_cases hk5 : k = 5
  · subst hk5
    have HE : Hid (M.txt (.mk 5 n s its ks) = 123 :: M.inner (.mk 5 n s its ks) ++ [125]) := Lib.hid (by rw [M.txt_map]; rfl)
    have HLN : Hid ((l ++ [123] ++ M.inner (.mk 5 n s its ks)).length ≤ 140737488355000 - 1) := Lib.hid (by have h1 := HB.out; rw [HE.out] at h1; simp only [List.length_append, List.length_cons, List.length_nil] at h1 ⊢; omega)
    have HITEM : Hid (∀ (v1 : Value) (W1 W : World), wb.grownBy W vb.ownBlock → OB W base v1 (l ++ [123]) → Calls Tryz.prog 40 #[v1, .agg #[.int .i64 5, .int .i64 n, .string s, .slice A m c, .slice B p e]] W (Adds base (l ++ [123] ++ M.inner (.mk 5 n s its ks)) v1 W)) := Lib.hid (fun v1 W1 W hg ho =>
      textItems_any IH.out v1 (l ++ [123]) base _ (.mk 5 n s its ks) lo hi W ho (HV.out.later (HBLF.out W hg) hhi) hhi (Nat.le_trans (by omega) hg.size) HW.out (.inr rfl) (Nat.le_trans HLN.out (by decide)) (HT.out.on (HBLF.out W hg)))
    have HLL : Hid ((l ++ [123] ++ M.inner (.mk 5 n s its ks)).length + 1 ≤ 140737488355328) := Lib.hid (by have := HLN.out; omega)
    have HLE : Hid (l ++ M.txt (.mk 5 n s its ks) = l ++ [123] ++ M.inner (.mk 5 n s its ks) ++ [125]) := Lib.hid (by rw [HE.out]; simp)
    rw [HLE.out]
    generalize hL : l ++ [123] ++ M.inner (.mk 5 n s its ks) = L at *
    clear hwb HV HE IH HB HW HLE hL HLN
    go_enter Tryz.func20, Tryz.ntmps20
    go_wp2_with fail
    rw [← HWB.out]
    have hwz : wb.heap.size > w.heap.size := by omega
    obtain ⟨b0, b1, b2, b3, b4, f0, f1, f2, f3, f4⟩ := lit5 (HBXF.out wb (grown_refl _ _))
    go_region_law (first
      | (refine step_append_rbx ?_ (.tmp 37) (.tmp 38) ?_ base (w.heap.size + 1) 1 vb l [123] #[.int .u8 123] 5 (0, 0) ?_ ?_ ?_ ?_ ?_ ?_ ?_ ?_ ?_ ?_
         · rfl
         · rfl
         · simp [Act.eval]
         · (repeat (first | with_reducible exact HOB.out | with_reducible refine OB.drew ?_ | with_reducible refine OB.alloc ?_ _)); done
         · simp [Act.eval]
         · (repeat (first | (with_reducible refine bk_new ?_; (simp [hz0]; done)) | with_reducible refine bk_drew ?_ | with_reducible refine bk_alloc ?_)); done
         · rfl
         · rfl
         · decide
         · omega
         · first | omega | (simp; done) | (simp; omega)
         intro v1 w1 ho1 hg1 hn1
         have HG1 : Hid (wb.grownBy w1 vb.ownBlock) := Lib.hid (World.grownBy.trans (by (repeat (first | with_reducible exact grown_refl _ _ | with_reducible refine gr_drew ?_ | with_reducible refine gr_alloc ?_)); done) hg1)
         have HN1 : Hid (Nx wb vb v1) := Lib.hid (hn1.mono (by first | omega | (simp; done) | (simp; omega) | exact Nat.le_refl _))
         have HO1 := Lib.hid ho1
         have hz1 : w1.heap.size > w.heap.size := Nat.lt_of_lt_of_le hwz HG1.out.size
         obtain ⟨c0, c1, c2, c3, c4, -⟩ := lit5 (HBXF.out w1 HG1.out)
         try (refine (fun (HK1 : Hid (Blk w1 v1 125 (w.heap.size + 1))) => ?_) (Lib.hid (Blk.app2 hg1 hn1 ?_ (HO.out.ne (by omega)))); rotate_left; · (repeat (first | (with_reducible refine bk_new ?_; (simp [hz0]; done)) | with_reducible refine bk_drew ?_ | with_reducible refine bk_alloc ?_)))
         try (refine (fun (HK2 : Hid (Blk w1 v1 125 (w.heap.size + 2))) => ?_) (Lib.hid (Blk.app2 hg1 hn1 ?_ (HO.out.ne (by omega)))); rotate_left; · (repeat (first | (with_reducible refine bk_new ?_; (simp [hz0]; done)) | with_reducible refine bk_drew ?_ | with_reducible refine bk_alloc ?_)))
         clear hg1 hn1 ho1)
      | (refine step_append_rbx ?_ (.tmp 37) (.tmp 38) ?_ base (w.heap.size + 2) 1 vb l [123] #[.int .u8 123] 5 (0, 0) ?_ ?_ ?_ ?_ ?_ ?_ ?_ ?_ ?_ ?_
         · rfl
         · rfl
         · simp [Act.eval]
         · (repeat (first | with_reducible exact HOB.out | with_reducible refine OB.drew ?_ | with_reducible refine OB.alloc ?_ _)); done
         · simp [Act.eval]
         · (repeat (first | (with_reducible refine bk_new ?_; (simp [hz0]; done)) | with_reducible refine bk_drew ?_ | with_reducible refine bk_alloc ?_)); done
         · rfl
         · rfl
         · decide
         · omega
         · first | omega | (simp; done) | (simp; omega)
         intro v1 w1 ho1 hg1 hn1
         have HG1 : Hid (wb.grownBy w1 vb.ownBlock) := Lib.hid (World.grownBy.trans (by (repeat (first | with_reducible exact grown_refl _ _ | with_reducible refine gr_drew ?_ | with_reducible refine gr_alloc ?_)); done) hg1)
         have HN1 : Hid (Nx wb vb v1) := Lib.hid (hn1.mono (by first | omega | (simp; done) | (simp; omega) | exact Nat.le_refl _))
         have HO1 := Lib.hid ho1
         have hz1 : w1.heap.size > w.heap.size := Nat.lt_of_lt_of_le hwz HG1.out.size
         obtain ⟨c0, c1, c2, c3, c4, -⟩ := lit5 (HBXF.out w1 HG1.out)
         try (refine (fun (HK1 : Hid (Blk w1 v1 125 (w.heap.size + 1))) => ?_) (Lib.hid (Blk.app2 hg1 hn1 ?_ (HO.out.ne (by omega)))); rotate_left; · (repeat (first | (with_reducible refine bk_new ?_; (simp [hz0]; done)) | with_reducible refine bk_drew ?_ | with_reducible refine bk_alloc ?_)))
         try (refine (fun (HK2 : Hid (Blk w1 v1 125 (w.heap.size + 2))) => ?_) (Lib.hid (Blk.app2 hg1 hn1 ?_ (HO.out.ne (by omega)))); rotate_left; · (repeat (first | (with_reducible refine bk_new ?_; (simp [hz0]; done)) | with_reducible refine bk_drew ?_ | with_reducible refine bk_alloc ?_)))
         clear hg1 hn1 ho1)
      | (go_simp; go_at_call 40
         refine (HITEM.out v1 w1 _ (by (repeat (first | with_reducible exact HG1.out | with_reducible refine gr_drew ?_ | with_reducible refine gr_alloc ?_)); done) (by (repeat (first | with_reducible exact HO1.out | with_reducible refine OB.drew ?_ | with_reducible refine OB.alloc ?_ _)); done)).mono ?_
         rintro e w2 ⟨v2, rfl, ho2, hg2, hn2⟩
         have HG2 : Hid (wb.grownBy w2 vb.ownBlock) := Lib.hid (grow2 HG1.out HN1.out (by first | with_reducible exact hg2 | with_reducible exact grow_alloc hg2))
         have HN2 : Hid (Nx wb vb v2) := Lib.hid (HN1.out.trans HG1.out.size (hn2.mono (by first | omega | (simp; done) | (simp; omega) | exact Nat.le_refl _)))
         have HO2 := Lib.hid ho2
         have hz2 : w2.heap.size > w.heap.size := Nat.lt_of_lt_of_le hwz HG2.out.size
         first
           | have HK3 := Lib.hid (by with_reducible exact HK1.out.app hg2 hn2)
           | have HK3 := Lib.hid (by with_reducible exact HK2.out.app hg2 hn2)
           | (refine (fun (HK3 : Hid (Blk w2 v2 125 w1.heap.size)) => ?_) (Lib.hid (Blk.app2 hg2 hn2 ?_ (HO1.out.ne (Nat.le_refl _)))); rotate_left; · (with_reducible refine bk_new ?_; rfl))
           | skip
         clear hg2 hn2 ho2)
      | (refine step_append_rbx ?_ (.tmp 41) (.tmp 42) ?_ base (w.heap.size + 1) 1 v2 L [125] #[.int .u8 125] 5 (0, 0) ?_ ?_ ?_ ?_ ?_ ?_ ?_ ?_ ?_ ?_
         · rfl
         · rfl
         · simp [Act.eval]
         · first | with_reducible exact HO2.out | with_reducible exact HO2.out.alloc _
         · simp [Act.eval]
         · first | with_reducible exact HK3.out.has | with_reducible exact heap_alloc_new _ _
         · rfl
         · rfl
         · decide
         · have := HLL.out; omega
         · first | omega | (simp; done) | (simp; omega)
         intro v3 w3 ho3 hg3 hn3
         have HG3 : Hid (wb.grownBy w3 vb.ownBlock) := Lib.hid (grow2 HG2.out HN2.out (by first | with_reducible exact hg3 | with_reducible exact grow_alloc hg3))
         have HN3 : Hid (Nx wb vb v3) := Lib.hid (HN2.out.trans HG2.out.size (hn3.mono (by first | omega | (simp; done) | (simp; omega) | exact Nat.le_refl _)))
         have HO3 := Lib.hid ho3
         clear hg3 hn3 ho3)
      | (refine step_append_rbx ?_ (.tmp 41) (.tmp 42) ?_ base (w.heap.size + 2) 1 v2 L [125] #[.int .u8 125] 5 (0, 0) ?_ ?_ ?_ ?_ ?_ ?_ ?_ ?_ ?_ ?_
         · rfl
         · rfl
         · simp [Act.eval]
         · first | with_reducible exact HO2.out | with_reducible exact HO2.out.alloc _
         · simp [Act.eval]
         · first | with_reducible exact HK3.out.has | with_reducible exact heap_alloc_new _ _
         · rfl
         · rfl
         · decide
         · have := HLL.out; omega
         · first | omega | (simp; done) | (simp; omega)
         intro v3 w3 ho3 hg3 hn3
         have HG3 : Hid (wb.grownBy w3 vb.ownBlock) := Lib.hid (grow2 HG2.out HN2.out (by first | with_reducible exact hg3 | with_reducible exact grow_alloc hg3))
         have HN3 : Hid (Nx wb vb v3) := Lib.hid (HN2.out.trans HG2.out.size (hn3.mono (by first | omega | (simp; done) | (simp; omega) | exact Nat.le_refl _)))
         have HO3 := Lib.hid ho3
         clear hg3 hn3 ho3)
      | (refine step_append_rbx ?_ (.tmp 41) (.tmp 42) ?_ base (w1.heap.size) 1 v2 L [125] #[.int .u8 125] 5 (0, 0) ?_ ?_ ?_ ?_ ?_ ?_ ?_ ?_ ?_ ?_
         · rfl
         · rfl
         · simp [Act.eval]
         · first | with_reducible exact HO2.out | with_reducible exact HO2.out.alloc _
         · simp [Act.eval]
         · first | with_reducible exact HK3.out.has | with_reducible exact heap_alloc_new _ _
         · rfl
         · rfl
         · decide
         · have := HLL.out; omega
         · first | omega | (simp; done) | (simp; omega)
         intro v3 w3 ho3 hg3 hn3
         have HG3 : Hid (wb.grownBy w3 vb.ownBlock) := Lib.hid (grow2 HG2.out HN2.out (by first | with_reducible exact hg3 | with_reducible exact grow_alloc hg3))
         have HN3 : Hid (Nx wb vb v3) := Lib.hid (HN2.out.trans HG2.out.size (hn3.mono (by first | omega | (simp; done) | (simp; omega) | exact Nat.le_refl _)))
         have HO3 := Lib.hid ho3
         clear hg3 hn3 ho3)
      | (refine step_append_rbx ?_ (.tmp 41) (.tmp 42) ?_ base (w2.heap.size) 1 v2 L [125] #[.int .u8 125] 5 (0, 0) ?_ ?_ ?_ ?_ ?_ ?_ ?_ ?_ ?_ ?_
         · rfl
         · rfl
         · simp [Act.eval]
         · first | with_reducible exact HO2.out | with_reducible exact HO2.out.alloc _
         · simp [Act.eval]
         · first | with_reducible exact HK3.out.has | with_reducible exact heap_alloc_new _ _
         · rfl
         · rfl
         · decide
         · have := HLL.out; omega
         · first | omega | (simp; done) | (simp; omega)
         intro v3 w3 ho3 hg3 hn3
         have HG3 : Hid (wb.grownBy w3 vb.ownBlock) := Lib.hid (grow2 HG2.out HN2.out (by first | with_reducible exact hg3 | with_reducible exact grow_alloc hg3))
         have HN3 : Hid (Nx wb vb v3) := Lib.hid (HN2.out.trans HG2.out.size (hn3.mono (by first | omega | (simp; done) | (simp; omega) | exact Nat.le_refl _)))
         have HO3 := Lib.hid ho3
         clear hg3 hn3 ho3)
      | fail)
    all_goals (
      go_wp2_with fail
      go_ret
      exact ⟨_, rfl, HO3.out, HG0.out.trans HG3.out, HNF.out _ HN3.out⟩)
  have e1 : (k == 1) = false := by simpa using hk1
  have e2 : (k == 2) = false := by simpa using hk2
  have e3 : (k == 3) = false := by simpa using hk3
  have e4 : (k == 4) = false := by simpa using hk4
  have e5 : (k == 5) = false := by simpa using hk5
  have HE : Hid (M.txt (.mk k n s its ks) = [110, 117, 108, 108]) := Lib.hid (M.txt_other hk1 hk2 hk3 hk4 hk5)
  have HLN : Hid (l.length + 4 ≤ 140737488355000) := Lib.hid (by have h1 := HB.out; rw [HE.out] at h1; simp only [List.length_append, List.length_cons, List.length_nil] at h1 ⊢; omega)
  clear hwb
  go_enter Tryz.func20, Tryz.ntmps20
  go_wp2_with (at_builtin; refine wpList_append_strx rfl _ _ rfl base _ l rfl (HO.out.alloc _) ⟨#[110, 117, 108, 108]⟩ rfl (by decide) ?c1 ?c2 ?_)
  case c1 => have := HLN.out; first | omega | (simp [ByteArray.size]; omega)
  case c2 => first | omega | (simp; omega)
  intro v2 w2 ho2 hg2 hn2
  go_wp2_with fail
  go_ret
  exact ⟨_, rfl, by rw [HE.out]; exact ho2, grow_alloc hg2, hn2.mono (by simp)⟩

theorem text_at : ∀ d, textAt d
  | 0 => fun _ _ _ _ _ _ _ _ _ h => h.elim
  | d + 1 => text_step (text_at d)

end Go.Proofs.YtdkggnciamfcmaaGreatDoor
