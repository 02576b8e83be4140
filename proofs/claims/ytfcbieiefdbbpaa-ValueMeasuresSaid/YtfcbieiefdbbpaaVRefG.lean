/-
  Layer 2: the reference's Copy.
-/
import Derived.Test.YtfcbieiefdbbpaaVMem4
import Derived.Test.YtfcbieiefdbbpaaVCodG
import Derived.Deep.RegionLaw
namespace Go.Proofs.Ytfcbieiefdbbpaa
set_option linter.unusedVariables false
open Go.RowKit
open M (V)

/-- One value is appended to a list in a field of a box: what is then there. -/
theorem grow_step {W1 W2 W3 : World} {M base j d g cap : Nat} {o : Obj} {vI : Value} {cI : List Value} {ks : List ByteArray} {vK : Value}
    {k i : Int} {s : ByteArray} {x y u0 u1 u2 u4 : Value} {T : TypeId} {f : Nat → V}
    (hM : M < base) (hbase : base ≤ W1.heap.size) (hb : Below W1.heap.size W1 W2) (hm : W1.heap[M]? = some (.cells #[u0, u1, u2, vI, u4] T (0, 0)))
    (hov : OV W1 base vI cI j) (hos : OS W1 base vK ks) (he : ∀ q, q < j → ElemA W1 base d vI.ownBlock cI.toArray q (f q))
    (hv : VB W2 W1.heap.size W2.heap.size d (.agg #[.int .i64 k, .int .i64 i, .string s, x, y]) (f j))
    (h1 : W3.ownsRow base 26 5 (.slice (some ⟨g, 0, none⟩) (j + 1) cap) (j + 1) (cI ++ [.int .i64 k, .int .i64 i, .string s, x, y])) (h2 : (W2.alloc o).grownBy W3 vI.ownBlock)
    (h3 : vI.ownBlock = some g ∨ g = W2.heap.size + 1) (h4 : g < W3.heap.size) :
    (W3.setCell ⟨M, 3, none⟩ (.slice (some ⟨g, 0, none⟩) (j + 1) cap)).heap[M]? = some (.cells #[u0, u1, u2, .slice (some ⟨g, 0, none⟩) (j + 1) cap, u4] T (0, 0)) ∧
    OV (W3.setCell ⟨M, 3, none⟩ (.slice (some ⟨g, 0, none⟩) (j + 1) cap)) base (.slice (some ⟨g, 0, none⟩) (j + 1) cap) (cI ++ [.int .i64 k, .int .i64 i, .string s, x, y]) (j + 1) ∧
    OS (W3.setCell ⟨M, 3, none⟩ (.slice (some ⟨g, 0, none⟩) (j + 1) cap)) base vK ks ∧
    (∀ q, q < j + 1 → ElemA (W3.setCell ⟨M, 3, none⟩ (.slice (some ⟨g, 0, none⟩) (j + 1) cap)) base d (some g) (cI ++ [.int .i64 k, .int .i64 i, .string s, x, y]).toArray q (f q)) ∧
    W2.heap.size + 1 ≤ (W3.setCell ⟨M, 3, none⟩ (.slice (some ⟨g, 0, none⟩) (j + 1) cap)).heap.size ∧
    (∀ b, b < base → b ≠ M → (W3.setCell ⟨M, 3, none⟩ (.slice (some ⟨g, 0, none⟩) (j + 1) cap)).heap[b]? = W1.heap[b]?) ∧ Below M W1 (W3.setCell ⟨M, 3, none⟩ (.slice (some ⟨g, 0, none⟩) (j + 1) cap)) := by
  have hs1 := hb.size
  have hs2 := h2.size
  simp only [World.size_alloc] at hs2
  have hg1 : W2.grownBy W3 vI.ownBlock := (World.grownBy_alloc W2 o vI.ownBlock).trans h2
  have hbelow3 : Below base W1 W3 := (hb.mono hbase).grown hg1 (by omega) (fun k hk => (hov.lt _ hk).1)
  have hM3 : W3.heap[M]? = some (.cells #[u0, u1, u2, vI, u4] T (0, 0)) := by rw [hbelow3.block M hM]; exact hm
  have hset : W3.grownBy (W3.setCell ⟨M, 3, none⟩ (.slice (some ⟨g, 0, none⟩) (j + 1) cap)) (some M) := ⟨rfl, rfl, rfl, by simp [World.setCell], fun k _ hk => heap_setCell_other W3 ⟨M, 3, none⟩ k _ (by intro e; exact hk (by rw [e]))⟩
  have hgM : g ≠ M := by rcases h3 with h | h
                         · have := hov.lt _ h; omega
                         · omega
  refine ⟨heap_setCell_same _ _ 3 _ _ _ hM3, World.ownsRow.kept h1 hset (.inr (fun e => hgM (by injection e))), ?_, ?_, by rw [set_size]; omega, fun b hb1 hb2 => ?_, ?_⟩
  · have e1 := own_below hos hb (Nat.le_refl _)
    have e2 := own_below hov hb (Nat.le_refl _)
    have e3 := e1.kept hg1 (own_other (w' := W2) e1 e2 (by decide))
    exact e3.kept hset (.inr (fun e => by have := (e3.lt _ e).1; omega))
  · refine ElemA.snoc hov.1 (fun q hq => ?_) ?_
    · have e1 := (he q hq).below hb (Nat.le_refl _)
      have e2 := e1.grown hg1 (g := g) (by rcases h3 with h | h; exact .inl h; exact .inr (by omega))
      exact e2.other (m := 0) (fun k hk1 hk2 => heap_setCell_other _ _ _ _ (by simp; omega)) (by rw [set_size]; omega)
    · refine ⟨W1.heap.size, W2.heap.size, hbase, by rw [set_size]; omega, fun k hk => ?_, ?_⟩
      · injection hk with hk
        subst hk
        rcases h3 with h | h
        · exact .inl (hov.lt _ h).2
        · exact .inr (by omega)
      · refine hv.kept fun b b1 b2 => ?_
        rw [heap_setCell_other _ _ _ _ (by simp; omega)]
        exact hg1.block b (by omega) (fun e => by have := (hov.lt _ e.symm).2; omega)
  · rw [heap_setCell_other _ _ _ _ (by simpa using hb2)]
    exact hbelow3.block b hb1
  · exact (hbelow3.mono (show M ≤ base by omega)).setCell (p := ⟨M, 3, none⟩) (Nat.le_refl M) _

def rCopyAt (d : Nat) : Prop := ∀ (v : Value) (t : V) (lo hi : Nat) (w : World), VB w lo hi d v t → hi ≤ w.heap.size → Calls Try.prog 22 #[v] w (NewV w.heap.size d t w)

set_option maxRecDepth 100000 in
set_option maxHeartbeats 4000000 in
theorem rCopy_step (d : Nat) (ih : rCopyAt d) : rCopyAt (d + 1) := by
  intro v t lo hi w h hhi
  obtain ⟨A, n, c, B, p, e, rfl, k1, k2, n1, n2, s1, hI, hK⟩ := h
  have IH := Lib.hid ih
  have HI := Lib.hid hI; have HK := Lib.hid hK
  have HL := Lib.hid hI.len; have HL2 := Lib.hid hK.len
  have hcap := hI.cap
  have hmost := hI.most
  have hcap2 := hK.cap
  have hmost2 := hK.most
  clear ih hI hK
  have hb0 : Below (w.heap.size + 3) (((w.alloc (.cells #[.int .i64 t.k, .int .i64 t.n, .string t.s, .slice A n c, .slice B p e] 26)).alloc (.cells #[.int .i64 0, .int .i64 0, .string ByteArray.empty, .slice none 0 0, .slice none 0 0] 26)).alloc (.cells #[.int .i64 t.k, .int .i64 t.n, .string t.s, .slice none 0 0, .slice none 0 0] 26)) _ := Below.refl _ _
  have hk3 := HK.out.later (three_below hb0) hhi
  go_enter Try.func22, Try.ntmps22
  go_wp2_with (at_builtin; refine wpList_append_ks rfl _ _ rfl (w.heap.size + 3) _ [] rfl (OS.empty _ _) lo hi B p e t.ks rfl hk3 ?c2 ?c3 ?_)
  case c2 => simp; omega
  case c3 => simp
  intro v2 w2 hos hb3 _
  have hos' : OS w2 (w.heap.size + 3) v2 t.ks := hos
  obtain ⟨A2, m2, c2, rfl, hk2⟩ := hos'.form (by rw [HL2.out]; exact hmost2) (fun j hj => HK.out.size j (by rw [HL2.out] at hj; exact hj))
  obtain ⟨h1, h2, h3⟩ := three_heap hb3 (Nat.le_refl _)
  have hz2 := three_size hb3
  have hs4 : OS (w2.setCell ⟨w.heap.size + 2, 4, none⟩ (.slice A2 m2 c2)) (w.heap.size + 3) (.slice A2 m2 c2) t.ks := hos'.kept (row := some (w.heap.size + 2)) ⟨rfl, rfl, rfl, by simp [World.setCell], fun k _ hk => heap_setCell_other w2 ⟨w.heap.size + 2, 4, none⟩ k _ (by intro e; exact hk (by rw [e]))⟩ (.inr (fun e => by have := (World.ownsRow.lt hos' _ e).1; omega))
  have hm4 : (w2.setCell ⟨w.heap.size + 2, 4, none⟩ (.slice A2 m2 c2)).heap[w.heap.size + 2]? = some (.cells #[.int .i64 t.k, .int .i64 t.n, .string t.s, .slice none 0 0, .slice A2 m2 c2] 26 (0, 0)) := heap_setCell_same _ _ 4 _ _ _ h3
  have hm1 : (w2.setCell ⟨w.heap.size + 2, 4, none⟩ (.slice A2 m2 c2)).heap[w.heap.size]? = some (.cells #[.int .i64 t.k, .int .i64 t.n, .string t.s, .slice A n c, .slice B p e] 26 (0, 0)) := by rw [heap_setCell_other _ _ _ _ (by simp)]; exact h1
  have hm2 : (w2.setCell ⟨w.heap.size + 2, 4, none⟩ (.slice A2 m2 c2)).heap[w.heap.size + 1]? = some (.cells #[.int .i64 0, .int .i64 0, .string ByteArray.empty, .slice none 0 0, .slice none 0 0] 26 (0, 0)) := by rw [heap_setCell_other _ _ _ _ (by simp)]; exact h2
  have hbl := (three_below hb3).setCell (show w.heap.size ≤ w.heap.size + 2 by omega) (.slice A2 m2 c2) (p := ⟨w.heap.size + 2, 4, none⟩)
  obtain ⟨b0, b1, b2, b3, b4, f0, f1, f2, f3, f4⟩ := lit5 h3
  have HS4 := Lib.hid hs4; have HM4 := Lib.hid hm4; have HM1 := Lib.hid hm1; have HM2 := Lib.hid hm2
  clear hk2 h1 h2 h3 hos hos' hs4 hm4 hm1 hm2 hb3
  go_wp2_with fail
  go_loopw [4] (fun y wr => ∃ (j : Nat) (vI : Value) (cI : List Value), y = .int .i64 j ∧ j ≤ n ∧ Hid (wr.heap[w.heap.size + 1 + 1]? = some (.cells #[.int .i64 t.k, .int .i64 t.n, .string t.s, vI, .slice A2 m2 c2] 26 (0, 0))) ∧
      Hid (wr.heap[w.heap.size]? = some (.cells #[.int .i64 t.k, .int .i64 t.n, .string t.s, .slice A n c, .slice B p e] 26 (0, 0))) ∧ Hid (wr.heap[w.heap.size + 1]? = some (.cells #[.int .i64 0, .int .i64 0, .string ByteArray.empty, .slice none 0 0, .slice none 0 0] 26 (0, 0))) ∧
      OV wr (w.heap.size + 3) vI cI j ∧ Hid (OS wr (w.heap.size + 3) (.slice A2 m2 c2) t.ks) ∧ Hid (∀ q, q < j → ElemA wr (w.heap.size + 3) d vI.ownBlock cI.toArray q (t.its.getD q default)) ∧ Below w.heap.size w wr ∧ w.heap.size + 3 ≤ wr.heap.size) (fun y _ => n - (intOf y).toNat)
  case atStart => exact ⟨0, _, [], rfl, by omega, HM4, HM1, HM2, World.ownsRow_nil _ _ _ _, HS4, Lib.hid (fun q h => absurd h (by omega)), hbl, by simp; omega⟩
  case round =>
    clear HS4 HM4 HM1 HM2 hbl hz2 b0 b1 b2 b3 b4 f0 f1 f2 f3 f4
    obtain ⟨j, vI, cI, rfl, hj, HM, HM1, HM2, hov, HOS, HE, hb, hz⟩ := hrel
    obtain ⟨b0, b1, b2, b3, b4, -⟩ := lit5 HM1.out
    by_cases hlt : j < n
    · obtain ⟨m0, m1, m2', m3, m4, -⟩ := lit5 HM.out
      obtain ⟨b, off, kk, ii, ss, x, y, rfl, c0, c1, c2', c3, c4, hv⟩ := HI.out.item hb hhi hlt
      obtain ⟨i2, hi2, hz0'', hz1'', hz2''⟩ := info_parts val_info
      obtain ⟨A9, n9, c9, B9, p9, e9, rfl, rfl⟩ := hv.cells
      have hv2 := hv.kept (show Kept lo hi wr wr.drew from fun _ _ _ => rfl)
      have hms : wr.heap.size > w.heap.size + 1 + 1 := by omega
      have hms1 : wr.heap.size > w.heap.size := by omega
      have hbw := hb.size
      have hine : some (w.heap.size + 1 + 1) ≠ vI.ownBlock := fun e => by have := hov.lt _ e.symm; omega
      generalize hq : t.its.getD j default = q at *
      have HQ := Lib.hid hq
      clear hq
      go_wp2_with fail
      go_region_law (first
        | (refine step_append_lies _ rfl (.tmp 26) (.tmp 33) 23 rfl (w.heap.size + 3) 26 i2 (.agg #[.int .i64 0, .int .i64 0, .string ByteArray.empty, .slice none 0 0, .slice none 0 0]) 5 80 Try.underlying23 hi2 hz0'' hz1'' hz2'' rfl (by decide) vI j cI ?_ ?_ ⟨w1.heap.size, 0, none⟩ 1 1 [.int .i64 q.k, .int .i64 q.n, .string q.s, .slice A3 n3 c3', .slice B3 p3 e3] ?_ rfl ?_ ?_ (by decide) ?_ ?_ ?_ (w1.heap.size + 1) ?_ ?_
           · simp [Act.eval]
           · exact (own_below hov hb1' (Nat.le_refl _)).alloc _
           · simp [Act.eval]
           · refine World.news_of_block (cs := #[.int .i64 q.k, .int .i64 q.n, .string q.s, .slice A3 n3 c3', .slice B3 p3 e3]) (t := 26) (fr := (0, 0)) ?_
             exact (Array.getElem?_push_size ..)
           · intro u hu
             simp only [List.mem_cons, List.not_mem_nil, or_false] at hu
             rcases hu with rfl | rfl | rfl | rfl | rfl <;> rfl
           · unfold maxLen; omega
           · omega
           · simp; omega
           · simp
           intro g2 cap2 wn hn1 hn2 hn3 hn4
           have hn5 : wn.cell? ⟨w.heap.size + 1 + 1, 3, none⟩ = some vI := hn2.cell ((World.grownBy_alloc _ _ none).cell m3' (by simp)) hine
           have hn6 : wn.frozen? ⟨w.heap.size + 1 + 1, 3, none⟩ = false := (hn2.frozen_far ⟨w.heap.size + 1 + 1, 3, none⟩ (by simp; omega) hine).trans (((World.grownBy_alloc w1 _ none).frozen_far ⟨w.heap.size + 1 + 1, 3, none⟩ (by simp; omega) (by simp)).trans f3'))
        | (go_simp; go_at_call 22
           refine (IH.out _ _ _ _ _ hv2 (by simp; omega)).mono ?_
           rintro e w1 ⟨v', rfl, hv', hb1⟩
           obtain ⟨A3, n3, c3', B3, p3, e3, rfl⟩ := hv'.agg
           have hb1' : Below wr.heap.size wr w1 := (below_drew (Below.refl _ _)).trans hb1
           have hz1 := hb1'.size
           obtain ⟨b0', b1', b2', b3', b4', -⟩ := lit5 ((hb1'.block _ hms1).trans HM1.out)
           obtain ⟨m0', m1', m2'', m3', m4', f0', f1', f2', f3', f4'⟩ := lit5 ((hb1'.block _ hms).trans HM.out)
           have hms3 : w1.heap.size > w.heap.size + 1 + 1 := by omega
           have hms4 : w1.heap.size > w.heap.size := by omega))
      all_goals (
        obtain ⟨q1, q2, q3, q4, q5, q6, q7⟩ := grow_step (M := w.heap.size + 1 + 1) (base := w.heap.size + 3) (f := fun q => t.its.getD q default) (by omega) hz hb1' HM.out hov HOS.out HE.out (by rw [HQ.out]; exact hv') hn1 hn2 hn3 hn4
        clear hn1 hn2 hn3 hn4 hn5 hn6 m0 m1 m2' m3 m4 m0' m1' m2'' m3' m4' f0' f1' f2' f3' f4' b0 b1 b2 b3 b4 b0' b1' b2' b3' b4' c0 c1 c2' c3 c4 hov
        have HM1' : Hid (_ = _) := Lib.hid ((q6 w.heap.size (by omega) (by omega)).trans HM1.out)
        have HM2' : Hid (_ = _) := Lib.hid ((q6 (w.heap.size + 1) (by omega) (by omega)).trans HM2.out)
        have Q1 := Lib.hid q1; have Q3 := Lib.hid q3; have Q4 := Lib.hid q4
        clear q1 q3 q4 q6
        generalize (wn.setCell ⟨w.heap.size + 1 + 1, 3, none⟩ _) = wf at *
        go_wp2_with fail
        exact ⟨⟨j + 1, _, _, by go_num, by omega, Q1, HM1', HM2', q2, Q3, Q4, hb.trans (q7.mono (by omega)), by omega⟩, by simp [intOf]; omega⟩)
    · obtain rfl : j = n := by omega
      obtain ⟨A7, c7, rfl, his⟩ := ovf_all hov hmost HL.out (Nat.le_refl _) HE.out
      have hos3 := HOS.out
      obtain ⟨A8, n8, c8, he8, hks⟩ := hos3.form (by rw [HL2.out]; exact hmost2) (fun j hj => HK.out.size j (by rw [HL2.out] at hj; exact hj))
      injection he8 with e1 e2 e3
      subst e1; subst e2; subst e3
      obtain ⟨m0, m1, m2', m3, m4, -⟩ := lit5 HM.out
      obtain ⟨g0, g1, g2, g3, g4, e0, e1, e2, e3, e4⟩ := lit5 HM2.out
      have HIS := Lib.hid his; have HKS := Lib.hid hks
      clear his hks hos3 hov
      go_wp2_with fail
      have hfin := lit_stored HM2.out (.int .i64 t.k) (.int .i64 t.n) (.string t.s) (.slice A7 j c7) (.slice A2 m2 c2)
      have hko : Kept (w.heap.size + 3) wr.heap.size wr (stored wr (w.heap.size + 1) (.int .i64 t.k) (.int .i64 t.n) (.string t.s) (.slice A7 j c7) (.slice A2 m2 c2)) := fun b x1 x2 => stored_other _ _ _ _ _ _ _ _ (by omega)
      refine bodyPost_ret (v := .agg #[.int .i64 t.k, .int .i64 t.n, .string t.s, .slice A7 j c7, .slice A2 m2 c2]) (results_cell_row Try.results22 _ _ (w.heap.size + 1) 26 _ (0, 0) _ rfl hfin Try.underlying26 rfl (by kernel_rfl)) rfl ?_
      refine ⟨_, rfl, ⟨A7, j, c7, A2, m2, c2, rfl, k1, k2, n1, n2, s1, ?_, ?_⟩, stored_below hb (by omega) _ _ _ _ _⟩
      · exact (IS.kept HIS.out hko (fun v t r => r.kept hko)).weak (by omega) (by show _ ≤ (stored _ _ _ _ _ _ _).heap.size; rw [stored_size]; omega) (fun v t r => r.weak (by omega) (by show _ ≤ (stored _ _ _ _ _ _ _).heap.size; rw [stored_size]; omega))
      · exact (HKS.out.kept hko).weak (by omega) (by show _ ≤ (stored _ _ _ _ _ _ _).heap.size; rw [stored_size]; omega)

theorem rCopy_at : ∀ d, rCopyAt d
  | 0 => fun _ _ _ _ _ h _ => h.elim
  | d + 1 => rCopy_step d (rCopy_at d)
theorem rCopyX {v : Value} {t : V} {lo hi : Nat} {w : World} (h : VX w lo hi v t) (hhi : hi ≤ w.heap.size) :
    Calls Try.prog 22 #[v] w fun e w' => ∃ v', e = .returned v' ∧ VX w' w.heap.size w'.heap.size v' t ∧ Below w.heap.size w w' := by
  obtain ⟨d, h⟩ := h
  exact (rCopy_at d v t lo hi w h hhi).mono fun e w' ⟨v', h1, h2, h3⟩ => ⟨v', h1, ⟨d, h2⟩, h3⟩
end Go.Proofs.Ytfcbieiefdbbpaa
