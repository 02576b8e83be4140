/-
  Layer 2: the code's Map.
-/
import Derived.Test.YtkodmhopollnpaaGreatVCodK
import Derived.Test.YtkodmhopollnpaaGreatVMem4
import Derived.Deep.AppendLies
namespace Go.Proofs.YtkodmhopollnpaaGreat
set_option linter.unusedVariables false
open Go.RowKit
open M (V)

theorem app_step {w1 wr wn : World} {M f e s n e' s' n' n2 T : Nat} {o : Obj} {v v' u : Value} {cs : Array Value} {xs xs' xs2 : List Value} (hM : M < w1.heap.size) (hg : w1.grownBy wr (some M)) (hm : wr.heap[M]? = some (.cells cs T (0, 0)))
    (hrow : wr.ownsRow w1.heap.size e s v n xs) (hoth : wr.ownsRow w1.heap.size e' s' v' n' xs') (hne : e ≠ e')
    (h1 : wn.ownsRow w1.heap.size e s u n2 xs2) (h2 : (wr.alloc o).drew.grownBy wn v.ownBlock) :
    w1.grownBy (wn.setCell ⟨M, f, none⟩ u) (some M) ∧ (wn.setCell ⟨M, f, none⟩ u).heap[M]? = some (.cells (cs.setIfInBounds f u) T (0, 0)) ∧ (wn.setCell ⟨M, f, none⟩ u).ownsRow w1.heap.size e s u n2 xs2 ∧ (wn.setCell ⟨M, f, none⟩ u).ownsRow w1.heap.size e' s' v' n' xs' ∧ wr.heap.size ≤ (wn.setCell ⟨M, f, none⟩ u).heap.size := by
  have hws := hg.size
  have g1 : wr.grownBy wn v.ownBlock := (World.grownBy_alloc wr o v.ownBlock).trans ((show (wr.alloc o).grownBy (wr.alloc o).drew v.ownBlock from ⟨rfl, rfl, rfl, Nat.le_refl _, fun _ _ _ => rfl⟩).trans h2)
  have g2 : wn.grownBy (wn.setCell ⟨M, f, none⟩ u) (some M) := ⟨rfl, rfl, rfl, by simp [World.setCell], fun k _ hk => heap_setCell_other wn ⟨M, f, none⟩ k u (by intro e; exact hk (by rw [e]))⟩
  have hk : ∀ {e s n : Nat} {v : Value} {xs : List Value} {W : World}, W.ownsRow w1.heap.size e s v n xs → v.ownBlock ≠ some M := fun {e s n v xs W} h e' => by have := h.lt _ e'; omega
  have hv : v.ownBlock = none ∨ v.ownBlock ≠ v'.ownBlock := own_other (w' := wr) hrow hoth hne
  have hv' : v'.ownBlock = none ∨ v'.ownBlock ≠ v.ownBlock := own_other (w' := wr) hoth hrow (Ne.symm hne)
  refine ⟨?_, ?_, h1.kept g2 (.inr (hk h1)), (hoth.kept g1 hv').kept g2 (.inr (hk hoth)), ?_⟩
  · exact (hg.andThen g1 (fun k hk' => .inl (hrow.lt _ hk').1)).andThen g2 (fun k hk' => .inr hk')
  · exact heap_setCell_same _ _ f _ _ _ ((g1.block M (by omega) (fun e' => hk hrow e'.symm)).trans hm)
  · exact Nat.le_trans g1.size g2.size

theorem os_snoc {p : List Nat} {j x : Nat} {ks : List ByteArray} {W : World} {base : Nat} {v : Value} (hl : j < p.length) (hx : p.getD j 0 = x)
    (h : W.ownsRow base 9 1 v (j + 1) (((p.take j).map (keyOf ks)).map Value.string ++ [.string (keyOf ks x)])) : OS W base v ((p.take (j + 1)).map (keyOf ks)) := by
  have e : p.take (j + 1) = p.take j ++ [x] := by
    rw [List.take_add_one]
    congr 1
    rw [← hx]
    simp [List.getD, hl]
  unfold OS
  have e2 : ((p.take (j + 1)).map (keyOf ks)).length = j + 1 := by simp; omega
  rw [e2, e]
  simpa using h
theorem elem_snoc {W : World} {lo hi d j : Nat} {cI : List Value} {f : Nat → V} {k i : Int} {s : ByteArray} {x y : Value} (hl : cI.length = j * 5) (he : ∀ q, q < j → Elem W lo hi d cI.toArray q (f q)) (hv : VB W lo hi d (.agg #[.int .i64 k, .int .i64 i, .string s, x, y]) (f j)) :
    ∀ q, q < j + 1 → Elem W lo hi d (cI ++ [.int .i64 k, .int .i64 i, .string s, x, y]).toArray q (f q) := by
  intro q hq
  rcases Nat.lt_or_ge q j with h | h
  · refine (he q h).same fun i h1 h2 => ?_
    simp only [List.getElem?_toArray]
    exact List.getElem?_append_left (by omega)
  · obtain rfl : q = j := by omega
    have g : ∀ r, (cI ++ [Value.int .i64 k, .int .i64 i, .string s, x, y]).toArray[q * 5 + r]? = [Value.int .i64 k, .int .i64 i, .string s, x, y][r]? := fun r => by
      simp only [List.getElem?_toArray]
      rw [List.getElem?_append_right (by omega), hl]
      congr 1; omega
    exact ⟨k, i, s, x, y, g 0, g 1, g 2, g 3, g 4, hv⟩
theorem ov_form {W : World} {base lo hi d n : Nat} {v : Value} {cI : List Value} {l : List V} (h : OV W base v cI n) (hn : 0 < n) (hb : n * 80 ≤ 140737488355328) (hl : l.length = n) (hlo : lo ≤ base) (hhi : hi = W.heap.size)
    (he : ∀ q, q < n → Elem W lo hi d cI.toArray q (l.getD q default)) : ∃ A c, v = .slice A n c ∧ IS W lo hi (VB W lo hi d) A n c l := by
  obtain ⟨_, h2⟩ := h
  rcases h2 with ⟨_, h0⟩ | ⟨g, cap, cur, rfl, hg, hheap, h3, h4, h5, h6⟩
  · omega
  · refine ⟨_, _, rfl, IS.row hheap hl h3 hb (by omega) (by rw [hhi]; exact row_lt hheap) fun q hq => (he q hq).same fun i h1 h2 => ?_⟩
    rw [← h6]
    simp only [List.getElem?_toArray]
    rw [List.getElem?_take_of_lt (by omega)]
    simp

theorem places_n {A : Option Addr} {n c lo hi : Nat} {ks : List ByteArray} {w : World} (hn : 0 < n) (h : KS w lo hi A n c ks) (hhi : hi ≤ w.heap.size) :
    Calls Tryz.prog 38 #[.slice A n c] w (Sorted ks n w.heap.size w) := by
  obtain ⟨k, rfl⟩ : ∃ k, n = k + 1 := ⟨n - 1, by omega⟩
  exact places_any h hhi

/-- What Map returns. -/
def NewM (B d : Nat) (ks : List ByteArray) (its : List V) (w : World) (e : Ending) (w' : World) : Prop := ∃ p : List Nat, p.Perm (List.range ks.length) ∧
  (∀ i j, i < j → j < ks.length → Go.Op.bytesLess (keyOf ks (p.getD j 0)).toList (keyOf ks (p.getD i 0)).toList = false) ∧
  (M.rise (p.map (keyOf ks)) = false → e = .returned (.tuple #[.agg #[.int .i64 0, .int .i64 0, .string ByteArray.empty, .slice none 0 0, .slice none 0 0], .int .i64 9])) ∧
  (M.rise (p.map (keyOf ks)) = true → V.within (.mk 5 0 ByteArray.empty (p.map fun q => its.getD q default) (p.map (keyOf ks))) = false → e = .returned (.tuple #[.agg #[.int .i64 0, .int .i64 0, .string ByteArray.empty, .slice none 0 0, .slice none 0 0], .int .i64 6])) ∧
  (M.rise (p.map (keyOf ks)) = true → V.within (.mk 5 0 ByteArray.empty (p.map fun q => its.getD q default) (p.map (keyOf ks))) = true → ∃ v, e = .returned (.tuple #[v, .int .i64 0]) ∧ VB w' B w'.heap.size (d + 1) v (.mk 5 0 ByteArray.empty (p.map fun q => its.getD q default) (p.map (keyOf ks)))) ∧ Below B w w'

set_option maxRecDepth 100000 in
set_option maxHeartbeats 4000000 in
theorem map_some {d : Nat} {A B : Option Addr} {n c e0 lo hi lo' hi' : Nat} {ks : List ByteArray} {its : List V} {w : World} (h : KS w lo hi A n c ks) (hhi : hi ≤ w.heap.size) (hn : 0 < n) (h' : IS w lo' hi' (VB w lo' hi' d) B n e0 its) (hhi' : hi' ≤ w.heap.size) :
    Calls Tryz.prog 18 #[.slice A n c, .slice B n e0] w (NewM w.heap.size d ks its w) := by
  have hb0 : Below (w.heap.size + 2) ((w.alloc (.cells #[.int .i64 0, .int .i64 0, .string ByteArray.empty, .slice none 0 0, .slice none 0 0] 31)).alloc (.cells #[.int .i64 5, .int .i64 0, .string ByteArray.empty, .slice none 0 0, .slice none 0 0] 31)) _ := Below.refl _ _
  have hk1 := h.later (two_below hb0) hhi
  have hz0 := two_size hb0
  have HK := Lib.hid h; have HI := Lib.hid h'
  have HL := Lib.hid h.len; have HL' := Lib.hid h'.len
  have hcap := h.cap
  have hmost := h.most
  have hcap' := h'.cap
  have hmost' := h'.most
  clear h h'
  go_enter Tryz.func18, Tryz.ntmps18
  go_wp2_with fail
  refine (places_n hn hk1 (by omega)).mono ?_
  rintro e w1 ⟨g, p, rfl, hp, hpc, hps, hg1, hg2, hb1⟩
  have hb2 := two_step hb0 hb1
  obtain ⟨h1, h2⟩ := two_heap hb2 (Nat.le_refl _)
  simp only [World.size_alloc] at hg1
  have hpl : p.length = n := by have := hp.length_eq; simpa using this
  have hpr : ∀ j, j < n → p.getD j 0 < n := fun j hj => by
    have hm : p.getD j 0 ∈ p := by rw [show p.getD j 0 = p[j]'(by omega) by simp [List.getD, show j < p.length by omega]]; exact List.getElem_mem _
    have := (hp.mem_iff).1 hm
    simpa using this
  have H1 := Lib.hid h1; have H2 := Lib.hid h2; have HP := Lib.hid hp; have HPC := Lib.hid hpc; have HPS := Lib.hid hps; have HPL := Lib.hid hpl; have HPR := Lib.hid hpr
  have hz2 := two_size hb2
  clear h1 h2 hp hpc hps hpl hpr hb1 hk1
  go_wp2_with fail
  go_loopw [19] (fun y wr => ∃ (j : Nat) (vI vK : Value) (cI : List Value), y = .int .i64 j ∧ j ≤ n ∧ Hid (wr.heap[w.heap.size + 1]? = some (.cells #[.int .i64 5, .int .i64 0, .string ByteArray.empty, vI, vK] 31 (0, 0))) ∧ w1.grownBy wr (some (w.heap.size + 1)) ∧
      OS wr w1.heap.size vK ((p.take j).map (keyOf ks)) ∧ OV wr w1.heap.size vI cI j ∧ Hid (∀ q, q < j → Elem w lo' hi' d cI.toArray q (its.getD (p.getD q 0) default))) (fun y _ => n - (intOf y).toNat)
  case atStart => exact ⟨0, _, _, [], rfl, by omega, H2, World.grownBy.refl _ _, OS.empty _ _, World.ownsRow_nil _ _ _ _, Lib.hid (fun q h => absurd h (by omega))⟩
  case round =>
    obtain ⟨j, vI, vK, cI, rfl, hj, HM, hgr, hos, hov, HE⟩ := hrel
    have hws := hgr.size
    by_cases hlt : j < n
    · have hbw : Below w.heap.size w wr := (two_below hb2).grown hgr (by omega) (fun k hk => by injection hk; omega)
      have hpj : wr.cell? ⟨g, j, none⟩ = some (.int .i64 ((p.getD j 0 : Nat) : Int)) := hgr.cell (HPC.out j hlt) (by intro e; injection e with e; simp at e; omega)
      have hpx := HPR.out j hlt
      generalize hx : p.getD j 0 = x at *
      have hpx' : (x : Int) < (n : Int) := by omega
      have HX := Lib.hid hx
      clear hx
      obtain ⟨b9, off9, rfl, c9⟩ := HK.out.item hbw hhi hpx
      obtain ⟨b, off, kk, ii, ss, x', y', rfl, z0, z1, z2, z3, z4, hv⟩ := HI.out.item (Below.refl w.heap.size w) hhi' hpx
      have hbb : b < w.heap.size := by
        obtain ⟨b', off', e, q1, q2, _⟩ := HI.out.at_ (by omega)
        injection e with e; injection e with e; omega
      obtain ⟨a7, n7, c7, b7, m7, u7, hxy⟩ := VX.form ⟨d, hv⟩
      simp only [Value.agg.injEq, Array.mk.injEq, List.cons.injEq, and_true] at hxy
      obtain ⟨-, -, -, rfl, rfl⟩ := hxy
      obtain ⟨m0, m1, m2, m3, m4, f0, f1, f2, f3, f4⟩ := lit5 HM.out
      go_wp2_with fail
      obtain ⟨i, hi0, hz0', hz1', hz2'⟩ := info_parts str_info
      obtain ⟨i2, hi2, hz0'', hz1'', hz2''⟩ := info_parts val_info
      have hms : wr.heap.size > w.heap.size + 1 := by omega
      have hkne : some (w.heap.size + 1) ≠ vK.ownBlock := fun e => by have := hos.lt _ e.symm; omega
      have hine : some (w.heap.size + 1) ≠ vI.ownBlock := fun e => by have := hov.lt _ e.symm; omega
      have hln : ((p.take j).map (keyOf ks)).length = j := by have := HPL.out; simp; omega
      rw [show OS wr w1.heap.size vK ((p.take j).map (keyOf ks)) = wr.ownsRow w1.heap.size 9 1 vK j (((p.take j).map (keyOf ks)).map Value.string) from by unfold OS; rw [hln]] at hos
      go_region_law (
        refine step_append_lies _ rfl (.tmp 24) (.tmp 29) 29 rfl w1.heap.size 9 i (.string ByteArray.empty) 1 16 Tryz.underlying29 hi0 hz0' hz1' hz2' rfl (by decide) vK j (((p.take j).map (keyOf ks)).map Value.string) ?_ ?_ ⟨wr.heap.size, 0, none⟩ 1 1 [.string (keyOf ks x)] ?_ rfl ?_ ?_ (by decide) ?_ ?_ ?_ (wr.heap.size + 1) ?_ ?_
        · simp [Act.eval]
        · exact (World.ownsRow.drew hos).alloc _
        · simp [Act.eval]
        · refine World.news_of_block (cs := #[.string (keyOf ks x)]) (t := 9) (fr := (0, 0)) ?_
          exact (Array.getElem?_push_size ..)
        · intro u hu; obtain rfl := List.mem_singleton.1 hu; rfl
        · unfold maxLen; omega
        · omega
        · simp; omega
        · simp
        intro g1 cap1 wn hn1 hn2 hn3 hn4
        have hn5 : wn.cell? ⟨w.heap.size + 1, 4, none⟩ = some vK := hn2.cell ((World.grownBy_alloc _ _ none).cell (w := wr.drew) m4 (by simp)) hkne
        have hn6 : wn.frozen? ⟨w.heap.size + 1, 4, none⟩ = false := (hn2.frozen_far ⟨w.heap.size + 1, 4, none⟩ (by simp; omega) hkne).trans (((World.grownBy_alloc wr _ none).frozen_far ⟨w.heap.size + 1, 4, none⟩ (by simp; omega) (by simp)).trans f4))
      all_goals (
        obtain ⟨e1, e2, e3, e4, e5⟩ := app_step (f := 4) (by omega) hgr HM.out hos hov (by decide) hn1 hn2
        clear hn1 hn2 hn3 hn4 hn5 hn6 m0 m1 m2 m3 m4 f0 f1 f2 f3 f4 hgr HM hos hov
        generalize (wn.setCell ⟨w.heap.size + 1, 4, none⟩ _) = wm at *
        have hws := e1.size
        have hbm : Below w.heap.size w wm := (two_below hb2).grown e1 (by omega) (fun k hk => by injection hk; omega)
        have c0 := (hbm.cell (p := ⟨b, off + x * 5, none⟩) hbb).trans z0
        have c1 := (hbm.cell (p := ⟨b, off + x * 5 + 1, none⟩) hbb).trans z1
        have c2 := (hbm.cell (p := ⟨b, off + x * 5 + 2, none⟩) hbb).trans z2
        have c3 := (hbm.cell (p := ⟨b, off + x * 5 + 3, none⟩) hbb).trans z3
        have c4 := (hbm.cell (p := ⟨b, off + x * 5 + 4, none⟩) hbb).trans z4
        change wm.heap[w.heap.size + 1]? = some (.cells #[.int .i64 5, .int .i64 0, .string ByteArray.empty, vI, .slice (some ⟨g1, 0, none⟩) (j + 1) cap1] 31 (0, 0)) at e2
        obtain ⟨m0, m1, m2, m3, m4, f0, f1, f2, f3, f4⟩ := lit5 e2
        have hms2 : wm.heap.size > w.heap.size + 1 := by omega
        have e4' := e4
        unfold OV at e4'
        go_wp2_with fail
        go_region_law (
          refine step_append_lies _ rfl (.tmp 33) (.tmp 38) 28 rfl w1.heap.size 31 i2 (.agg #[.int .i64 0, .int .i64 0, .string ByteArray.empty, .slice none 0 0, .slice none 0 0]) 5 80 Tryz.underlying28 hi2 hz0'' hz1'' hz2'' rfl (by decide) vI j cI ?_ ?_ ⟨wm.heap.size, 0, none⟩ 1 1 [.int .i64 kk, .int .i64 ii, .string ss, .slice a7 n7 c7, .slice b7 m7 u7] ?_ rfl ?_ ?_ (by decide) ?_ ?_ ?_ (wm.heap.size + 1) ?_ ?_
          · simp [Act.eval]
          · exact (World.ownsRow.drew e4').alloc _
          · simp [Act.eval]
          · refine World.news_of_block (cs := #[.int .i64 kk, .int .i64 ii, .string ss, .slice a7 n7 c7, .slice b7 m7 u7]) (t := 31) (fr := (0, 0)) ?_
            exact (Array.getElem?_push_size ..)
          · intro u hu
            simp only [List.mem_cons, List.not_mem_nil, or_false] at hu
            rcases hu with rfl | rfl | rfl | rfl | rfl <;> rfl
          · unfold maxLen; omega
          · omega
          · simp; omega
          · simp
          intro g2 cap2 wn hn1 hn2 hn3 hn4
          have hn5 : wn.cell? ⟨w.heap.size + 1, 3, none⟩ = some vI := hn2.cell ((World.grownBy_alloc _ _ none).cell (w := wm.drew) m3 (by simp)) hine
          have hn6 : wn.frozen? ⟨w.heap.size + 1, 3, none⟩ = false := (hn2.frozen_far ⟨w.heap.size + 1, 3, none⟩ (by simp; omega) hine).trans (((World.grownBy_alloc wm _ none).frozen_far ⟨w.heap.size + 1, 3, none⟩ (by simp; omega) (by simp)).trans f3))
        all_goals (
          obtain ⟨q1, q2, q3, q4, q5⟩ := app_step (f := 3) (by omega) e1 e2 e4' e3 (by decide) hn1 hn2
          clear hn1 hn2 hn3 hn4 hn5 hn6 m0 m1 m2 m3 m4 f0 f1 f2 f3 f4 c0 c1 c2 c3 c4
          generalize (wn.setCell ⟨w.heap.size + 1, 3, none⟩ _) = wf at *
          go_wp2_with fail
          have q6 : OV wf w1.heap.size (.slice (some ⟨g2, 0, none⟩) (j + 1) cap2) _ (j + 1) := q3
          refine ⟨⟨j + 1, _, _, _, by go_num, by omega, Lib.hid q2, q1, os_snoc (by rw [HPL.out]; omega) HX.out q4, q6, Lib.hid (elem_snoc (f := fun q => its.getD (p.getD q 0) default) e4.1 HE.out (by rw [HX.out]; exact hv))⟩, by simp [intOf]; omega⟩))
    · obtain rfl : j = n := by omega
      have hbw : Below w.heap.size w wr := (two_below hb2).grown hgr (by omega) (fun k hk => by injection hk; omega)
      rw [List.take_of_length_le (by rw [HPL.out]; omega)] at hos
      have hlp := HPL.out
      obtain ⟨A8, n8, c8, rfl, hks⟩ := hos.form (by simp; omega) (fun q hq => by
        simp only [List.length_map] at hq
        have e : (p.map (keyOf ks)).getD q ByteArray.empty = ks.getD (p.getD q 0) ByteArray.empty := by simp [List.getD, hq, keyOf]
        rw [e]; exact HK.out.size _ (HPR.out q (by omega)))
      obtain rfl : n8 = j := by rw [← hks.len]; simp; omega
      obtain ⟨A9, c9, rfl, his⟩ := ov_form (lo := 0) (hi := wr.heap.size) (l := p.map fun q => its.getD q default) hov hn hmost' (by simp; omega) (Nat.zero_le _) rfl (fun q hq => by
        have e : (p.map fun q => its.getD q default).getD q default = its.getD (p.getD q 0) default := by simp [List.getD, hlp, hq]
        rw [e]; exact ((HE.out q hq).kept (Kept.of_below hbw hhi')).weak (Nat.zero_le _) (by omega))
      have hks' : KS wr 0 wr.heap.size A8 n8 c8 (p.map (keyOf ks)) := hks.weak (Nat.zero_le _) (Nat.le_refl _)
      have hvb : VB wr 0 wr.heap.size (d + 1) (.agg #[.int .i64 5, .int .i64 0, .string ByteArray.empty, .slice A9 n8 c9, .slice A8 n8 c8]) (.mk 5 0 ByteArray.empty (p.map fun q => its.getD q default) (p.map (keyOf ks))) :=
        ⟨_, _, _, _, _, _, rfl, by simp [V.k], by simp [V.k], by simp [V.n], by simp [V.n], by simp [V.s], his, hks'⟩
      obtain ⟨m0, m1, m2, m3, m4, f0, f1, f2, f3, f4⟩ := lit5 HM.out
      have HKS := Lib.hid hks'; have HVB := Lib.hid hvb
      go_wp2_with fail
      have h1r : wr.heap[w.heap.size]? = some (.cells #[.int .i64 0, .int .i64 0, .string ByteArray.empty, .slice none 0 0, .slice none 0 0] 31 (0, 0)) := (hgr.block w.heap.size (by omega) (by simp)).trans H1.out
      refine (ascending_any hks' (Nat.le_refl _)).mono ?_
      rintro e w2 ⟨rfl, hb3⟩
      have hz3 := hb3.size
      have hbw2 := below_step hbw hb3
      clear m0 m1 m2 m3 m4 f0 f1 f2 f3 f4 hks his hks' hvb hos hov
      cases hr : M.rise (p.map (keyOf ks)) with
      | false =>
        have HR := Lib.hid hr
        clear hr
        go_wp2_with fail
        refine (null_any _).mono ?_
        rintro e w3 ⟨rfl, hb4⟩
        have h1s : w3.heap[w.heap.size]? = some (.cells #[.int .i64 0, .int .i64 0, .string ByteArray.empty, .slice none 0 0, .slice none 0 0] 31 (0, 0)) := ((hb4.block _ (by omega)).trans (hb3.block _ (by omega))).trans h1r
        obtain ⟨m0, m1, m2, m3, m4, f0, f1, f2, f3, f4⟩ := lit5 h1s
        have H4 := Lib.hid h1s
        clear h1s h1r
        have hbw3 := below_step hbw2 hb4
        go_wp2_with fail
        have hfin := lit_stored H4.out (.int .i64 0) (.int .i64 0) (.string ByteArray.empty) (.slice none 0 0) (.slice none 0 0)
        refine bodyPost_ret (v := .tuple #[.agg #[.int .i64 0, .int .i64 0, .string ByteArray.empty, .slice none 0 0, .slice none 0 0], .int .i64 9]) (results_cell_slot Tryz.results18 _ _ (w.heap.size) 31 _ (0, 0) _ rfl hfin (by kernel_rfl) rfl) rfl ?_
        exact ⟨p, by rw [HL.out]; exact HP.out, fun i j h1 h2 => HPS.out i j h1 (by rw [← HL.out]; exact h2), fun _ => rfl, (fun h => by rw [HR.out] at h; cases h), (fun h => by rw [HR.out] at h; cases h), stored_below hbw3 (Nat.le_refl _) _ _ _ _ _⟩
      | true =>
        have HR := Lib.hid hr
        clear hr
        have hms2 : w2.heap[w.heap.size + 1]? = _ := (hb3.block _ (by omega)).trans HM.out
        have h1s : w2.heap[w.heap.size]? = some (.cells #[.int .i64 0, .int .i64 0, .string ByteArray.empty, .slice none 0 0, .slice none 0 0] 31 (0, 0)) := (hb3.block _ (by omega)).trans h1r
        obtain ⟨m0, m1, m2, m3, m4, f0, f1, f2, f3, f4⟩ := lit5 hms2
        have H4 := Lib.hid h1s
        clear h1s h1r hms2
        go_wp2_with fail
        refine (copyWithin_any (HVB.out.later hb3 (Nat.le_refl _)) hz3).mono ?_
        rintro e w3 ⟨hy, hno, hb4⟩
        have h1t : w3.heap[w.heap.size]? = _ := (hb4.block _ (by omega)).trans H4.out
        have hbw3 := below_step hbw2 hb4
        clear m0 m1 m2 m3 m4 f0 f1 f2 f3 f4
        obtain ⟨m0, m1, m2, m3, m4, f0, f1, f2, f3, f4⟩ := lit5 h1t
        have H5 := Lib.hid h1t
        clear h1t
        cases hw : V.within (.mk 5 0 ByteArray.empty (p.map fun q => its.getD q default) (p.map (keyOf ks))) with
        | false =>
          obtain rfl := hno hw
          have HW := Lib.hid hw
          clear hy hno hw
          go_wp2_with fail
          have hfin := lit_stored H5.out (.int .i64 0) (.int .i64 0) (.string ByteArray.empty) (.slice none 0 0) (.slice none 0 0)
          refine bodyPost_ret (v := .tuple #[.agg #[.int .i64 0, .int .i64 0, .string ByteArray.empty, .slice none 0 0, .slice none 0 0], .int .i64 6]) (results_cell_slot Tryz.results18 _ _ (w.heap.size) 31 _ (0, 0) _ rfl hfin (by kernel_rfl) rfl) rfl ?_
          exact ⟨p, by rw [HL.out]; exact HP.out, fun i j h1 h2 => HPS.out i j h1 (by rw [← HL.out]; exact h2), (fun h => by rw [HR.out] at h; cases h), fun _ _ => rfl, (fun _ h => by rw [HW.out] at h; cases h), stored_below hbw3 (Nat.le_refl _) _ _ _ _ _⟩
        | true =>
          obtain ⟨v3, rfl, hv3⟩ := hy hw
          have HW := Lib.hid hw
          clear hy hno hw
          obtain ⟨A2, m2', c2, B2, p2, e2, rfl⟩ := hv3.agg
          have HV3 := Lib.hid hv3
          clear hv3
          go_wp2_with fail
          have hfin := lit_stored H5.out (.int .i64 5) (.int .i64 0) (.string ByteArray.empty) (.slice A2 m2' c2) (.slice B2 p2 e2)
          refine bodyPost_ret (v := .tuple #[.agg #[.int .i64 5, .int .i64 0, .string ByteArray.empty, .slice A2 m2' c2, .slice B2 p2 e2], .int .i64 0]) (results_cell_slot Tryz.results18 _ _ (w.heap.size) 31 _ (0, 0) _ rfl hfin (by kernel_rfl) rfl) rfl ?_
          refine ⟨p, by rw [HL.out]; exact HP.out, fun i j h1 h2 => HPS.out i j h1 (by rw [← HL.out]; exact h2), (fun h => by rw [HR.out] at h; cases h), (fun _ h => by rw [HW.out] at h; cases h), fun _ _ => ⟨_, rfl, ?_⟩, stored_below hbw3 (Nat.le_refl _) _ _ _ _ _⟩
          have hx := HV3.out.kept (show Kept w2.heap.size w3.heap.size w3 (stored w3 w.heap.size (.int .i64 5) (.int .i64 0) (.string ByteArray.empty) (.slice A2 m2' c2) (.slice B2 p2 e2)) from fun b x1 x2 => stored_other _ _ _ _ _ _ _ _ (by omega))
          exact hx.weak (by omega) (by show _ ≤ (stored _ _ _ _ _ _ _).heap.size; rw [stored_size]; omega)
end Go.Proofs.YtkodmhopollnpaaGreat
