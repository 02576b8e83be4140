/-
  Layer 2: the reference's With.
-/
import Derived.Test.YtcamhcgafmmkdaaVPush
import Derived.Test.YtcamhcgafmmkdaaVal9
import Derived.Test.YtcamhcgafmmkdaaVCodA
import Derived.Test.YtcamhcgafmmkdaaVal3
namespace Go.Proofs.Ytcamhcgafmmkdaa
set_option linter.unusedVariables false
open Go.RowKit
open M (V)

/-- A map with an element put. -/
def putV (t : V) (i nx : Nat) (key : ByteArray) (x : V) : V := .mk 5 0 ByteArray.empty (M.putAt t.its i nx x) (M.putAt t.ks i nx key)
/-- A new map whose items lie elsewhere. -/
def NewP (B lo1 hi1 d : Nat) (its : List V) (ks : List ByteArray) (w : World) (e : Ending) (w' : World) : Prop := ∃ A c A' c' m, e = .returned (.agg #[.int .i64 5, .int .i64 0, .string ByteArray.empty, .slice A m c, .slice A' m c']) ∧
  IS w' B w'.heap.size (VB w' lo1 hi1 d) A m c its ∧ KS w' B w'.heap.size A' m c' ks ∧ Below B w w'

theorem getD_putAt {ks : List ByteArray} {i nx : Nat} {key : ByteArray} {S : Nat} (h : ∀ q, q < ks.length → (ks.getD q ByteArray.empty).size ≤ S) (hk : key.size ≤ S) (q : Nat) : ((M.putAt ks i nx key).getD q ByteArray.empty).size ≤ S := by
  have hm : ∀ k ∈ M.putAt ks i nx key, k.size ≤ S := by
    intro k hk'
    unfold M.putAt at hk'
    have hg : ∀ k ∈ ks, k.size ≤ S := fun k hk => by
      obtain ⟨j, hj, rfl⟩ := List.getElem_of_mem hk
      have := h j hj
      simpa [List.getD, List.getElem?_eq_getElem hj] using this
    rw [List.mem_append, List.mem_cons] at hk'
    rcases hk' with h1 | rfl | h1
    · exact hg _ (List.mem_of_mem_take h1)
    · exact hk
    · exact hg _ (List.mem_of_mem_drop h1)
  rcases Nat.lt_or_ge q (M.putAt ks i nx key).length with h1 | h1
  · rw [show (M.putAt ks i nx key).getD q ByteArray.empty = (M.putAt ks i nx key)[q] by simp [List.getD, List.getElem?_eq_getElem h1]]
    exact hm _ (List.getElem_mem _)
  · rw [show (M.putAt ks i nx key).getD q ByteArray.empty = ByteArray.empty by simp [List.getD, List.getElem?_eq_none h1]]
    exact Nat.zero_le _
theorem put_size {ks : List ByteArray} {i nx : Nat} {key : ByteArray} {S : Nat} (h : ∀ q, q < ks.length → (ks.getD q ByteArray.empty).size ≤ S) (hk : key.size ≤ S) (q : Nat) : ((M.putAt ks i nx key).getD q ByteArray.empty).size ≤ S := getD_putAt h hk q

set_option maxRecDepth 100000 in
set_option maxHeartbeats 1000000 in
theorem with_done {w wr : World} {R base d m c7 c8 lo1 hi1 : Nat} {A7 A8 : Option Addr} {cI : List Value} {li : List V} {lk : List ByteArray}
    (hR : w.heap.size ≤ R) (hRb : R < base) (hbw : Below w.heap.size w wr) (hov : OV wr base (.slice A7 m c7) cI m) (hos : OS wr base (.slice A8 m c8) lk) (hm : m ≤ 1000000) (hli : li.length = m) (hlk : lk.length = m) (hhi1 : hi1 ≤ w.heap.size)
    (he : ∀ q, q < m → Elem w lo1 hi1 d cI.toArray q (li.getD q default)) (hsz : ∀ j, (lk.getD j ByteArray.empty).size ≤ 140737488351232) :
    NewP w.heap.size lo1 hi1 d li lk w (.returned (.agg #[.int .i64 5, .int .i64 0, .string ByteArray.empty, .slice A7 m c7, .slice A8 m c8])) (stored wr R (.int .i64 5) (.int .i64 0) (.string ByteArray.empty) (.slice A7 m c7) (.slice A8 m c8)) := by
  have hbs := stored_below hbw hR (.int .i64 5) (.int .i64 0) (.string ByteArray.empty) (.slice A7 m c7) (.slice A8 m c8)
  have hgS : wr.grownBy (stored wr R (.int .i64 5) (.int .i64 0) (.string ByteArray.empty) (.slice A7 m c7) (.slice A8 m c8)) (some R) := ⟨rfl, rfl, rfl, by rw [stored_size]; exact Nat.le_refl _, fun k _ hk => stored_other _ _ _ _ _ _ _ _ (fun e => hk (by rw [e]))⟩
  generalize (stored wr R (.int .i64 5) (.int .i64 0) (.string ByteArray.empty) (.slice A7 m c7) (.slice A8 m c8)) = ws at *
  have hz := hbs.size
  have hovS := World.ownsRow.kept hov hgS (.inr (fun e => by have := (World.ownsRow.lt hov _ e).1; omega))
  have hosS : OS ws base (.slice A8 m c8) lk := World.ownsRow.kept hos hgS (.inr (fun e => by have := (World.ownsRow.lt hos _ e).1; omega))
  obtain ⟨A', c', e1, his⟩ := ovf2 (lo1 := lo1) (hi1 := hi1) (d := d) hovS (by omega) hli (fun q hq => (he q hq).kept (Kept.of_below hbs hhi1))
  injection e1 with e1 _ e2
  subst e1; subst e2
  obtain ⟨A', n', c', e1, hks⟩ := hosS.form (by rw [hlk]; omega) (fun j _ => hsz j)
  injection e1 with e1 e3 e2
  subst e1; subst e2; subst e3
  exact ⟨_, _, _, _, _, rfl, his.weak (by omega) (Nat.le_refl _) (fun _ _ r => r), hks.weak (by omega) (Nat.le_refl _), hbs⟩

theorem heap_alloc_set (w : World) (p : Addr) (u : Value) (o : Obj) : ((w.setCell p u).alloc o).heap[w.heap.size]? = some o := by
  have := heap_alloc_new (w.setCell p u) o
  rwa [set_size] at this

set_option maxRecDepth 100000 in
set_option maxHeartbeats 8000000 in
theorem rWith_any {d : Nat} {x : Value} {t tx : V} {lo hi lo1 hi1 : Nat} {key : ByteArray} {i nx : Nat} {f : Bool} {w : World} {A B : Option Addr} {p c e : Nat} (hI : IS w lo hi (VB w lo1 hi1 d) A p c t.its) (hK : KS w lo hi B p e t.ks) (hhi : hi ≤ w.heap.size) (hx : VB w lo1 hi1 d x tx) (hhi1 : hi1 ≤ w.heap.size)
    (hr : M.Rise t.ks) (hp : M.Place t.ks key i f) (hnx : f = true ∧ nx = i + 1 ∨ f = false ∧ nx = i) (hn : t.its.length ≤ 400000) (hkey : key.size ≤ 140737488351232) :
    Calls Try.prog 30 #[.agg #[.int .i64 t.k, .int .i64 t.n, .string t.s, .slice A p c, .slice B p e], .string key, x] w (NewP w.heap.size lo1 hi1 d (M.putAt t.its i nx tx) (M.putAt t.ks i nx key) w) := by
  obtain ⟨Ax, mx, cx, Bx, px, ex, rfl⟩ := hx.agg
  have HX := Lib.hid hx
  have HI := Lib.hid hI; have HK := Lib.hid hK
  have HL := Lib.hid hI.len; have HL2 := Lib.hid hK.len
  have hcap := hI.cap
  have hmost := hI.most
  have hcap2 := hK.cap
  have hmost2 := hK.most
  have hn' : p ≤ 400000 := by rw [← HL.out]; exact hn
  have hip : i ≤ p := by rw [← HL2.out]; exact hp.le
  have hinx : i ≤ nx ∧ nx ≤ i + 1 := by omega
  have HR := Lib.hid hr; have HP := Lib.hid hp; have HNX := Lib.hid hnx
  have HX0 := Lib.hid hx
  clear hI hK hx hr hp hn hnx
  have hb4 := four_below (.cells #[.int .i64 t.k, .int .i64 t.n, .string t.s, .slice A p c, .slice B p e] 25) (.cells #[.int .i64 tx.k, .int .i64 tx.n, .string tx.s, .slice Ax mx cx, .slice Bx px ex] 25) (.cells #[.int .i64 0, .int .i64 0, .string ⟨#[]⟩, .slice none 0 0, .slice none 0 0] 25) (.cells #[.int .i64 5, .int .i64 0, .string ⟨#[]⟩, .slice none 0 0, .slice none 0 0] 25) w
  obtain ⟨q0, q1, q2, q3⟩ := four_heap (Below.refl (w.heap.size + 4) ((((w.alloc (.cells #[.int .i64 t.k, .int .i64 t.n, .string t.s, .slice A p c, .slice B p e] 25)).alloc (.cells #[.int .i64 tx.k, .int .i64 tx.n, .string tx.s, .slice Ax mx cx, .slice Bx px ex] 25)).alloc (.cells #[.int .i64 0, .int .i64 0, .string ⟨#[]⟩, .slice none 0 0, .slice none 0 0] 25)).alloc (.cells #[.int .i64 5, .int .i64 0, .string ⟨#[]⟩, .slice none 0 0, .slice none 0 0] 25))) (Nat.le_refl _)
  have hz4 : w.heap.size + 4 ≤ ((((w.alloc (.cells #[.int .i64 t.k, .int .i64 t.n, .string t.s, .slice A p c, .slice B p e] 25)).alloc (.cells #[.int .i64 tx.k, .int .i64 tx.n, .string tx.s, .slice Ax mx cx, .slice Bx px ex] 25)).alloc (.cells #[.int .i64 0, .int .i64 0, .string ⟨#[]⟩, .slice none 0 0, .slice none 0 0] 25)).alloc (.cells #[.int .i64 5, .int .i64 0, .string ⟨#[]⟩, .slice none 0 0, .slice none 0 0] 25)).heap.size := by simp
  have Q0 := Lib.hid q0; have Q1 := Lib.hid q1; have Q2 := Lib.hid q2; have Q3 := Lib.hid q3
  clear q0 q1 q2 q3
  go_enter Try.func30, Try.ntmps30
  go_wp2_with fail
  generalize ((((w.alloc (.cells #[.int .i64 t.k, .int .i64 t.n, .string t.s, .slice A p c, .slice B p e] 25)).alloc (.cells #[.int .i64 tx.k, .int .i64 tx.n, .string tx.s, .slice Ax mx cx, .slice Bx px ex] 25)).alloc (.cells #[.int .i64 0, .int .i64 0, .string ⟨#[]⟩, .slice none 0 0, .slice none 0 0] 25)).alloc (.cells #[.int .i64 5, .int .i64 0, .string ⟨#[]⟩, .slice none 0 0, .slice none 0 0] 25)) = w4 at *
  go_loopw [8, 9] (fun x y wr => ∃ (j : Nat) (dn : Bool) (vI vK : Value) (cI : List Value) (lk : List ByteArray) (li : List V) (m : Nat), x = .bool dn ∧ y = .int .i64 j ∧ j ≤ p ∧ m ≤ 2 * j ∧ Hid (dn = decide (i < j)) ∧ Hid (lk = M.wpre t.ks i nx key j) ∧ Hid (li = M.wpre t.its i nx tx j) ∧ Hid (lk.length = m) ∧ Hid (li.length = m) ∧
      Hid (wr.heap[w.heap.size + 1 + 1 + 1]? = some (.cells #[.int .i64 5, .int .i64 0, .string ByteArray.empty, vI, vK] 25 (0, 0))) ∧ w4.grownBy wr (some (w.heap.size + 1 + 1 + 1)) ∧
      wr.ownsRow w4.heap.size 9 1 vK m (lk.map Value.string) ∧ wr.ownsRow w4.heap.size 25 5 vI m cI ∧ Hid (∀ q, q < m → Elem w lo1 hi1 d cI.toArray q (li.getD q default))) (fun _ y _ => p - (intOf y).toNat)
  case atStart => exact ⟨0, false, _, _, [], [], [], 0, rfl, rfl, by omega, by omega, Lib.hid (by simp), Lib.hid (by rw [M.wpre_zero]), Lib.hid (by rw [M.wpre_zero]), Lib.hid rfl, Lib.hid rfl, Q3, World.grownBy.refl _ _, World.ownsRow_nil _ _ _ _, World.ownsRow_nil _ _ _ _, Lib.hid (fun q h => absurd h (by omega))⟩
  case round =>
    obtain ⟨j, dn, vI, vK, cI, lk, li, m, rfl, rfl, hj, hmj, HD, HLK, HLI, HNK, HNI, HM, hgr, hos, hov, HE⟩ := hrel
    have hws := hgr.size
    have hbw : Below w.heap.size w wr := hb4.grown hgr (by omega) (fun k hk => by injection hk; omega)
    have R0 := Lib.hid ((hgr.block w.heap.size (by omega) (by simp; omega)).trans Q0.out)
    have R1 := Lib.hid ((hgr.block (w.heap.size + 1) (by omega) (by simp)).trans Q1.out)
    obtain ⟨b0, b1, b2, b3, b4, -⟩ := lit5 R0.out
    have hkne : some (w.heap.size + 1 + 1 + 1) ≠ vK.ownBlock := fun e => by have := hos.lt _ e.symm; omega
    have hine : some (w.heap.size + 1 + 1 + 1) ≠ vI.ownBlock := fun e => by have := hov.lt _ e.symm; omega
    by_cases hlt : j < p
    · obtain ⟨b9, off9, rfl, c9⟩ := HK.out.item hbw hhi hlt
      obtain ⟨b, off, kk, ii, ss, x', y', rfl, hbb, z0, z1, z2, z3, z4, hv⟩ := HI.out.item2 hlt
      have hbb : b < w.heap.size := by omega
      have hbb9 : b9 < w.heap.size := by
        obtain ⟨b', off', e, q1, q2, _⟩ := HK.out.at_ (by omega)
        injection e with e; injection e with e; omega
      obtain ⟨a7, n7, c7, b7, m7, u7, rfl, rfl⟩ := hv.cells
      generalize hkj : t.ks.getD j ByteArray.empty = kj at *
      generalize htj : t.its.getD j default = tj at *
      have c90 : Hid (w.cell? ⟨b9, off9 + j, none⟩ = some (.string kj)) := Lib.hid ((hbw.cell (p := ⟨b9, off9 + j, none⟩) hbb9).symm.trans c9)
      have HKJ := Lib.hid hkj; have HTJ := Lib.hid htj
      have HV := Lib.hid hv
      clear hkj htj hv
      obtain ⟨m0, m1, m2, m3, m4, f0, f1, f2, f3, f4⟩ := lit5 HM.out
      have hms : wr.heap.size > w.heap.size + 1 + 1 + 1 := by omega
      rcases Nat.lt_trichotomy j i with hc | hc | hc
      · have hl1 : Go.Op.bytesLess kj.toList key.toList = true := by rw [← HKJ.out]; exact (HP.out.low hc).1
        have hne : (kj.toList == key.toList) = false := by
          rw [beq_eq_false_iff_ne]; intro e; exact (HP.out.low hc).2 (by rw [HKJ.out]; exact M.toList_inj e)
        have hdn : dn = false := by rw [HD.out]; simp; omega
        subst hdn
        have h3 := M.less_flip hl1
        have h4 := M.bl_asymm hl1
        go_wp2_with fail
        go_region_law (
          refine step_push_key rfl (.tmp 49) (.tmp 55) rfl w4.heap.size (m) wr.heap.size vK (lk.map Value.string) kj _ _ ?_ ?_ ?_ (Array.getElem?_push_size ..) ?_ ?_ ?_
          · simp [Act.eval]
          · exact (World.ownsRow.drew hos).alloc _
          · simp [Act.eval]
          · omega
          · simp; omega
          intro g1 cap1 wn hn1 hn2 hn3 hn4
          obtain ⟨hn5, hn6⟩ := field_after (f := 4) HM.out rfl (grown_drew_alloc wr _) hn2 hkne)
        all_goals (
          obtain ⟨e1, e2, e3, e4, e5⟩ := push_step (f := 4) (by omega) hgr HM.out hos hov (by decide) (grown_drew_alloc wr _) hn1 hn2
          clear hn1 hn2 hn3 hn4 hn5 hn6 m0 m1 m2 m3 m4 f0 f1 f2 f3 f4 hgr HM hos hov b0 b1 b2 b3 b4 c9
          generalize (wn.setCell ⟨w.heap.size + 1 + 1 + 1, 4, none⟩ _) = wm at *
          have hws' := e1.size
          have hbm : Below w.heap.size w wm := hb4.grown e1 (by omega) (fun k hk => by injection hk; omega)
          have c0 := (hbm.cell (p := ⟨b, off + j * 5, none⟩) hbb).trans z0
          have c1 := (hbm.cell (p := ⟨b, off + j * 5 + 1, none⟩) hbb).trans z1
          have c2 := (hbm.cell (p := ⟨b, off + j * 5 + 2, none⟩) hbb).trans z2
          have c3 := (hbm.cell (p := ⟨b, off + j * 5 + 3, none⟩) hbb).trans z3
          have c4 := (hbm.cell (p := ⟨b, off + j * 5 + 4, none⟩) hbb).trans z4
          have R0 := Lib.hid ((e1.block w.heap.size (by omega) (by simp; omega)).trans Q0.out)
          obtain ⟨b0, b1, b2, b3, b4, -⟩ := lit5 R0.out
          change wm.heap[w.heap.size + 1 + 1 + 1]? = some (.cells #[.int .i64 5, .int .i64 0, .string ByteArray.empty, vI, .slice (some ⟨g1, 0, none⟩) (m + 1) cap1] 25 (0, 0)) at e2
          obtain ⟨m0, m1, m2, m3, m4, f0, f1, f2, f3, f4⟩ := lit5 e2
          have hms2 : wm.heap.size > w.heap.size + 1 + 1 + 1 := by omega
          go_wp2_with fail
          go_region_law (
            refine step_push_val rfl (.tmp 59) (.tmp 65) rfl w4.heap.size (m) wm.heap.size vI cI kk ii ss _ _ _ _ _ _ _ _ ?_ ?_ ?_ (Array.getElem?_push_size ..) ?_ ?_ ?_
            · simp [Act.eval]
            · exact (World.ownsRow.drew e4).alloc _
            · simp [Act.eval]
            · omega
            · simp; omega
            intro g2 cap2 wn hn1 hn2 hn3 hn4
            obtain ⟨hn5, hn6⟩ := field_after (f := 3) e2 rfl (grown_drew_alloc wm _) hn2 hine)
          all_goals (
            obtain ⟨q1, q2, q3, q4, q5⟩ := push_step (f := 3) (by omega) e1 e2 e4 e3 (by decide) (grown_drew_alloc wm _) hn1 hn2
            clear hn1 hn2 hn3 hn4 hn5 hn6 m0 m1 m2 m3 m4 f0 f1 f2 f3 f4 c0 c1 c2 c3 c4 b0 b1 b2 b3 b4
            generalize (wn.setCell ⟨w.heap.size + 1 + 1 + 1, 3, none⟩ _) = wf at *
            go_wp2_with fail
            have HE' := elem_push (by rw [HNI.out]; exact e4.1) (by rw [HNI.out]; exact HE.out) HV.out
            have hle1 : (li ++ [tj]).length = m + 1 := by simp [HNI.out]
            rw [hle1] at HE'
            have q6 := q4
            rw [show lk.map Value.string ++ [Value.string kj] = (lk ++ [kj]).map Value.string by simp] at q6
            exact ⟨⟨j + 1, _, _, _, _, _, _, m + 1, rfl, by go_num, by omega, by omega, Lib.hid (by simp; omega), Lib.hid (by rw [HLK.out, ← HKJ.out]; exact (M.wpre_low hc (by rw [HL2.out]; exact hlt)).symm), Lib.hid (by rw [HLI.out, ← HTJ.out]; exact (M.wpre_low hc (by rw [HL.out]; exact hlt)).symm), Lib.hid (by simp [HNK.out]), Lib.hid hle1, Lib.hid q2, q1, q6, q3, Lib.hid HE'⟩, by simp [intOf]; omega⟩))
      · have hl1 : Go.Op.bytesLess kj.toList key.toList = false := by rw [← HKJ.out]; exact HP.out.hi j (by omega) (by rw [HL2.out]; exact hlt)
        have hdn : dn = false := by rw [HD.out]; simp; omega
        subst hdn
        have h3 := M.less_flip_no hl1
        obtain ⟨g0, g1, g2, g3, g4, -⟩ := lit5 R1.out
        have hji1 : j ≤ i := by omega
        have hji2 : i ≤ j := by omega
        have HC := Lib.hid hc
        clear hc
        go_wp2_with (at_builtin; refine wpList_push_key rfl _ _ rfl w4.heap.size m wr.heap.size vK (lk.map Value.string) key _ _ rfl (World.ownsRow.alloc hos _) rfl (heap_alloc_new _ _) ?h1 ?h2 ?_)
        case h1 => omega
        case h2 => simp; omega
        intro gk capk wn hn1 hn2 hn3 hn4
        obtain ⟨fk1, fk2⟩ := field_after (f := 4) HM.out rfl (grown_alloc wr _) hn2 hkne
        obtain ⟨fi1, fi2⟩ := field_after (f := 3) HM.out rfl (grown_alloc wr _) hn2 hkne
        obtain ⟨e1, e2, e3, e4, e5⟩ := push_step (f := 4) (u := .slice (some ⟨gk, 0, none⟩) (m + 1) capk) (by omega) hgr HM.out hos hov (by decide) (grown_alloc wr _) hn1 hn2
        have hxb : wn.heap[w.heap.size + 1]? = some (.cells #[.int .i64 tx.k, .int .i64 tx.n, .string tx.s, .slice Ax mx cx, .slice Bx px ex] 25 (0, 0)) := by
          rw [hn2.block _ (by simp; omega) (fun e => by have := (hos.lt _ e.symm).1; omega), (grown_alloc wr _).block _ (by omega) (by simp)]; exact R1.out
        have hsn := hn2.size
        simp only [World.size_alloc] at hsn
        clear g0 g1 g2 g3 g4 m0 m1 m2 m3 m4 f0 f1 f2 f3 f4 hn1 hn2 hn3 hn4 b0 b1 b2 b3 b4 c9
        obtain ⟨g0, g1, g2, g3, g4, -⟩ := lit5 hxb
        have E1 := Lib.hid e1; have E2 := Lib.hid e2; have E3 := Lib.hid e3
        have hine1 : some (w.heap.size + 1 + 1 + 1) ≠ vI.ownBlock := hine
        clear hxb e1 e2 e3
        go_wp2_with (at_builtin; refine wpList_push_val rfl _ _ rfl w4.heap.size m _ vI cI tx.k tx.n tx.s _ _ _ _ _ _ _ _ rfl (World.ownsRow.alloc e4 _) rfl (heap_alloc_set _ _ _ _) ?h3 ?h4 ?_)
        case h3 => omega
        case h4 => simp; omega
        intro gi capi wo ho1 ho2 ho3 ho4
        obtain ⟨fj1, fj2⟩ := field_after (f := 3) E2.out rfl (grown_alloc _ _) ho2 hine
        obtain ⟨q1, q2, q3, q4, q5⟩ := push_step (f := 3) (u := .slice (some ⟨gi, 0, none⟩) (m + 1) capi) (by omega) E1.out E2.out e4 E3.out (by decide) (grown_alloc _ _) ho1 ho2
        clear ho1 ho2 ho3 ho4 E1 E2 E3 e4 fi1 fi2 fk1 fk2 g0 g1 g2 g3 g4
        generalize hm2 : m + 1 = m2 at *
        have hm2' : m2 ≤ 2 * j + 1 := by omega
        have HM2' := Lib.hid hm2
        clear hm2
        have HNI2 : Hid ((li ++ [tx]).length = m2) := Lib.hid (by simp [HNI.out, ← HM2'.out])
        have HNK2 : Hid ((lk ++ [key]).length = m2) := Lib.hid (by simp [HNK.out, ← HM2'.out])
        have hgo : ∀ k, k ≠ w.heap.size + 1 + 1 + 1 → k < w4.heap.size → wo.heap[k]? = w4.heap[k]? := fun k hk1 hk2 => by
          rw [← heap_setCell_other wo ⟨w.heap.size + 1 + 1 + 1, 3, none⟩ k (.slice (some ⟨gi, 0, none⟩) m2 capi) hk1]
          exact q1.block k hk2 (fun e => hk1 (by injection e))
        have r0 := (hgo w.heap.size (by omega) (by omega)).trans Q0.out
        have r9 : wo.cell? ⟨b9, off9 + j, none⟩ = some (.string kj) := by
          rw [← c90.out]
          exact World.cell?_of_block ((hgo b9 (by omega) (by omega)).trans (hb4.block b9 hbb9))
        obtain ⟨b0, b1, b2, b3, b4, -⟩ := lit5 r0
        have HE2 := elem_push (by rw [HNI.out]; exact hov.1) (by rw [HNI.out]; exact HE.out) HX0.out
        rw [HNI2.out] at HE2
        have hos2 := q4
        rw [show lk.map Value.string ++ [Value.string key] = (lk ++ [key]).map Value.string by simp] at hos2
        have hgo' := Lib.hid hgo
        have HGR := Lib.hid q1; have HM2 := Lib.hid q2; have HE2' := Lib.hid HE2
        have hov2 := q3
        have hws2 := q5
        clear hgo q1 q2 q3 q4 q5 HE2 r0
        cases hf : f with
        | true =>
          have HNX2 : Hid (nx = j + 1) := Lib.hid (by rcases HNX.out with ⟨_, h⟩ | ⟨h, _⟩; omega; rw [hf] at h; cases h)
          have hjq : kj = key := by
            have h5 := (HP.out.at_.1 hf).2
            rw [← HC.out, HKJ.out] at h5; exact h5
          have hne : (kj.toList == key.toList) = true := by rw [hjq]; simp
          have HF := Lib.hid hf; have HJQ := Lib.hid hjq
          clear hf hjq
          go_wp2_with fail
          exact ⟨⟨j + 1, _, _, _, _, lk ++ [key], li ++ [tx], m2, rfl, by go_num, by omega, by omega, Lib.hid (by have := HC.out; simp; omega), Lib.hid (by rw [HLK.out, HNX2.out, ← HC.out]; exact (M.wpre_found (by rw [HL2.out]; omega)).symm), Lib.hid (by rw [HLI.out, HNX2.out, ← HC.out]; exact (M.wpre_found (by rw [HL.out]; omega)).symm), HNK2, HNI2, HM2, HGR.out, hos2, hov2, HE2'⟩, by simp [intOf]; omega⟩
        | false =>
          have HNX2 : Hid (nx = i) := Lib.hid (by rcases HNX.out with ⟨h, _⟩ | ⟨_, h⟩; rw [hf] at h; cases h; exact h)
          have hne : (kj.toList == key.toList) = false := by
            rw [beq_eq_false_iff_ne]; intro e
            have h5 : kj = key := M.toList_inj e
            have h6 := HP.out.at_.2 ⟨by rw [HL2.out]; omega, by rw [← HC.out, HKJ.out]; exact h5⟩
            rw [hf] at h6; cases h6
          have HF := Lib.hid hf
          clear hf
          go_wp2_with fail
          have hkne2 : some (w.heap.size + 1 + 1 + 1) ≠ (Value.slice (some ⟨gk, 0, none⟩) m2 capk).ownBlock := fun e => by have := World.ownsRow.lt hos2 _ e.symm; omega
          have hine2 : some (w.heap.size + 1 + 1 + 1) ≠ (Value.slice (some ⟨gi, 0, none⟩) m2 capi).ownBlock := fun e => by have := World.ownsRow.lt hov2 _ e.symm; omega
          clear b0 b1 b2 b3 b4 r9 fj1 fj2 hgo'
          generalize (wo.setCell ⟨w.heap.size + 1 + 1 + 1, 3, none⟩ _) = wb at *
          generalize (Value.slice (some ⟨gk, 0, none⟩) m2 capk) = vK2 at *
          generalize (Value.slice (some ⟨gi, 0, none⟩) m2 capi) = vI2 at *
          have hgr2 := HGR.out
          have hwb := hgr2.size
          have hbwb : Below w.heap.size w wb := hb4.grown hgr2 (by omega) (fun k hk => by injection hk; omega)
          have c9 := (hbwb.cell (p := ⟨b9, off9 + j, none⟩) hbb9).trans c90.out
          have R0' := (hgr2.block w.heap.size (by omega) (by simp; omega)).trans Q0.out
          obtain ⟨b0, b1, b2, b3, b4, -⟩ := lit5 R0'
          have HM2x : Hid (wb.heap[w.heap.size + 1 + 1 + 1]? = some (.cells #[.int .i64 5, .int .i64 0, .string ByteArray.empty, vI2, vK2] 25 (0, 0))) := HM2
          obtain ⟨m0, m1, m2', m3, m4, f0, f1, f2, f3, f4⟩ := lit5 HM2x.out
          have hmsb : wb.heap.size > w.heap.size + 1 + 1 + 1 := by omega
          go_region_law (
            refine step_push_key rfl (.tmp 49) (.tmp 55) rfl w4.heap.size (m2) wb.heap.size vK2 ((lk ++ [key]).map Value.string) kj _ _ ?_ ?_ ?_ (Array.getElem?_push_size ..) ?_ ?_ ?_
            · simp [Act.eval]
            · exact (World.ownsRow.drew hos2).alloc _
            · simp [Act.eval]
            · omega
            · simp; omega
            intro g1 cap1 wn hn1 hn2 hn3 hn4
            obtain ⟨hn5, hn6⟩ := field_after (f := 4) HM2x.out rfl (grown_drew_alloc wb _) hn2 hkne2)
          all_goals (
            obtain ⟨e1, e2, e3, e4, e5⟩ := push_step (f := 4) (by omega) hgr2 HM2x.out hos2 hov2 (by decide) (grown_drew_alloc wb _) hn1 hn2
            clear hn1 hn2 hn3 hn4 hn5 hn6 m0 m1 m2' m3 m4 f0 f1 f2 f3 f4 hgr2 HM2 HM2x HGR hos2 hov2 R0' hbwb hwb b0 b1 b2 b3 b4 c9
            generalize (wn.setCell ⟨w.heap.size + 1 + 1 + 1, 4, none⟩ _) = wm at *
            have hws' := e1.size
            have hbm : Below w.heap.size w wm := hb4.grown e1 (by omega) (fun k hk => by injection hk; omega)
            have c0 := (hbm.cell (p := ⟨b, off + j * 5, none⟩) hbb).trans z0
            have c1 := (hbm.cell (p := ⟨b, off + j * 5 + 1, none⟩) hbb).trans z1
            have c2 := (hbm.cell (p := ⟨b, off + j * 5 + 2, none⟩) hbb).trans z2
            have c3 := (hbm.cell (p := ⟨b, off + j * 5 + 3, none⟩) hbb).trans z3
            have c4 := (hbm.cell (p := ⟨b, off + j * 5 + 4, none⟩) hbb).trans z4
            have R0 := Lib.hid ((e1.block w.heap.size (by omega) (by simp; omega)).trans Q0.out)
            obtain ⟨b0, b1, b2, b3, b4, -⟩ := lit5 R0.out
            change wm.heap[w.heap.size + 1 + 1 + 1]? = some (.cells #[.int .i64 5, .int .i64 0, .string ByteArray.empty, vI2, .slice (some ⟨g1, 0, none⟩) (m2 + 1) cap1] 25 (0, 0)) at e2
            obtain ⟨m0, m1, m2', m3, m4, f0, f1, f2, f3, f4⟩ := lit5 e2
            have hms2 : wm.heap.size > w.heap.size + 1 + 1 + 1 := by omega
            go_wp2_with fail
            go_region_law (
              refine step_push_val rfl (.tmp 59) (.tmp 65) rfl w4.heap.size (m2) wm.heap.size vI2 (cI ++ [.int .i64 tx.k, .int .i64 tx.n, .string tx.s, .slice Ax mx cx, .slice Bx px ex]) kk ii ss _ _ _ _ _ _ _ _ ?_ ?_ ?_ (Array.getElem?_push_size ..) ?_ ?_ ?_
              · simp [Act.eval]
              · exact (World.ownsRow.drew e4).alloc _
              · simp [Act.eval]
              · omega
              · simp; omega
              intro g2 cap2 wn hn1 hn2 hn3 hn4
              obtain ⟨hn5, hn6⟩ := field_after (f := 3) e2 rfl (grown_drew_alloc wm _) hn2 hine2)
            all_goals (
              obtain ⟨q1, q2, q3, q4, q5⟩ := push_step (f := 3) (by omega) e1 e2 e4 e3 (by decide) (grown_drew_alloc wm _) hn1 hn2
              clear hn1 hn2 hn3 hn4 hn5 hn6 m0 m1 m2' m3 m4 f0 f1 f2 f3 f4 c0 c1 c2 c3 c4 b0 b1 b2 b3 b4
              generalize (wn.setCell ⟨w.heap.size + 1 + 1 + 1, 3, none⟩ _) = wf at *
              go_wp2_with fail
              have HE' := elem_push (by rw [HNI2.out]; exact e4.1) (by rw [HNI2.out]; exact HE2'.out) HV.out
              have hle1 : ((li ++ [tx]) ++ [tj]).length = m2 + 1 := by rw [List.length_append, HNI2.out]; rfl
              rw [hle1] at HE'
              have q6 := q4
              rw [show (lk ++ [key]).map Value.string ++ [Value.string kj] = ((lk ++ [key]) ++ [kj]).map Value.string by simp] at q6
              exact ⟨⟨j + 1, _, _, _, _, _, _, m2 + 1, rfl, by go_num, by omega, by omega, Lib.hid (by simp; omega), Lib.hid (by rw [HLK.out, HNX2.out, ← HKJ.out, HC.out]; exact (M.wpre_new (by rw [HL2.out]; omega)).symm), Lib.hid (by rw [HLI.out, HNX2.out, ← HTJ.out, HC.out]; exact (M.wpre_new (by rw [HL.out]; omega)).symm), Lib.hid (by rw [List.length_append, HNK2.out]; rfl), Lib.hid hle1, Lib.hid q2, q1, q6, q3, Lib.hid HE'⟩, by simp [intOf]; omega⟩))
      · have hne : (kj.toList == key.toList) = false := by
          rw [beq_eq_false_iff_ne]; intro e; exact HP.out.high HR.out hc (by rw [HL2.out]; exact hlt) (by rw [HKJ.out]; exact M.toList_inj e)
        have hdn : dn = true := by rw [HD.out]; simp; omega
        subst hdn
        go_wp2_with fail
        go_region_law (
          refine step_push_key rfl (.tmp 49) (.tmp 55) rfl w4.heap.size (m) wr.heap.size vK (lk.map Value.string) kj _ _ ?_ ?_ ?_ (Array.getElem?_push_size ..) ?_ ?_ ?_
          · simp [Act.eval]
          · exact (World.ownsRow.drew hos).alloc _
          · simp [Act.eval]
          · omega
          · simp; omega
          intro g1 cap1 wn hn1 hn2 hn3 hn4
          obtain ⟨hn5, hn6⟩ := field_after (f := 4) HM.out rfl (grown_drew_alloc wr _) hn2 hkne)
        all_goals (
          obtain ⟨e1, e2, e3, e4, e5⟩ := push_step (f := 4) (by omega) hgr HM.out hos hov (by decide) (grown_drew_alloc wr _) hn1 hn2
          clear hn1 hn2 hn3 hn4 hn5 hn6 m0 m1 m2 m3 m4 f0 f1 f2 f3 f4 hgr HM hos hov b0 b1 b2 b3 b4 c9
          generalize (wn.setCell ⟨w.heap.size + 1 + 1 + 1, 4, none⟩ _) = wm at *
          have hws' := e1.size
          have hbm : Below w.heap.size w wm := hb4.grown e1 (by omega) (fun k hk => by injection hk; omega)
          have c0 := (hbm.cell (p := ⟨b, off + j * 5, none⟩) hbb).trans z0
          have c1 := (hbm.cell (p := ⟨b, off + j * 5 + 1, none⟩) hbb).trans z1
          have c2 := (hbm.cell (p := ⟨b, off + j * 5 + 2, none⟩) hbb).trans z2
          have c3 := (hbm.cell (p := ⟨b, off + j * 5 + 3, none⟩) hbb).trans z3
          have c4 := (hbm.cell (p := ⟨b, off + j * 5 + 4, none⟩) hbb).trans z4
          have R0 := Lib.hid ((e1.block w.heap.size (by omega) (by simp; omega)).trans Q0.out)
          obtain ⟨b0, b1, b2, b3, b4, -⟩ := lit5 R0.out
          change wm.heap[w.heap.size + 1 + 1 + 1]? = some (.cells #[.int .i64 5, .int .i64 0, .string ByteArray.empty, vI, .slice (some ⟨g1, 0, none⟩) (m + 1) cap1] 25 (0, 0)) at e2
          obtain ⟨m0, m1, m2, m3, m4, f0, f1, f2, f3, f4⟩ := lit5 e2
          have hms2 : wm.heap.size > w.heap.size + 1 + 1 + 1 := by omega
          go_wp2_with fail
          go_region_law (
            refine step_push_val rfl (.tmp 59) (.tmp 65) rfl w4.heap.size (m) wm.heap.size vI cI kk ii ss _ _ _ _ _ _ _ _ ?_ ?_ ?_ (Array.getElem?_push_size ..) ?_ ?_ ?_
            · simp [Act.eval]
            · exact (World.ownsRow.drew e4).alloc _
            · simp [Act.eval]
            · omega
            · simp; omega
            intro g2 cap2 wn hn1 hn2 hn3 hn4
            obtain ⟨hn5, hn6⟩ := field_after (f := 3) e2 rfl (grown_drew_alloc wm _) hn2 hine)
          all_goals (
            obtain ⟨q1, q2, q3, q4, q5⟩ := push_step (f := 3) (by omega) e1 e2 e4 e3 (by decide) (grown_drew_alloc wm _) hn1 hn2
            clear hn1 hn2 hn3 hn4 hn5 hn6 m0 m1 m2 m3 m4 f0 f1 f2 f3 f4 c0 c1 c2 c3 c4 b0 b1 b2 b3 b4
            generalize (wn.setCell ⟨w.heap.size + 1 + 1 + 1, 3, none⟩ _) = wf at *
            go_wp2_with fail
            have HE' := elem_push (by rw [HNI.out]; exact e4.1) (by rw [HNI.out]; exact HE.out) HV.out
            have hle1 : (li ++ [tj]).length = m + 1 := by simp [HNI.out]
            rw [hle1] at HE'
            have q6 := q4
            rw [show lk.map Value.string ++ [Value.string kj] = (lk ++ [kj]).map Value.string by simp] at q6
            exact ⟨⟨j + 1, _, _, _, _, _, _, m + 1, rfl, by go_num, by omega, by omega, Lib.hid (by simp; omega), Lib.hid (by rw [HLK.out, ← HKJ.out]; exact (M.wpre_high hc (by omega) (by rw [HL2.out]; exact hlt)).symm), Lib.hid (by rw [HLI.out, ← HTJ.out]; exact (M.wpre_high hc (by omega) (by rw [HL.out]; exact hlt)).symm), Lib.hid (by simp [HNK.out]), Lib.hid hle1, Lib.hid q2, q1, q6, q3, Lib.hid HE'⟩, by simp [intOf]; omega⟩))
    · obtain rfl : j = p := by omega
      obtain ⟨m0, m1, m2, m3, m4, f0, f1, f2, f3, f4⟩ := lit5 HM.out
      have hms : wr.heap.size > w.heap.size + 1 + 1 + 1 := by omega
      have HP2 : Hid (wr.heap[w.heap.size + 1 + 1]? = some (.cells #[.int .i64 0, .int .i64 0, .string ByteArray.empty, .slice none 0 0, .slice none 0 0] 25 (0, 0))) := Lib.hid ((hgr.block (w.heap.size + 1 + 1) (by omega) (by simp)).trans Q2.out)
      have hsz : ∀ q, ((M.putAt t.ks i nx key).getD q ByteArray.empty).size ≤ 140737488351232 := fun q => put_size (fun q hq => HK.out.size q (by rw [← HL2.out]; exact hq)) hkey q
      have HSZ := Lib.hid hsz
      clear hsz
      by_cases hc : i < j
      · have hdn : dn = true := by rw [HD.out]; simp; omega
        subst hdn
        obtain ⟨p0, p1, p2, p3, p4, d0, d1, d2, d3, d4⟩ := lit5 HP2.out
        have HLK3 : Hid (lk = M.putAt t.ks i nx key) := Lib.hid (by rw [HLK.out, ← HL2.out]; exact (M.wpre_done (by rw [HL2.out]; exact hc)).symm)
        have HLI3 : Hid (li = M.putAt t.its i nx tx) := Lib.hid (by rw [HLI.out, ← HL.out]; exact (M.wpre_done (by rw [HL.out]; exact hc)).symm)
        have hosF : OS wr w4.heap.size vK lk := by unfold OS; rw [HNK.out]; exact hos
        obtain ⟨A8, n8, c8, rfl, hks⟩ := hosF.form (by rw [HNK.out]; omega) (fun q hq => by rw [HLK3.out]; exact HSZ.out q)
        obtain ⟨A7, c7, rfl, -⟩ := ovf2 hov (by omega) HNI.out (fun q hq => (HE.out q hq).kept (Kept.of_below hbw hhi1))
        obtain rfl : n8 = m := by rw [← hks.len, HNK.out]
        have hfinal := with_done (R := w.heap.size + 1 + 1) (by omega) (by omega) hbw hov hosF (by omega) HNI.out HNK.out hhi1 HE.out (fun q => by rw [HLK3.out]; exact HSZ.out q)
        rw [HLK3.out, HLI3.out] at hfinal
        have HFIN := Lib.hid hfinal
        clear hfinal hks hosF hos hov
        go_wp2_with fail
        have hfin := lit_stored HP2.out (.int .i64 5) (.int .i64 0) (.string ByteArray.empty) (.slice A7 n8 c7) (.slice A8 n8 c8)
        refine bodyPost_ret (v := .agg #[.int .i64 5, .int .i64 0, .string ByteArray.empty, .slice A7 n8 c7, .slice A8 n8 c8]) (results_cell_row Try.results30 _ _ (w.heap.size + 1 + 1) 25 _ (0, 0) _ rfl hfin Try.underlying25 rfl (by kernel_rfl)) rfl ?_
        exact HFIN.out
      · have hdn : dn = false := by rw [HD.out]; simp; omega
        subst hdn
        obtain ⟨g0, g1, g2, g3, g4, -⟩ := lit5 R1.out
        have hij : j ≤ i := by omega
        clear hc
        go_wp2_with (at_builtin; refine wpList_push_key rfl _ _ rfl w4.heap.size m wr.heap.size vK (lk.map Value.string) key _ _ rfl (World.ownsRow.alloc hos _) rfl (heap_alloc_new _ _) ?h7 ?h8 ?_)
        case h7 => omega
        case h8 => simp; omega
        intro gk capk wn hn1 hn2 hn3 hn4
        obtain ⟨fk1, fk2⟩ := field_after (f := 4) HM.out rfl (grown_alloc wr _) hn2 hkne
        obtain ⟨fi1, fi2⟩ := field_after (f := 3) HM.out rfl (grown_alloc wr _) hn2 hkne
        obtain ⟨e1, e2, e3, e4, e5⟩ := push_step (f := 4) (u := .slice (some ⟨gk, 0, none⟩) (m + 1) capk) (by omega) hgr HM.out hos hov (by decide) (grown_alloc wr _) hn1 hn2
        have hxb : wn.heap[w.heap.size + 1]? = some (.cells #[.int .i64 tx.k, .int .i64 tx.n, .string tx.s, .slice Ax mx cx, .slice Bx px ex] 25 (0, 0)) := by
          rw [hn2.block _ (by simp; omega) (fun e => by have := (hos.lt _ e.symm).1; omega), (grown_alloc wr _).block _ (by omega) (by simp)]; exact R1.out
        have hsn := hn2.size
        simp only [World.size_alloc] at hsn
        clear g0 g1 g2 g3 g4 m0 m1 m2 m3 m4 f0 f1 f2 f3 f4 hn1 hn2 hn3 hn4 b0 b1 b2 b3 b4
        obtain ⟨g0, g1, g2, g3, g4, -⟩ := lit5 hxb
        have E1 := Lib.hid e1; have E2 := Lib.hid e2; have E3 := Lib.hid e3
        clear hxb e1 e2 e3
        go_wp2_with (at_builtin; refine wpList_push_val rfl _ _ rfl w4.heap.size m _ vI cI tx.k tx.n tx.s _ _ _ _ _ _ _ _ rfl (World.ownsRow.alloc e4 _) rfl (heap_alloc_set _ _ _ _) ?h5 ?h6 ?_)
        case h5 => omega
        case h6 => simp; omega
        intro gi capi wo ho1 ho2 ho3 ho4
        obtain ⟨fj1, fj2⟩ := field_after (f := 3) E2.out rfl (grown_alloc _ _) ho2 hine
        have hmo : wo.heap[w.heap.size + 1 + 1 + 1]? = some (.cells #[.int .i64 5, .int .i64 0, .string ByteArray.empty, vI, .slice (some ⟨gk, 0, none⟩) (m + 1) capk] 25 (0, 0)) := by
          rw [ho2.block _ (by simp; omega) hine, (grown_alloc _ _).block _ (by simp; omega) (by simp)]; exact E2.out
        obtain ⟨q1, q2, q3, q4, q5⟩ := push_step (f := 3) (u := .slice (some ⟨gi, 0, none⟩) (m + 1) capi) (by omega) E1.out E2.out e4 E3.out (by decide) (grown_alloc _ _) ho1 ho2
        clear ho1 ho2 ho3 ho4 E1 E2 E3 e4 fi1 fi2 fk1 fk2 g0 g1 g2 g3 g4
        generalize hm2 : m + 1 = m2 at *
        have hm2' : m2 ≤ 2 * j + 1 := by omega
        have HM2' := Lib.hid hm2
        clear hm2
        have HNI2 : Hid ((li ++ [tx]).length = m2) := Lib.hid (by simp [HNI.out, ← HM2'.out])
        have HNK2 : Hid ((lk ++ [key]).length = m2) := Lib.hid (by simp [HNK.out, ← HM2'.out])
        have HE2 := elem_push (by rw [HNI.out]; exact hov.1) (by rw [HNI.out]; exact HE.out) HX0.out
        rw [HNI2.out] at HE2
        have hos2 : OS (wo.setCell ⟨w.heap.size + 1 + 1 + 1, 3, none⟩ (.slice (some ⟨gi, 0, none⟩) m2 capi)) w4.heap.size (.slice (some ⟨gk, 0, none⟩) m2 capk) (lk ++ [key]) := by
          unfold OS
          rw [HNK2.out]
          rw [show lk.map Value.string ++ [Value.string key] = (lk ++ [key]).map Value.string by simp] at q4
          exact q4
        have HLK3 : Hid (lk ++ [key] = M.putAt t.ks i nx key) := Lib.hid (by rw [HLK.out, ← HL2.out]; exact (M.wpre_end (by rw [HL2.out]; exact hij) hinx.1).symm)
        have HLI3 : Hid (li ++ [tx] = M.putAt t.its i nx tx) := Lib.hid (by rw [HLI.out, ← HL.out]; exact (M.wpre_end (by rw [HL.out]; exact hij) hinx.1).symm)
        have hbwo : Below w.heap.size w (wo.setCell ⟨w.heap.size + 1 + 1 + 1, 3, none⟩ (.slice (some ⟨gi, 0, none⟩) m2 capi)) := hb4.grown q1 (by omega) (fun k hk => by injection hk; omega)
        have hfinal := with_done (R := w.heap.size + 1 + 1) (by omega) (by omega) hbwo q3 hos2 (by omega) HNI2.out HNK2.out hhi1 HE2 (fun q => by rw [HLK3.out]; exact HSZ.out q)
        rw [HLK3.out, HLI3.out] at hfinal
        have HFIN := Lib.hid hfinal
        have HPS : Hid ((wo.setCell ⟨w.heap.size + 1 + 1 + 1, 3, none⟩ (.slice (some ⟨gi, 0, none⟩) m2 capi)).heap[w.heap.size + 1 + 1]? = some (.cells #[.int .i64 0, .int .i64 0, .string ByteArray.empty, .slice none 0 0, .slice none 0 0] 25 (0, 0))) := Lib.hid ((q1.block (w.heap.size + 1 + 1) (by omega) (by simp)).trans Q2.out)
        have hpo : wo.heap[w.heap.size + 1 + 1]? = some (.cells #[.int .i64 0, .int .i64 0, .string ByteArray.empty, .slice none 0 0, .slice none 0 0] 25 (0, 0)) := by
          rw [← heap_setCell_other wo ⟨w.heap.size + 1 + 1 + 1, 3, none⟩ (w.heap.size + 1 + 1) (.slice (some ⟨gi, 0, none⟩) m2 capi) (by simp)]; exact HPS.out
        obtain ⟨p0, p1, p2, p3, p4, d0, d1, d2, d3, d4⟩ := lit5 hpo
        obtain ⟨m0, m1, m2', m3, m4, f0, f1, f2, f3, f4⟩ := lit5 hmo
        clear hfinal hos2 q1 q2 q3 q4 q5 HE2 hpo hmo hbwo hos hov fj1 fj2
        go_wp2_with fail
        have hfin := lit_stored HPS.out (.int .i64 5) (.int .i64 0) (.string ByteArray.empty) (.slice (some ⟨gi, 0, none⟩) m2 capi) (.slice (some ⟨gk, 0, none⟩) m2 capk)
        refine bodyPost_ret (v := .agg #[.int .i64 5, .int .i64 0, .string ByteArray.empty, .slice (some ⟨gi, 0, none⟩) m2 capi, .slice (some ⟨gk, 0, none⟩) m2 capk]) (results_cell_row Try.results30 _ _ (w.heap.size + 1 + 1) 25 _ (0, 0) _ rfl hfin Try.underlying25 rfl (by kernel_rfl)) rfl ?_
        exact HFIN.out
end Go.Proofs.Ytcamhcgafmmkdaa
