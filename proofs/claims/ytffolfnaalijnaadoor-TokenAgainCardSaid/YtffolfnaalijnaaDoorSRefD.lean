/-
  Layer 7: the reference: one token.
-/
import Derived.Test.YtffolfnaalijnaaDoorSRefC
import Derived.Test.YtffolfnaalijnaaDoorSMatD
import Derived.Test.YtffolfnaalijnaaDoorSCodH
namespace Go.Proofs.YtffolfnaalijnaaDoor
set_option linter.unusedVariables false
open Go.RowKit

theorem results_tok3 {fn : Func} {p q r : Tmp} (h : fn.results = #[.cell p 30, .tmp q, .tmp r]) (tmps : Array Value) (w : World) (g1 : Nat) (cs : Array Value) (fr : Nat × Nat) (x y : Value)
    (hp : tmps.getD p undef = .pointer (some ⟨g1, 0, none⟩)) (hq : tmps.getD q undef = x) (hr : tmps.getD r undef = y)
    (hg : w.heap[g1]? = some (.cells cs 30 fr)) (hi : (Tryd.prog.info? 30).map (·.size) = some cs.size) :
    (results fn tmps).run Tryd.prog w = .ok (.tuple #[.agg cs, x, y]) w := by
  have hp' : tmps[p]?.getD undef = .pointer (some ⟨g1, 0, none⟩) := by simpa using hp
  have hq' : tmps[q]?.getD undef = x := by simpa using hq
  have hr' : tmps[r]?.getD undef = y := by simpa using hr
  have l1 := run_loadVar_row w g1 30 _ cs fr _ hg Tryd.underlying30 rfl hi
  simp [results, h, hp', hq', hr', asAddr, l1]

/-- What the reading of a token gives. -/
def OneEnds (r : Z.R) (e : Ending) : Prop := match r with
  | .ok k t v n => e = .returned (.tuple #[.agg #[.int .i64 k, .int .i64 0, .string (bS t), .int .i64 v], .int .i64 (n : Int), .int .i64 0])
  | .err er => e = .returned (.tuple #[.agg #[.int .i64 0, .int .i64 0, .string ⟨#[]⟩, .int .i64 0], .int .i64 0, .int .i64 er])
def signCells : Array Value := (Z.signL.map fun l => Value.string (bS l)).toArray
theorem sg_len : Z.signL.length = 22 := rfl
theorem sg_cell {w : World} {b j : Nat} (h : w.heap[b]? = some (.cells signCells 9 (0, 0))) (hj : j < 22) : w.cell? ⟨b, j, none⟩ = some (.string (bS (Z.signL.getD j []))) := by
  rw [cell_of_row w b j _ _ _ h]
  have hj' : j < Z.signL.length := by rw [sg_len]; exact hj
  simp [signCells, List.getD, hj']
theorem sg_size : ∀ j, j < 22 → (Z.signL.getD j []).length = 1 ∨ (Z.signL.getD j []).length = 2 := by decide
set_option maxRecDepth 100000 in
set_option maxHeartbeats 1000000 in
theorem signs_any (w : World) :
    Calls Tryd.prog 43 #[] w fun e w' => e = .returned (.slice (some ⟨w.heap.size, 0, none⟩) 22 22) ∧ w' = w.alloc (.cells signCells 9) := by
  go_enter Tryd.func43, Tryd.ntmps43
  go_wp2_with fail
  go_ret
  exact ⟨rfl, rfl⟩
theorem below_put4 {B : Nat} {a w : World} {g : Nat} (h : Below B a w) (hg : B ≤ g) (x y z v : Value) : Below B a (put4 w g x y z v) :=
  (((h.setCell (p := ⟨g, 0, none⟩) hg x).setCell (p := ⟨g, 1, none⟩) hg y).setCell (p := ⟨g, 2, none⟩) hg z).setCell (p := ⟨g, 3, none⟩) hg v
theorem litG_v : ∀ (f : Nat) (l acc : List UInt8) (n : Nat) (k : Int) (t : List UInt8) (v : Int) (m : Nat), Z.litG f l acc n = .ok k t v m → v = 0 := by
  intro f
  induction f with
  | zero => intro l acc n k t v m h; simp [Z.litG] at h
  | succ f ih =>
    intro l acc n k t v m h
    rw [Z.litG] at h
    split at h
    · split at h
      · cases h
      · simp only [Z.R.ok.injEq] at h; omega
    · split at h
      · cases h
      · exact ih _ _ _ _ _ _ _ h
theorem fits_short {x l : List UInt8} (h : l.length < x.length) : Z.fits x l = false := by
  unfold Z.fits
  rw [decide_eq_false_iff_not]
  intro e
  have := congrArg List.length e
  rw [List.length_take] at this
  omega
theorem fits_cut {s : ByteArray} {x : List UInt8} (n : Nat) (hn : n = x.length) : ((s.extract 0 n).toList == (bS x).toList) = Z.fits x s.data.toList := by
  subst hn
  have e : s.extract 0 x.length = bS (s.data.toList.take x.length) := by rw [cut_eq]; rfl
  have h : ∀ l : List UInt8, (bS l).toList = l := fun l => by rw [ByteArray.toList_eq]; rfl
  rw [e, h, h]
  unfold Z.fits
  by_cases hq : s.data.toList.take x.length = x
  · rw [hq]; simp
  · simp [hq]

set_option maxRecDepth 100000 in
set_option maxHeartbeats 8000000 in
theorem rone_any (s : ByteArray) (w : World) (h0 : 0 < s.size) (hs : s.size ≤ 100000) :
    Calls Tryd.prog 23 #[.string s] w fun e w' => OneEnds (Z.one s.data.toList) e ∧ Below w.heap.size w w' := by
  obtain ⟨R, hR⟩ : ∃ R, R = Z.one s.data.toList := ⟨_, rfl⟩
  rw [← hR]
  have hrow0 := al1_heap w (.cells #[.int .i64 0, .int .i64 0, .string ⟨#[]⟩, .int .i64 0] 30)
  have hb0 : Below w.heap.size w (w.alloc (.cells #[.int .i64 0, .int .i64 0, .string ⟨#[]⟩, .int .i64 0] 30)) := (Below.refl _ w).alloc (Nat.le_refl _) _
  have hz0 : (w.alloc (.cells #[.int .i64 0, .int .i64 0, .string ⟨#[]⟩, .int .i64 0] 30)).heap.size = w.heap.size + 1 := by simp
  have hcl : Z.clsL s.data.toList = Z.cls (s[0]'h0).toNat := by rw [← left_zero, left_cons h0]; rfl
  have hpk := peek_at h0
  rw [left_zero] at hpk
  have hc8 := (s[0]'h0).toNat_lt
  have hcons := left_cons h0
  rw [left_zero] at hcons
  obtain ⟨u, hu⟩ : ∃ u, u = s[0]'h0 := ⟨_, rfl⟩
  have hsu0 : ((s[0]'h0).toNat : Int) = (u.toNat : Int) := by rw [hu]
  rw [← hu] at hcl hpk hc8 hcons
  obtain ⟨ch, hch⟩ : ∃ ch, ch = u.toNat := ⟨_, rfl⟩
  have hsu : ((s[0]'h0).toNat : Int) = (ch : Int) := by rw [hsu0, hch]
  rw [← hch] at hcl hpk hc8
  have hch256 : ch < 256 := hc8
  have HCONS := Lib.hid hcons
  have HCH := Lib.hid hch
  clear hsu0 hu hch hc8 hcons
  have HROW0 := Lib.hid hrow0; have HB0 := Lib.hid hb0
  clear hrow0 hb0
  go_enter Tryd.func23, Tryd.ntmps23
  go_wp2_with fail
  generalize w.alloc (.cells #[.int .i64 0, .int .i64 0, .string ⟨#[]⟩, .int .i64 0] 30) = w1 at *
  cases hle : Z.letter ch with
  | true =>
    have HLE := Lib.hid hle
    have HR : Hid (R = Z.word s.data.toList) := Lib.hid (by rw [hR]; unfold Z.one; rw [if_pos (by rw [hcl]; exact Z.letter_cls.2 hle)])
    clear hR hcl hle
    refine (rletter_any ch w1).mono ?_
    rintro e w2 ⟨rfl, rfl⟩
    rw [HLE.out]
    go_wp2_with fail
    go_loop [6] (fun x => ∃ j : Nat, j ≤ s.size ∧ x = .int .i64 j ∧ Hid (Z.spanN Z.part s.data.toList = j + Z.spanN Z.part (left s j))) (fun x => s.size - (intOf x).toNat)
    case atStart => exact ⟨0, Nat.zero_le _, rfl, Lib.hid (by rw [left_zero]; omega)⟩
    case round =>
      obtain ⟨j, hj, rfl, HS⟩ := hrel
      by_cases hlt : j < s.size
      · have hc8 := (s[j]'hlt).toNat_lt
        have hstep := @span_step s Z.part j hlt
        have hstop := @span_stop s Z.part j hlt
        obtain ⟨c2, hc2⟩ : ∃ c2, c2 = (s[j]'hlt).toNat := ⟨_, rfl⟩
        have hsc : ((s[j]'hlt).toNat : Int) = (c2 : Int) := by rw [hc2]
        rw [← hc2] at hstep hstop
        have j0 : (0 : Int) ≤ (j : Int) := by omega
        have j1 : (j : Int) < (s.size : Int) := by omega
        have hji : decide ((j : Int) < (s.size : Int)) = true := by simp; omega
        cases hl2 : Z.letter c2 with
        | true =>
          have HL2 := Lib.hid hl2
          have HST := Lib.hid (hstep (by unfold Z.part; rw [hl2]; rfl))
          clear hl2 hstep hstop hc2 hc8
          go_wp2_with fail
          refine (rletter_any c2 _).mono ?_
          rintro e w2 ⟨rfl, rfl⟩
          rw [HL2.out]
          go_wp2_with fail
          go_round
          case rel => exact ⟨j + 1, hlt, by go_num, Lib.hid (by have := HS.out; rw [HST.out] at this; omega)⟩
          case measure => simp [intOf]; omega
        | false =>
          cases hd2 : Z.digit c2 with
          | true =>
            have HL2 := Lib.hid hl2; have HD2 := Lib.hid hd2
            have HST := Lib.hid (hstep (by unfold Z.part; rw [hl2, hd2]; rfl))
            clear hl2 hd2 hstep hstop hc2 hc8
            go_wp2_with fail
            refine (rletter_any c2 _).mono ?_
            rintro e w2 ⟨rfl, rfl⟩
            rw [HL2.out]
            go_wp2_with fail
            refine (rdigit_any c2 _).mono ?_
            rintro e w2 ⟨rfl, rfl⟩
            rw [HD2.out]
            go_wp2_with fail
            go_round
            case rel => exact ⟨j + 1, hlt, by go_num, Lib.hid (by have := HS.out; rw [HST.out] at this; omega)⟩
            case measure => simp [intOf]; omega
          | false =>
            have HL2 := Lib.hid hl2; have HD2 := Lib.hid hd2
            have HN : Hid (Z.spanN Z.part s.data.toList = j) := Lib.hid (by have := HS.out; rw [hstop (by unfold Z.part; rw [hl2, hd2]; rfl)] at this; omega)
            clear hl2 hd2 hstep hstop hc2 hc8
            go_wp2_with fail
            refine (rletter_any c2 _).mono ?_
            rintro e w2 ⟨rfl, rfl⟩
            rw [HL2.out]
            go_wp2_with fail
            refine (rdigit_any c2 _).mono ?_
            rintro e w2 ⟨rfl, rfl⟩
            rw [HD2.out]
            have hjb : j ≤ s.size := hj
            have HRW : Hid (R = if 64 < j then .err 8 else .ok (if Z.kw (s.data.toList.take j) then 2 else 1) (s.data.toList.take j) 0 j) := Lib.hid (by rw [HR.out]; unfold Z.word; rw [HN.out])
            obtain ⟨T, hT⟩ : ∃ T, T = bS (s.data.toList.take j) := ⟨_, rfl⟩
            have hcutT : s.extract 0 j = T := by rw [cut_eq, hT]; rfl
            have hTz : T.size = j := by rw [hT, bS_size, List.length_take, l7_len]; omega
            have HTT := Lib.hid hT
            clear hT
            by_cases h64 : 64 < j
            · have HRE : Hid (R = .err 8) := Lib.hid (by rw [HRW.out, if_pos h64])
              have h64i : decide (64 < (j : Int)) = true := by simp; omega
              obtain ⟨⟨r0, r1, r2, r3⟩, t0, t1, t2, t3⟩ := row4_cells HROW0.out
              go_wp2_with fail
              (try simp only [Exit.inBlock, Exit.then])
              refine bodyPost_ret (results_tok3 Tryd.results23 _ _ w.heap.size _ (0, 0) _ _ rfl rfl rfl (put4_row HROW0.out _ _ _ _) (by kernel_rfl)) rfl ?_
              refine ⟨?_, below_put4 HB0.out (Nat.le_refl _) _ _ _ _⟩
              rw [HRE.out]; rfl
            · have h64i : decide (64 < (j : Int)) = false := by simp; omega
              have HN64 := Lib.hid h64
              clear h64
              obtain ⟨⟨r0, r1, r2, r3⟩, t0, t1, t2, t3⟩ := row4_cells HROW0.out
              go_wp2_with fail
              refine (rkeyword_any T _).mono ?_
              rintro e w5 ⟨rfl, hb5⟩
              obtain ⟨B, hB⟩ : ∃ B, B = Z.kw T.data.toList := ⟨_, rfl⟩
              have HBB := Lib.hid hB
              rw [← hB]
              have hlt0 := row_lt7 HROW0.out
              have hrow5 := (hb5.block w.heap.size (by simp only [World.size_alloc]; omega)).trans ((al_old (o := .cells #[.int .i64 1, .int .i64 0, .string T, .int .i64 0] 30) hlt0).trans HROW0.out)
              have hbx5 := (hb5.block w2.heap.size (by simp only [World.size_alloc]; omega)).trans (al1_heap w2 (.cells #[.int .i64 1, .int .i64 0, .string T, .int .i64 0] 30))
              have hbx5 : w5.heap[w.heap.size + 1]? = some (.cells #[.int .i64 1, .int .i64 0, .string T, .int .i64 0] 30 (0, 0)) := by rw [← hz0]; exact hbx5
              have hb5' := (HB0.out.alloc (by omega) (.cells #[.int .i64 1, .int .i64 0, .string T, .int .i64 0] 30)).trans (hb5.mono (by simp only [World.size_alloc]; omega))
              have HROW5 := Lib.hid hrow5
              have HB5 := Lib.hid hb5'
              have HBX5 := Lib.hid hbx5
              have HRB : Hid (R = .ok (if B = true then 2 else 1) (s.data.toList.take j) 0 j) := Lib.hid (by rw [HRW.out, if_neg (by have := HN64.out; omega), hB, HTT.out, bS_data])
              clear hb5 hB hb5' r0 r1 r2 r3 t0 t1 t2 t3 hcutT
              cases B with
              | true =>
                obtain ⟨⟨r0, r1, r2, r3⟩, t0, t1, t2, t3⟩ := row4_cells hrow5
                obtain ⟨⟨q0, q1, q2, q3⟩, v0, v1, v2, v3⟩ := row4_cells hbx5
                go_upto_region 11 with fail
                have hbx6 := set_row 0 (.int .i64 2) HBX5.out
                have hrow6 := (heap_setCell_other w5 ⟨w.heap.size + 1, 0, none⟩ w.heap.size (.int .i64 2) (by show w.heap.size ≠ w.heap.size + 1; omega)).trans HROW5.out
                have HROW6 := Lib.hid hrow6
                have HB6 := Lib.hid (HB5.out.setCell (p := ⟨w.heap.size + 1, 0, none⟩) (by show w.heap.size ≤ w.heap.size + 1; omega) (.int .i64 2))
                have hbx6 : (w5.setCell ⟨w.heap.size + 1, 0, none⟩ (.int .i64 2)).heap[w.heap.size + 1]? = some (.cells #[.int .i64 2, .int .i64 0, .string T, .int .i64 0] 30 (0, 0)) := hbx6
                clear r0 r1 r2 r3 t0 t1 t2 t3 q0 q1 q2 q3 v0 v1 v2 v3 hrow5 hbx5
                generalize w5.setCell ⟨w.heap.size + 1, 0, none⟩ (.int .i64 2) = w6 at *
                obtain ⟨⟨r0, r1, r2, r3⟩, t0, t1, t2, t3⟩ := row4_cells hrow6
                obtain ⟨⟨q0, q1, q2, q3⟩, v0, v1, v2, v3⟩ := row4_cells hbx6
                clear hrow6 hbx6
                go_wp2_with fail
                (try simp only [Exit.inBlock, Exit.then])
                refine bodyPost_ret (results_tok3 Tryd.results23 _ _ w.heap.size _ (0, 0) _ _ rfl rfl rfl (put4_row HROW6.out _ _ _ _) (by kernel_rfl)) rfl ?_
                refine ⟨?_, below_put4 HB6.out (Nat.le_refl _) _ _ _ _⟩
                rw [HRB.out, HTT.out]; rfl
              | false =>
                obtain ⟨⟨r0, r1, r2, r3⟩, t0, t1, t2, t3⟩ := row4_cells hrow5
                obtain ⟨⟨q0, q1, q2, q3⟩, v0, v1, v2, v3⟩ := row4_cells hbx5
                clear hrow5 hbx5
                go_wp2_with fail
                (try simp only [Exit.inBlock, Exit.then])
                refine bodyPost_ret (results_tok3 Tryd.results23 _ _ w.heap.size _ (0, 0) _ _ rfl rfl rfl (put4_row HROW5.out _ _ _ _) (by kernel_rfl)) rfl ?_
                refine ⟨?_, below_put4 HB5.out (Nat.le_refl _) _ _ _ _⟩
                rw [HRB.out, HTT.out]; rfl
      · have hji : decide ((j : Int) < (s.size : Int)) = false := by simp; omega
        have HN : Hid (Z.spanN Z.part s.data.toList = j) := Lib.hid (by have := HS.out; rw [span_over (by omega)] at this; omega)
        have hjb : j ≤ s.size := hj
        have HRW : Hid (R = if 64 < j then .err 8 else .ok (if Z.kw (s.data.toList.take j) then 2 else 1) (s.data.toList.take j) 0 j) := Lib.hid (by rw [HR.out]; unfold Z.word; rw [HN.out])
        obtain ⟨T, hT⟩ : ∃ T, T = bS (s.data.toList.take j) := ⟨_, rfl⟩
        have hcutT : s.extract 0 j = T := by rw [cut_eq, hT]; rfl
        have hTz : T.size = j := by rw [hT, bS_size, List.length_take, l7_len]; omega
        have HTT := Lib.hid hT
        clear hT
        by_cases h64 : 64 < j
        · have HRE : Hid (R = .err 8) := Lib.hid (by rw [HRW.out, if_pos h64])
          have h64i : decide (64 < (j : Int)) = true := by simp; omega
          obtain ⟨⟨r0, r1, r2, r3⟩, t0, t1, t2, t3⟩ := row4_cells HROW0.out
          go_wp2_with fail
          (try simp only [Exit.inBlock, Exit.then])
          refine bodyPost_ret (results_tok3 Tryd.results23 _ _ w.heap.size _ (0, 0) _ _ rfl rfl rfl (put4_row HROW0.out _ _ _ _) (by kernel_rfl)) rfl ?_
          refine ⟨?_, below_put4 HB0.out (Nat.le_refl _) _ _ _ _⟩
          rw [HRE.out]; rfl
        · have h64i : decide (64 < (j : Int)) = false := by simp; omega
          have HN64 := Lib.hid h64
          clear h64
          obtain ⟨⟨r0, r1, r2, r3⟩, t0, t1, t2, t3⟩ := row4_cells HROW0.out
          go_wp2_with fail
          refine (rkeyword_any T _).mono ?_
          rintro e w5 ⟨rfl, hb5⟩
          obtain ⟨B, hB⟩ : ∃ B, B = Z.kw T.data.toList := ⟨_, rfl⟩
          have HBB := Lib.hid hB
          rw [← hB]
          have hlt0 := row_lt7 HROW0.out
          have hrow5 := (hb5.block w.heap.size (by simp only [World.size_alloc]; omega)).trans ((al_old (o := .cells #[.int .i64 1, .int .i64 0, .string T, .int .i64 0] 30) hlt0).trans HROW0.out)
          have hbx5 := (hb5.block w2.heap.size (by simp only [World.size_alloc]; omega)).trans (al1_heap w2 (.cells #[.int .i64 1, .int .i64 0, .string T, .int .i64 0] 30))
          have hbx5 : w5.heap[w.heap.size + 1]? = some (.cells #[.int .i64 1, .int .i64 0, .string T, .int .i64 0] 30 (0, 0)) := by rw [← hz0]; exact hbx5
          have hb5' := (HB0.out.alloc (by omega) (.cells #[.int .i64 1, .int .i64 0, .string T, .int .i64 0] 30)).trans (hb5.mono (by simp only [World.size_alloc]; omega))
          have HROW5 := Lib.hid hrow5
          have HB5 := Lib.hid hb5'
          have HBX5 := Lib.hid hbx5
          have HRB : Hid (R = .ok (if B = true then 2 else 1) (s.data.toList.take j) 0 j) := Lib.hid (by rw [HRW.out, if_neg (by have := HN64.out; omega), hB, HTT.out, bS_data])
          clear hb5 hB hb5' r0 r1 r2 r3 t0 t1 t2 t3 hcutT
          cases B with
          | true =>
            obtain ⟨⟨r0, r1, r2, r3⟩, t0, t1, t2, t3⟩ := row4_cells hrow5
            obtain ⟨⟨q0, q1, q2, q3⟩, v0, v1, v2, v3⟩ := row4_cells hbx5
            go_upto_region 11 with fail
            have hbx6 := set_row 0 (.int .i64 2) HBX5.out
            have hrow6 := (heap_setCell_other w5 ⟨w.heap.size + 1, 0, none⟩ w.heap.size (.int .i64 2) (by show w.heap.size ≠ w.heap.size + 1; omega)).trans HROW5.out
            have HROW6 := Lib.hid hrow6
            have HB6 := Lib.hid (HB5.out.setCell (p := ⟨w.heap.size + 1, 0, none⟩) (by show w.heap.size ≤ w.heap.size + 1; omega) (.int .i64 2))
            have hbx6 : (w5.setCell ⟨w.heap.size + 1, 0, none⟩ (.int .i64 2)).heap[w.heap.size + 1]? = some (.cells #[.int .i64 2, .int .i64 0, .string T, .int .i64 0] 30 (0, 0)) := hbx6
            clear r0 r1 r2 r3 t0 t1 t2 t3 q0 q1 q2 q3 v0 v1 v2 v3 hrow5 hbx5
            generalize w5.setCell ⟨w.heap.size + 1, 0, none⟩ (.int .i64 2) = w6 at *
            obtain ⟨⟨r0, r1, r2, r3⟩, t0, t1, t2, t3⟩ := row4_cells hrow6
            obtain ⟨⟨q0, q1, q2, q3⟩, v0, v1, v2, v3⟩ := row4_cells hbx6
            clear hrow6 hbx6
            go_wp2_with fail
            (try simp only [Exit.inBlock, Exit.then])
            refine bodyPost_ret (results_tok3 Tryd.results23 _ _ w.heap.size _ (0, 0) _ _ rfl rfl rfl (put4_row HROW6.out _ _ _ _) (by kernel_rfl)) rfl ?_
            refine ⟨?_, below_put4 HB6.out (Nat.le_refl _) _ _ _ _⟩
            rw [HRB.out, HTT.out]; rfl
          | false =>
            obtain ⟨⟨r0, r1, r2, r3⟩, t0, t1, t2, t3⟩ := row4_cells hrow5
            obtain ⟨⟨q0, q1, q2, q3⟩, v0, v1, v2, v3⟩ := row4_cells hbx5
            clear hrow5 hbx5
            go_wp2_with fail
            (try simp only [Exit.inBlock, Exit.then])
            refine bodyPost_ret (results_tok3 Tryd.results23 _ _ w.heap.size _ (0, 0) _ _ rfl rfl rfl (put4_row HROW5.out _ _ _ _) (by kernel_rfl)) rfl ?_
            refine ⟨?_, below_put4 HB5.out (Nat.le_refl _) _ _ _ _⟩
            rw [HRB.out, HTT.out]; rfl
  | false =>
    have HLE := Lib.hid hle
    have hn2 : Z.clsL s.data.toList ≠ 2 := fun e => by rw [hcl] at e; rw [Z.letter_cls.1 e] at hle; cases hle
    refine (rletter_any ch w1).mono ?_
    rintro e w2 ⟨rfl, rfl⟩
    rw [HLE.out]
    cases hdi : Z.digit ch with
    | true =>
      have HDI := Lib.hid hdi
      have HR : Hid (R = Z.int s.data.toList) := Lib.hid (by rw [hR]; unfold Z.one; rw [if_neg hn2, if_pos (by rw [hcl]; exact Z.digit_cls.2 hdi)])
      clear hR hcl hle hdi hn2
      go_wp2_with fail
      refine (rdigit_any ch _).mono ?_
      rintro e w3 ⟨rfl, rfl⟩
      rw [HDI.out]
      go_wp2_with fail
      refine (rnumber_any s _ h0 hs).mono ?_
      rintro e w4 ⟨hm, rfl⟩
      rw [← HR.out] at hm
      obtain ⟨⟨r0, r1, r2, r3⟩, t0, t1, t2, t3⟩ := row4_cells HROW0.out
      have hwk : ∀ k v t n, R = .ok k t v n → k = 3 ∧ t = [] := fun k v t n h => by
        rw [HR.out] at h
        unfold Z.int at h
        split at h
        · cases h
        split at h
        · simp only [Z.R.ok.injEq] at h; exact ⟨h.1.symm, h.2.1.symm⟩
        · cases h
      have hwe : ∀ er, R = .err er → er ≠ 0 := fun er h => by
        rw [HR.out] at h
        unfold Z.int at h
        split at h
        · simp only [Z.R.err.injEq] at h; omega
        split at h
        · cases h
        · simp only [Z.R.err.injEq] at h; omega
      cases R with
      | err er =>
        have hm : e = .returned (.tuple #[.int .i64 0, .int .i64 0, .int .i64 er]) := hm
        subst hm
        have her := hwe er rfl
        have hen : (er != 0) = true := by rw [bne_iff_ne]; exact her
        clear her hwe hwk
        go_wp2_with fail
        (try simp only [Exit.inBlock, Exit.then])
        refine bodyPost_ret (results_tok3 Tryd.results23 _ _ w.heap.size _ (0, 0) _ _ rfl rfl rfl (put4_row HROW0.out _ _ _ _) (by kernel_rfl)) rfl ?_
        exact ⟨rfl, below_put4 HB0.out (Nat.le_refl _) _ _ _ _⟩
      | ok k t v n =>
        obtain ⟨rfl, rfl⟩ := hwk k v t n rfl
        have hm : e = .returned (.tuple #[.int .i64 v, .int .i64 (n : Int), .int .i64 0]) := hm
        subst hm
        clear hwe hwk
        go_wp2_with fail
        (try simp only [Exit.inBlock, Exit.then])
        refine bodyPost_ret (results_tok3 Tryd.results23 _ _ w.heap.size _ (0, 0) _ _ rfl rfl rfl (put4_row HROW0.out _ _ _ _) (by kernel_rfl)) rfl ?_
        exact ⟨rfl, below_put4 HB0.out (Nat.le_refl _) _ _ _ _⟩
    | false =>
      have HDI := Lib.hid hdi
      have hn3 : Z.clsL s.data.toList ≠ 3 := fun e => by rw [hcl] at e; rw [Z.digit_cls.1 e] at hdi; cases hdi
      by_cases h34 : ch = 34
      · have HR : Hid (R = Z.lit s.data.toList) := Lib.hid (by rw [hR]; unfold Z.one; rw [if_neg hn2, if_neg hn3, if_pos (by rw [hcl]; exact Z.mark_cls.2 h34)])
        have e34 : ((ch : Int) == 34) = true := by rw [h34]; rfl
        have HH34 := Lib.hid h34
        have hdd : Hid (∀ w, Calls Tryd.prog 40 #[.int .u8 (ch : Int)] w fun e w' => e = .returned (.bool false) ∧ w' = w) := Lib.hid (fun w => (rdigit_any ch w).mono fun _ _ h => ⟨by rw [h.1, HDI.out], h.2⟩)
        clear hR hcl hle hdi hn2 hn3 h34
        go_wp2_with fail
        refine (hdd.out _).mono ?_
        rintro e w3 ⟨rfl, rfl⟩
        go_wp2_with fail
        refine (rliteral_any s _ h0 hs).mono ?_
        rintro e w4 ⟨hm, hb4⟩
        rw [← HR.out] at hm
        have hrow4 := (hb4.block w.heap.size (by omega)).trans HROW0.out
        obtain ⟨⟨r0, r1, r2, r3⟩, t0, t1, t2, t3⟩ := row4_cells hrow4
        have HROW4 := Lib.hid hrow4
        have HB4 := Lib.hid (HB0.out.trans (hb4.mono (by omega)))
        have hwk : ∀ k v t n, R = .ok k t v n → k = 4 ∧ v = 0 := fun k v t n h => by
          rw [HR.out] at h
          unfold Z.lit at h
          exact ⟨(Z.litG_n _ _ _ _ _ _ _ _ h).2, litG_v _ _ _ _ _ _ _ _ h⟩
        have hwe : ∀ er, R = .err er → er ≠ 0 := fun er h => by
          rw [HR.out] at h
          unfold Z.lit at h
          exact Z.litG_err _ _ _ _ _ (by rw [List.length_drop, l7_len]; omega) h
        clear hb4 hrow4
        cases R with
        | err er =>
          have hm : e = .returned (.tuple #[.string ⟨#[]⟩, .int .i64 0, .int .i64 er]) := hm
          subst hm
          have her := hwe er rfl
          have hen : (er != 0) = true := by rw [bne_iff_ne]; exact her
          clear her hwe hwk
          go_wp2_with fail
          (try simp only [Exit.inBlock, Exit.then])
          refine bodyPost_ret (results_tok3 Tryd.results23 _ _ w.heap.size _ (0, 0) _ _ rfl rfl rfl (put4_row HROW4.out _ _ _ _) (by kernel_rfl)) rfl ?_
          exact ⟨rfl, below_put4 HB4.out (Nat.le_refl _) _ _ _ _⟩
        | ok k t v n =>
          obtain ⟨rfl, rfl⟩ := hwk k v t n rfl
          have hm : e = .returned (.tuple #[.string (bS t), .int .i64 (n : Int), .int .i64 0]) := hm
          subst hm
          clear hwe hwk
          go_wp2_with fail
          (try simp only [Exit.inBlock, Exit.then])
          refine bodyPost_ret (results_tok3 Tryd.results23 _ _ w.heap.size _ (0, 0) _ _ rfl rfl rfl (put4_row HROW4.out _ _ _ _) (by kernel_rfl)) rfl ?_
          exact ⟨rfl, below_put4 HB4.out (Nat.le_refl _) _ _ _ _⟩
      · have hn4 : Z.clsL s.data.toList ≠ 4 := fun e => by rw [hcl] at e; exact h34 (Z.mark_cls.1 e)
        have e34 : ((ch : Int) == 34) = false := by rw [beq_eq_false_iff_ne]; omega
        have HYES : Hid (∀ j, j < 22 → (∀ q, q < j → Z.fits (Z.signL.getD q []) s.data.toList = false) → Z.fits (Z.signL.getD j []) s.data.toList = true → R = .ok 5 (Z.signL.getD j []) 0 (Z.signL.getD j []).length) := Lib.hid (fun j h1 h2 h3 => by
          rw [hR]; rw [HCONS.out] at h2 h3 ⊢; exact Z.sgn_yes _ _ j h1 h2 h3)
        have HNO : Hid ((∀ q, q < 22 → Z.fits (Z.signL.getD q []) s.data.toList = false) → R = .err 3) := Lib.hid (fun h1 => by
          rw [hR]; rw [HCONS.out] at h1 hn2 hn3 hn4 ⊢; exact Z.sgn_no _ _ hn2 hn3 hn4 h1)
        clear hR hcl hle hdi hn2 hn3 hn4 h34
        go_wp2_with fail
        refine (rdigit_any ch _).mono ?_
        rintro e w3 ⟨rfl, rfl⟩
        rw [HDI.out]
        go_wp2_with fail
        refine (signs_any _).mono ?_
        rintro e w4 ⟨rfl, rfl⟩
        obtain ⟨g, hg⟩ : ∃ g, g = w3.heap.size := ⟨_, rfl⟩
        have hrs := al1_heap w3 (.cells signCells 9)
        have hrow4 := (al_old (o := .cells signCells 9) (row_lt7 HROW0.out)).trans HROW0.out
        have hb4 := HB0.out.alloc (by omega) (.cells signCells 9)
        rw [← hg] at hrs ⊢
        have HRS := Lib.hid hrs; have HROW4 := Lib.hid hrow4; have HB4 := Lib.hid hb4
        obtain ⟨⟨r0, r1, r2, r3⟩, t0, t1, t2, t3⟩ := row4_cells hrow4
        clear hrs hrow4 hb4 hg HROW0 HB0
        generalize w3.alloc (.cells signCells 9) = w4 at *
        go_wp2_with fail
        go_loop [15, 83] (fun _ i => ∃ j : Nat, j ≤ 22 ∧ i = .int .i64 j ∧ Hid (∀ q, q < j → Z.fits (Z.signL.getD q []) s.data.toList = false)) (fun _ i => 22 - (intOf i).toNat)
        case atStart => exact ⟨0, Nat.zero_le _, rfl, Lib.hid fun q hq => absurd hq (Nat.not_lt_zero _)⟩
        case round =>
          obtain ⟨j, hj, rfl, HA⟩ := hrel
          by_cases hlt : j < 22
          · have hc := sg_cell HRS.out hlt
            have hxl := sg_size j hlt
            have hfs := @fits_short (Z.signL.getD j []) s.data.toList
            have hfc := @fits_cut s (Z.signL.getD j [])
            rw [l7_len] at hfs
            obtain ⟨D, hD⟩ : ∃ D, D = Z.fits (Z.signL.getD j []) s.data.toList := ⟨_, rfl⟩
            rw [← hD] at hfs hfc
            have HY : Hid (D = true → R = .ok 5 (Z.signL.getD j []) 0 (Z.signL.getD j []).length) := Lib.hid (fun h => HYES.out j hlt HA.out (by rw [← hD]; exact h))
            have HF : Hid (D = false → ∀ q, q < j + 1 → Z.fits (Z.signL.getD q []) s.data.toList = false) := Lib.hid (fun h q hq => by
              rcases Nat.lt_or_ge q j with h1 | h1
              · exact HA.out q h1
              · obtain rfl : q = j := by omega
                rw [← hD]; exact h)
            obtain ⟨x, hx⟩ : ∃ x, x = Z.signL.getD j [] := ⟨_, rfl⟩
            rw [← hx] at hc hxl hfs hfc HY
            obtain ⟨lx, hlx⟩ : ∃ lx, lx = x.length := ⟨_, rfl⟩
            have hbs : (bS x).size = lx := by rw [bS_size, hlx]
            have hfc2 := hfc lx hlx
            rw [← hlx] at hxl hfs HY
            obtain ⟨X, hX⟩ : ∃ X, X = bS x := ⟨_, rfl⟩
            have HX := Lib.hid hX
            rw [← hX] at hc hbs hfc2
            have hlti : decide ((j : Int) < 22) = true := by simp; omega
            have j0 : (0 : Int) ≤ (j : Int) := by omega
            have j1 : (j : Int) < 22 := by omega
            have hl1 : lx ≤ 2 := by omega
            clear hfc hD hx hlx hX hxl
            by_cases hle : lx ≤ s.size
            · have hlei : decide ((lx : Int) ≤ (s.size : Int)) = true := by simp; omega
              clear hfs
              cases D with
              | true =>
                have HRE := Lib.hid (HY.out rfl)
                clear HY HF
                go_wp2_with fail
                (try simp only [Exit.inBlock, Exit.then])
                refine bodyPost_ret (results_tok3 Tryd.results23 _ _ w.heap.size _ (0, 0) _ _ rfl rfl rfl (put4_row HROW4.out _ _ _ _) (by kernel_rfl)) rfl ?_
                refine ⟨?_, below_put4 HB4.out (Nat.le_refl _) _ _ _ _⟩
                rw [HRE.out, HX.out]; rfl
              | false =>
                have HF2 := Lib.hid (HF.out rfl)
                clear HY HF
                go_wp2_with fail
                go_round
                case rel => exact ⟨j + 1, hlt, by go_num, HF2⟩
                case measure => simp [intOf]; omega
            · have hlei : decide ((lx : Int) ≤ (s.size : Int)) = false := by simp; omega
              have hDf : D = false := hfs (by omega)
              have HF2 := Lib.hid (HF.out hDf)
              clear hfs hDf HY HF hfc2
              go_wp2_with fail
              go_round
              case rel => exact ⟨j + 1, hlt, by go_num, HF2⟩
              case measure => simp [intOf]; omega
          · have hlti : decide ((j : Int) < 22) = false := by simp; omega
            have HRE := Lib.hid (HNO.out (fun q hq => HA.out q (by omega)))
            go_wp2_with fail
            (try simp only [Exit.inBlock, Exit.then])
            refine bodyPost_ret (results_tok3 Tryd.results23 _ _ w.heap.size _ (0, 0) _ _ rfl rfl rfl (put4_row HROW4.out _ _ _ _) (by kernel_rfl)) rfl ?_
            refine ⟨?_, below_put4 HB4.out (Nat.le_refl _) _ _ _ _⟩
            rw [HRE.out]; rfl
end Go.Proofs.YtffolfnaalijnaaDoor
