/-
  Layer 3: the code's parser: a value (its maps by hypothesis).
-/
import Derived.Test.YtdkggnciamfcmaaGreatDoorTCodF
import Derived.Test.YtdkggnciamfcmaaGreatDoorVCodJ
namespace Go.Proofs.YtdkggnciamfcmaaGreatDoor
set_option linter.unusedVariables false
open Go.RowKit
open M (V Res)

namespace M
def plc (ks : List ByteArray) (key : ByteArray) : Nat := (ks.takeWhile fun k => Go.Op.bytesLess k.toList key.toList).length
/-- A key that must be a new one. -/
def nkey (s : ByteArray) (ks : List ByteArray) (i b : Nat) : Res ByteArray := (vis s i b).then fun c j b => (want 34 c j b).then fun _ j b => (lit s j b).then fun k j2 b => if plc ks k < ks.length ∧ (ks.getD (plc ks k) ByteArray.empty).toList = k.toList then .no (j - 1) 9 else .ok k j2 b
def insAt {α : Type} (p : Nat) (x : α) (l : List α) : List α := l.take p ++ x :: l.drop p
def pm (s : ByteArray) (p : Nat → Nat → Res V) : Nat → List ByteArray → List V → Bool → Nat → Nat → Res (List ByteArray × List V)
  | _, ks, its, false, i, b => .ok (ks, its) i b
  | 0, _, _, true, i, _ => .no i 4
  | k + 1, ks, its, true, i, b => (nkey s ks i b).then fun key j b => (vis s j b).then fun c j b => (want 58 c j b).then fun _ j b => (p j b).then fun t j b => (next s 125 j b).then fun m j b =>
      pm s p k (insAt (plc ks key) key ks) (insAt (plc ks key) t its) m j b
def ppairs (s : ByteArray) (p : Nat → Nat → Res V) (i b : Nat) : Res V := (first s 125 i b).then fun m j b => (pm s p (s.size + 1 - j) [] [] m j b).then fun r j b => .ok (.mk 5 0 ByteArray.empty r.2 r.1) j b
/-- A value whose first byte has been taken. -/
def pbody (s : ByteArray) (p : Nat → Nat → Res V) (c j b : Nat) : Res V :=
  if c = 110 then (word s [117, 108, 108] j b).then fun _ j b => .ok V.null j b
  else if c = 116 then (word s [114, 117, 101] j b).then fun _ j b => .ok (.mk 1 1 ByteArray.empty [] []) j b
  else if c = 102 then (word s [97, 108, 115, 101] j b).then fun _ j b => .ok (.mk 1 0 ByteArray.empty [] []) j b
  else if c = 34 then (lit s j b).then fun x j b => .ok (.mk 3 0 x [] []) j b
  else if c = 91 then plist s p j b
  else if c = 123 then ppairs s p j b
  else (int s c j b).then fun n j b => .ok (.mk 2 n ByteArray.empty [] []) j b
/-- A value at depth 17 - f. -/
def pv : Nat → ByteArray → Nat → Nat → Res V
  | 0, s, i, b => (bgn s 17 i b).then fun _ j _ => .no j 7
  | f + 1, s, i, b => (bgn s (16 - f) i b).then fun c j b => pbody s (pv f s) c j b
theorem bgn_inv {s : ByteArray} {d i b c j b' : Nat} (h : Res.ok c j b' = bgn s d i b) : skip s i < s.size ∧ j = skip s i + 1 ∧ b' = b + 1 ∧ c < 256 ∧ d ≤ 16 := by
  unfold bgn at h
  obtain ⟨q, hq⟩ : ∃ q, q = vis s i b := ⟨_, rfl⟩
  rw [← hq] at h
  cases q with
  | no k e => cases h
  | ok d k b2 =>
    obtain ⟨h1, h2, h3, h4⟩ := vis_inv hq
    rw [Res.then_ok] at h
    split at h
    · cases h
    · split at h
      · cases h
      · split at h
        · cases h
        · injection h with e1 e2 e3
          have := ch_lt s (skip s i)
          exact ⟨h1, by omega, by omega, by omega, by omega⟩
theorem lit_size {s : ByteArray} {i b j b' : Nat} {x : ByteArray} (h : Res.ok x j b' = lit s i b) : x.size ≤ 4096 := by
  unfold lit at h
  obtain ⟨q, hq⟩ : ∃ q, q = take s i b := ⟨_, rfl⟩
  rw [← hq] at h
  cases q with
  | no k e => cases h
  | ok c k b2 =>
    rw [Res.then_ok] at h
    obtain ⟨q2, hq2⟩ : ∃ q, q = litL s (s.size + 1 - k) [] c k b2 := ⟨_, rfl⟩
    rw [← hq2] at h
    cases q2 with
    | no k e => cases h
    | ok l k3 b3 =>
      rw [Res.then_ok] at h
      split at h
      · cases h
      · injection h with e1 e2 e3
        rw [e1]
        show l.toArray.size ≤ 4096
        rw [List.size_toArray]; omega
theorem num_range {s : ByteArray} {i j : Nat} {n : Int} (h : num s i j = some n) : -9223372036854775808 ≤ n ∧ n ≤ 9223372036854775807 := by
  unfold num at h
  split at h
  · rename_i v hv
    injection h with h
    have := Lib.parseIntB_bounds hv
    rw [h] at this
    omega
  · cases h
theorem int_range {s : ByteArray} {c i b j b' : Nat} {n : Int} (h : Res.ok n j b' = int s c i b) : -9223372036854775808 ≤ n ∧ n ≤ 9223372036854775807 := by
  unfold int at h
  obtain ⟨q, hq⟩ : ∃ q, q = lead s c i b := ⟨_, rfl⟩
  rw [← hq] at h
  cases q with
  | no k e => cases h
  | ok d k b2 =>
    rw [Res.then_ok] at h
    unfold tail at h
    split at h
    · cases h
    · split at h
      · rename_i v hv
        injection h with e1 e2 e3
        rw [e1]; exact num_range hv
      · cases h
end M

theorem pair3_below (w : World) (o o' : Obj) : Below w.heap.size w ((w.alloc o).alloc o') := ((Below.refl _ _).alloc (Nat.le_refl _) _).alloc (by simp) _
theorem bool3_any (x : Bool) (n : Int) (hn : n = if x = true then 1 else 0) (w : World) :
    Calls Tryz.prog 45 #[.bool x] w fun e w' => e = .returned (.agg #[.int .i64 1, .int .i64 n, .string ByteArray.empty, .slice none 0 0, .slice none 0 0]) ∧ Below w.heap.size w w' := by
  have hb2 := pair3_below w
  subst hn
  cases x
  all_goals (go_enter Tryz.func45, Tryz.ntmps45; go_wp2_with fail)
  · exact bodyPost_ret (v := .agg #[.int .i64 1, .int .i64 0, .string ByteArray.empty, .slice none 0 0, .slice none 0 0]) (by simp [results, Tryz.results45, go_sem]; rfl) rfl ⟨rfl, hb2 _ _⟩
  · exact bodyPost_ret (v := .agg #[.int .i64 1, .int .i64 1, .string ByteArray.empty, .slice none 0 0, .slice none 0 0]) (by simp [results, Tryz.results45, go_sem]; rfl) rfl ⟨rfl, hb2 _ _⟩
theorem bool3_t (w : World) : Calls Tryz.prog 45 #[.bool true] w fun e w' => e = .returned (.agg #[.int .i64 1, .int .i64 1, .string ByteArray.empty, .slice none 0 0, .slice none 0 0]) ∧ Below w.heap.size w w' := bool3_any true 1 rfl w
theorem bool3_f (w : World) : Calls Tryz.prog 45 #[.bool false] w fun e w' => e = .returned (.agg #[.int .i64 1, .int .i64 0, .string ByteArray.empty, .slice none 0 0, .slice none 0 0]) ∧ Below w.heap.size w w' := bool3_any false 0 rfl w
theorem VB.bool3 (w : World) (lo hi d : Nat) (n : Int) (h1 : 0 ≤ n) (h2 : n ≤ 1) : VB w lo hi (d + 1) (.agg #[.int .i64 1, .int .i64 n, .string ByteArray.empty, .slice none 0 0, .slice none 0 0]) (.mk 1 n ByteArray.empty [] []) :=
  ⟨none, 0, 0, none, 0, 0, rfl, by show (-9223372036854775808 : Int) ≤ 1; omega, by show (1 : Int) ≤ _; omega, by show (-9223372036854775808 : Int) ≤ n; omega, by show n ≤ 9223372036854775807; omega, Nat.zero_le _, IS.nil_ _ _ _ _, KS.nil_ _ _ _⟩

/-- A value that is returned through the result's box. -/
theorem value_end {w w9 : World} {g d j b lo : Nat} {s : ByteArray} {t : V} {r : Res V} {a c : Int} {x : ByteArray} {y z : Value} (hg : g < w.heap.size) (hlo : w.heap.size < lo)
    (hv : VB w9 lo w9.heap.size d (.agg #[.int .i64 a, .int .i64 c, .string x, y, z]) t) (hP : Prs w9 g s j b) (hG : w.grownBy w9 (some g)) (hr : Hid (r = .ok t j b)) :
    Ends g s (isVal d w.heap.size) r w (.returned (.agg #[.int .i64 a, .int .i64 c, .string x, y, z])) (stored w9 w.heap.size (.int .i64 a) (.int .i64 c) (.string x) y z) := by
  have hoth : ∀ k, k ≠ w.heap.size → (stored w9 w.heap.size (.int .i64 a) (.int .i64 c) (.string x) y z).heap[k]? = w9.heap[k]? := fun k hk => stored_other w9 w.heap.size k _ _ _ _ _ hk
  have hs := stored_size w9 w.heap.size (.int .i64 a) (.int .i64 c) (.string x) y z
  have ho := stored_rest w9 w.heap.size (.int .i64 a) (.int .i64 c) (.string x) y z
  generalize stored w9 w.heap.size (.int .i64 a) (.int .i64 c) (.string x) y z = W at *
  refine Ends.good ⟨ho.1.trans hG.os, ho.2.1.trans hG.tape, ho.2.2.trans hG.output, by rw [hs]; exact hG.size, fun k h1 h2 => (hoth k (by omega)).trans (hG.block k h1 h2)⟩ (hP.kept (hoth g (by omega))) ?_ hr.out
  have hk : Kept lo w9.heap.size w9 W := fun k h1 h2 => hoth k (by omega)
  exact (hv.kept hk).weak (by omega) (by rw [hs]; omega)

def pairsAt (f : Nat) : Prop := ∀ (g i b : Nat) (s : ByteArray) (depth : Int) (w : World), depth = 16 - (f : Int) → Prs w g s i b → Doors w → 7 < g →
  Calls Tryz.prog 49 #[.pointer (some ⟨g, 0, none⟩), .int .i64 depth] w (Ends g s (isVal (f + 2) w.heap.size) (M.ppairs s (M.pv f s) i b) w)
set_option maxRecDepth 100000 in
set_option maxHeartbeats 8000000 in
theorem value3_any {f : Nat} (ih : parseAt f (M.pv f)) (hst : stepsOn (M.pv f)) (hpa : pairsAt f) (hf : f ≤ 16) : parseAt (f + 1) (M.pv (f + 1)) := by
  intro g i b s depth w hd h hD h8
  obtain ⟨r, hr⟩ : ∃ r, r = M.pv (f + 1) s i b := ⟨_, rfl⟩
  rw [← hr]
  have HR := Lib.hid hr
  clear hr
  have hdn : depth = ((16 - f : Nat) : Int) := by omega
  have hdl : 16 - f ≤ 100 := by omega
  have HDE : Hid (depth = 16 - (f : Int)) := Lib.hid (by omega)
  obtain ⟨dp, hdp⟩ : ∃ dp, dp = 16 - f := ⟨_, rfl⟩
  have HR1 : Hid (r = (M.bgn s dp i b).then fun c j b => M.pbody s (M.pv f s) c j b) := Lib.hid (by rw [HR.out, hdp]; rfl)
  rw [← hdp] at hdn hdl
  subst hdn
  have HF : Hid (f ≤ 16) := Lib.hid hf
  clear hdp hd HR hf
  have hgw := h.lt
  have HD := Lib.hid hD
  have hb0 := grown_alloc w (.cells #[.int .i64 0, .int .i64 0, .string ByteArray.empty, .slice none 0 0, .slice none 0 0] 25)
  have hP1 : Prs (w.alloc (.cells #[.int .i64 0, .int .i64 0, .string ByteArray.empty, .slice none 0 0, .slice none 0 0] 25)) g s i b := h.kept (Below.heap_alloc _ _ _ hgw)
  have hZ1 : (w.alloc (.cells #[.int .i64 0, .int .i64 0, .string ByteArray.empty, .slice none 0 0, .slice none 0 0] 25)).heap[w.heap.size]? = some (.cells #[.int .i64 0, .int .i64 0, .string ByteArray.empty, .slice none 0 0, .slice none 0 0] 25 (0, 0)) := heap_alloc_new _ _
  have hG1 : w.grownBy (w.alloc (.cells #[.int .i64 0, .int .i64 0, .string ByteArray.empty, .slice none 0 0, .slice none 0 0] 25)) (some g) := World.grownBy_alloc w _ (some g)
  have HNE : Hid (some w.heap.size ≠ some g) := Lib.hid (fun e => by injection e; omega)
  have HP1 := Lib.hid hP1; have HZ1 := Lib.hid hZ1; have HG1 := Lib.hid hG1
  clear h hD hb0 hP1 hZ1 hG1
  go_enter Tryz.func26, Tryz.ntmps26
  go_wp2_with fail
  refine (bgn_any dp HP1.out hdl).mono ?_
  rintro e w2 ⟨hg2, hm⟩
  obtain ⟨q, hq⟩ : ∃ q, q = M.bgn s dp i b := ⟨_, rfl⟩
  rw [← hq] at hm
  have HR2 : Hid (r = q.then fun c j b => M.pbody s (M.pv f s) c j b) := Lib.hid (by rw [HR1.out, hq])
  rcases q with ⟨c, j, b'⟩ | ⟨kk, er⟩
  rotate_left
  · subst hm
    exact ⟨rfl, Ends.fault (HG1.out.trans hg2) (by rw [HR2.out]; rfl)⟩
  obtain ⟨v, rfl, hP2, rfl⟩ := hm
  obtain ⟨k1, k2, -, hc, -⟩ := M.bgn_inv hq
  have hj0 : 0 < j := by omega
  have HR3 : Hid (r = M.pbody s (M.pv f s) c j b') := Lib.hid HR2.out
  have HZ2 := Lib.hid ((hg2.block w.heap.size (by simp) HNE.out).trans HZ1.out)
  have HG2 := Lib.hid (HG1.out.trans hg2)
  have HP2 := Lib.hid hP2
  have HLT : Hid (w.heap.size < w2.heap.size) := Lib.hid (row_lt HZ2.out)
  have HD2 : Hid (Doors w2) := Lib.hid (HD.out.grown HG2.out h8)
  have HJ := Lib.hid hj0
  clear hP2 hg2 hq k1 k2 HR1 HR2 HP1 HZ1 HG1 HD hj0 hdl
  have hnot : ∀ k : Nat, c ≠ k → ((c : Int) == (k : Int)) = false := fun k h => by rw [beq_eq_false_iff_ne]; omega
  by_cases h1 : c = 110
  · subst h1
    clear hnot
    · skip
      have HR4 : Hid (r = (M.word s [117, 108, 108] j b').then fun _ j b => .ok V.null j b) := Lib.hid (by rw [HR3.out]; rfl)
      go_wp2_with fail
      refine (rest_any ⟨#[117, 108, 108]⟩ HP2.out (by decide)).mono ?_
      rintro e w3 ⟨hg3, hm⟩
      obtain ⟨q, hq⟩ : ∃ q, q = M.word s [117, 108, 108] j b' := ⟨_, rfl⟩
      rw [show (⟨#[117, 108, 108]⟩ : ByteArray).data.toList = [117, 108, 108] from rfl, ← hq] at hm
      rw [← hq] at HR4
      clear hq
      rcases q with ⟨u, j3, b3⟩ | ⟨kk, er⟩
      rotate_left
      · subst hm
        exact ⟨rfl, Ends.fault (HG2.out.trans hg3) (by rw [HR4.out]; rfl)⟩
      obtain ⟨v, rfl, hP3, rfl⟩ := hm
      have HW3 := Lib.hid (HG2.out.trans hg3)
      have HP3 := Lib.hid hP3
      have HZ3 := Lib.hid ((hg3.block w.heap.size HLT.out HNE.out).trans HZ2.out)
      have HZL : Hid (w.heap.size < w3.heap.size) := Lib.hid (row_lt HZ3.out)
      clear hP3 hg3
      go_wp2_with fail
      refine (null_any _).mono ?_
      rintro e w9 ⟨rfl, hb9⟩
      have HZ9 := Lib.hid ((hb9.block w.heap.size HZL.out).trans HZ3.out)
      have HP9 := Lib.hid (HP3.out.kept (hb9.block g HP3.out.lt))
      have HW9 := Lib.hid (HW3.out.trans (Below.only hb9))
      have HV9 := Lib.hid (VB.null w9 (w.heap.size + 1) w9.heap.size (f + 1))
      have HR9 : Hid (r = .ok V.null j3 b3) := Lib.hid HR4.out
      have HLO : Hid (w.heap.size < w.heap.size + 1) := Lib.hid (Nat.lt_succ_self _)
      clear hb9
      obtain ⟨g0, g1, g2', g3, g4, e0, e1, e2, e3', e4⟩ := lit5 HZ9.out
      have HHL : Hid (w9.heap.size > w.heap.size) := Lib.hid (row_lt HZ9.out)
      have hhl := HHL.out
      go_wp2_with fail
      have hfin := lit_stored HZ9.out (.int .i64 0) (.int .i64 0) (.string ByteArray.empty) (.slice none 0 0) (.slice none 0 0)
      refine bodyPost_ret (v := .agg #[.int .i64 0, .int .i64 0, .string ByteArray.empty, .slice none 0 0, .slice none 0 0]) (results_cell_row Tryz.results26 _ _ w.heap.size 25 _ (0, 0) _ rfl hfin Tryz.underlying25 rfl (by kernel_rfl)) rfl ?_
      exact value_end hgw HLO.out HV9.out HP9.out HW9.out HR9
  have n1 := hnot 110 h1
  by_cases h2 : c = 116
  · subst h2
    clear hnot
    · skip
      have HR4 : Hid (r = (M.word s [114, 117, 101] j b').then fun _ j b => .ok (.mk 1 1 ByteArray.empty [] []) j b) := Lib.hid (by rw [HR3.out]; rfl)
      go_wp2_with fail
      refine (rest_any ⟨#[114, 117, 101]⟩ HP2.out (by decide)).mono ?_
      rintro e w3 ⟨hg3, hm⟩
      obtain ⟨q, hq⟩ : ∃ q, q = M.word s [114, 117, 101] j b' := ⟨_, rfl⟩
      rw [show (⟨#[114, 117, 101]⟩ : ByteArray).data.toList = [114, 117, 101] from rfl, ← hq] at hm
      rw [← hq] at HR4
      clear hq
      rcases q with ⟨u, j3, b3⟩ | ⟨kk, er⟩
      rotate_left
      · subst hm
        exact ⟨rfl, Ends.fault (HG2.out.trans hg3) (by rw [HR4.out]; rfl)⟩
      obtain ⟨v, rfl, hP3, rfl⟩ := hm
      have HW3 := Lib.hid (HG2.out.trans hg3)
      have HP3 := Lib.hid hP3
      have HZ3 := Lib.hid ((hg3.block w.heap.size HLT.out HNE.out).trans HZ2.out)
      have HZL : Hid (w.heap.size < w3.heap.size) := Lib.hid (row_lt HZ3.out)
      clear hP3 hg3
      go_wp2_with fail
      refine (bool3_t _).mono ?_
      rintro e w9 ⟨rfl, hb9⟩
      have HZ9 := Lib.hid ((hb9.block w.heap.size HZL.out).trans HZ3.out)
      have HP9 := Lib.hid (HP3.out.kept (hb9.block g HP3.out.lt))
      have HW9 := Lib.hid (HW3.out.trans (Below.only hb9))
      have HV9 := Lib.hid (VB.bool3 w9 (w.heap.size + 1) w9.heap.size (f + 1) 1 (by omega) (by omega))
      have HR9 : Hid (r = .ok (.mk 1 1 ByteArray.empty [] []) j3 b3) := Lib.hid HR4.out
      have HLO : Hid (w.heap.size < w.heap.size + 1) := Lib.hid (Nat.lt_succ_self _)
      clear hb9
      obtain ⟨g0, g1, g2', g3, g4, e0, e1, e2, e3', e4⟩ := lit5 HZ9.out
      have HHL : Hid (w9.heap.size > w.heap.size) := Lib.hid (row_lt HZ9.out)
      have hhl := HHL.out
      go_wp2_with fail
      have hfin := lit_stored HZ9.out (.int .i64 1) (.int .i64 1) (.string ByteArray.empty) (.slice none 0 0) (.slice none 0 0)
      refine bodyPost_ret (v := .agg #[.int .i64 1, .int .i64 1, .string ByteArray.empty, .slice none 0 0, .slice none 0 0]) (results_cell_row Tryz.results26 _ _ w.heap.size 25 _ (0, 0) _ rfl hfin Tryz.underlying25 rfl (by kernel_rfl)) rfl ?_
      exact value_end hgw HLO.out HV9.out HP9.out HW9.out HR9
  have n2 := hnot 116 h2
  by_cases h3 : c = 102
  · subst h3
    clear hnot
    · skip
      have HR4 : Hid (r = (M.word s [97, 108, 115, 101] j b').then fun _ j b => .ok (.mk 1 0 ByteArray.empty [] []) j b) := Lib.hid (by rw [HR3.out]; rfl)
      go_wp2_with fail
      refine (rest_any ⟨#[97, 108, 115, 101]⟩ HP2.out (by decide)).mono ?_
      rintro e w3 ⟨hg3, hm⟩
      obtain ⟨q, hq⟩ : ∃ q, q = M.word s [97, 108, 115, 101] j b' := ⟨_, rfl⟩
      rw [show (⟨#[97, 108, 115, 101]⟩ : ByteArray).data.toList = [97, 108, 115, 101] from rfl, ← hq] at hm
      rw [← hq] at HR4
      clear hq
      rcases q with ⟨u, j3, b3⟩ | ⟨kk, er⟩
      rotate_left
      · subst hm
        exact ⟨rfl, Ends.fault (HG2.out.trans hg3) (by rw [HR4.out]; rfl)⟩
      obtain ⟨v, rfl, hP3, rfl⟩ := hm
      have HW3 := Lib.hid (HG2.out.trans hg3)
      have HP3 := Lib.hid hP3
      have HZ3 := Lib.hid ((hg3.block w.heap.size HLT.out HNE.out).trans HZ2.out)
      have HZL : Hid (w.heap.size < w3.heap.size) := Lib.hid (row_lt HZ3.out)
      clear hP3 hg3
      go_wp2_with fail
      refine (bool3_f _).mono ?_
      rintro e w9 ⟨rfl, hb9⟩
      have HZ9 := Lib.hid ((hb9.block w.heap.size HZL.out).trans HZ3.out)
      have HP9 := Lib.hid (HP3.out.kept (hb9.block g HP3.out.lt))
      have HW9 := Lib.hid (HW3.out.trans (Below.only hb9))
      have HV9 := Lib.hid (VB.bool3 w9 (w.heap.size + 1) w9.heap.size (f + 1) 0 (by omega) (by omega))
      have HR9 : Hid (r = .ok (.mk 1 0 ByteArray.empty [] []) j3 b3) := Lib.hid HR4.out
      have HLO : Hid (w.heap.size < w.heap.size + 1) := Lib.hid (Nat.lt_succ_self _)
      clear hb9
      obtain ⟨g0, g1, g2', g3, g4, e0, e1, e2, e3', e4⟩ := lit5 HZ9.out
      have HHL : Hid (w9.heap.size > w.heap.size) := Lib.hid (row_lt HZ9.out)
      have hhl := HHL.out
      go_wp2_with fail
      have hfin := lit_stored HZ9.out (.int .i64 1) (.int .i64 0) (.string ByteArray.empty) (.slice none 0 0) (.slice none 0 0)
      refine bodyPost_ret (v := .agg #[.int .i64 1, .int .i64 0, .string ByteArray.empty, .slice none 0 0, .slice none 0 0]) (results_cell_row Tryz.results26 _ _ w.heap.size 25 _ (0, 0) _ rfl hfin Tryz.underlying25 rfl (by kernel_rfl)) rfl ?_
      exact value_end hgw HLO.out HV9.out HP9.out HW9.out HR9
  have n3 := hnot 102 h3
  by_cases h4 : c = 34
  · subst h4
    clear hnot
    · skip
      have HR4 : Hid (r = (M.lit s j b').then fun x j b => .ok (.mk 3 0 x [] []) j b) := Lib.hid (by rw [HR3.out]; rfl)
      go_wp2_with fail
      refine (lit_any HP2.out HJ.out).mono ?_
      rintro e w3 ⟨hg3, hm⟩
      obtain ⟨q, hq⟩ : ∃ q, q = M.lit s j b' := ⟨_, rfl⟩
      rw [← hq] at hm HR4
      rcases q with ⟨x, j3, b3⟩ | ⟨kk, er⟩
      rotate_left
      · subst hm
        exact ⟨rfl, Ends.fault (HG2.out.trans hg3) (by rw [HR4.out]; rfl)⟩
      obtain ⟨v, rfl, hP3, rfl⟩ := hm
      have HB := Lib.hid (M.lit_size hq)
      have HW3 := Lib.hid (HG2.out.trans hg3)
      have HP3 := Lib.hid hP3
      have HZ3 := Lib.hid ((hg3.block w.heap.size HLT.out HNE.out).trans HZ2.out)
      have HZL : Hid (w.heap.size < w3.heap.size) := Lib.hid (row_lt HZ3.out)
      clear hP3 hg3 hq
      go_wp2_with fail
      refine (text_any x _).mono ?_
      rintro e w9 ⟨rfl, hb9⟩
      have HZ9 := Lib.hid ((hb9.block w.heap.size HZL.out).trans HZ3.out)
      have HP9 := Lib.hid (HP3.out.kept (hb9.block g HP3.out.lt))
      have HW9 := Lib.hid (HW3.out.trans (Below.only hb9))
      have HV9 := Lib.hid (VB.text w9 (w.heap.size + 1) w9.heap.size (f + 1) x (by have := HB.out; omega))
      have HR9 : Hid (r = .ok (.mk 3 0 x [] []) j3 b3) := Lib.hid HR4.out
      have HLO : Hid (w.heap.size < w.heap.size + 1) := Lib.hid (Nat.lt_succ_self _)
      clear hb9
      obtain ⟨g0, g1, g2', g3, g4, e0, e1, e2, e3', e4⟩ := lit5 HZ9.out
      have HHL : Hid (w9.heap.size > w.heap.size) := Lib.hid (row_lt HZ9.out)
      have hhl := HHL.out
      go_wp2_with fail
      have hfin := lit_stored HZ9.out (.int .i64 3) (.int .i64 0) (.string x) (.slice none 0 0) (.slice none 0 0)
      refine bodyPost_ret (v := .agg #[.int .i64 3, .int .i64 0, .string x, .slice none 0 0, .slice none 0 0]) (results_cell_row Tryz.results26 _ _ w.heap.size 25 _ (0, 0) _ rfl hfin Tryz.underlying25 rfl (by kernel_rfl)) rfl ?_
      exact value_end hgw HLO.out HV9.out HP9.out HW9.out HR9
  have n4 := hnot 34 h4
  by_cases h5 : c = 91
  · subst h5
    clear hnot
    · skip
      go_wp2_with fail
      refine (plist_any ih hst HDE.out HF.out HP2.out HD2.out h8).mono ?_
      rintro e w9 ⟨hg9, hm⟩
      obtain ⟨q, hq⟩ : ∃ q, q = M.plist s (M.pv f s) j b' := ⟨_, rfl⟩
      rw [← hq] at hm
      have HR4 : Hid (r = q) := Lib.hid (by rw [HR3.out, hq]; rfl)
      clear hq
      rcases q with ⟨t, j3, b3⟩ | ⟨kk, er⟩
      rotate_left
      · subst hm
        exact ⟨rfl, Ends.fault (HG2.out.trans hg9) HR4.out⟩
      obtain ⟨v, rfl, hP9, hv9⟩ := hm
      have hv9 : VB w9 w2.heap.size w9.heap.size (f + 2) v t := hv9
      obtain ⟨A3, n3, c3, B3, p3, e3, rfl⟩ := hv9.agg
      have HZ9 := Lib.hid ((hg9.block w.heap.size HLT.out HNE.out).trans HZ2.out)
      have HP9 := Lib.hid hP9
      have HW9 := Lib.hid (HG2.out.trans hg9)
      have HV9 := Lib.hid hv9
      have HR9 := HR4
      have HLO : Hid (w.heap.size < w2.heap.size) := Lib.hid HLT.out
      clear hP9 hg9 hv9
      obtain ⟨g0, g1, g2', g3, g4, e0, e1, e2, e3', e4⟩ := lit5 HZ9.out
      have HHL : Hid (w9.heap.size > w.heap.size) := Lib.hid (row_lt HZ9.out)
      have hhl := HHL.out
      go_wp2_with fail
      have hfin := lit_stored HZ9.out (.int .i64 t.k) (.int .i64 t.n) (.string t.s) (.slice A3 n3 c3) (.slice B3 p3 e3)
      refine bodyPost_ret (v := .agg #[.int .i64 t.k, .int .i64 t.n, .string t.s, .slice A3 n3 c3, .slice B3 p3 e3]) (results_cell_row Tryz.results26 _ _ w.heap.size 25 _ (0, 0) _ rfl hfin Tryz.underlying25 rfl (by kernel_rfl)) rfl ?_
      exact value_end hgw HLO.out HV9.out HP9.out HW9.out HR9
  have n5 := hnot 91 h5
  by_cases h6 : c = 123
  · subst h6
    clear hnot
    · skip
      go_wp2_with fail
      refine (hpa g j b' s _ w2 HDE.out HP2.out HD2.out h8).mono ?_
      rintro e w9 ⟨hg9, hm⟩
      obtain ⟨q, hq⟩ : ∃ q, q = M.ppairs s (M.pv f s) j b' := ⟨_, rfl⟩
      rw [← hq] at hm
      have HR4 : Hid (r = q) := Lib.hid (by rw [HR3.out, hq]; rfl)
      clear hq
      rcases q with ⟨t, j3, b3⟩ | ⟨kk, er⟩
      rotate_left
      · subst hm
        exact ⟨rfl, Ends.fault (HG2.out.trans hg9) HR4.out⟩
      obtain ⟨v, rfl, hP9, hv9⟩ := hm
      have hv9 : VB w9 w2.heap.size w9.heap.size (f + 2) v t := hv9
      obtain ⟨A3, n3, c3, B3, p3, e3, rfl⟩ := hv9.agg
      have HZ9 := Lib.hid ((hg9.block w.heap.size HLT.out HNE.out).trans HZ2.out)
      have HP9 := Lib.hid hP9
      have HW9 := Lib.hid (HG2.out.trans hg9)
      have HV9 := Lib.hid hv9
      have HR9 := HR4
      have HLO : Hid (w.heap.size < w2.heap.size) := Lib.hid HLT.out
      clear hP9 hg9 hv9
      obtain ⟨g0, g1, g2', g3, g4, e0, e1, e2, e3', e4⟩ := lit5 HZ9.out
      have HHL : Hid (w9.heap.size > w.heap.size) := Lib.hid (row_lt HZ9.out)
      have hhl := HHL.out
      go_wp2_with fail
      have hfin := lit_stored HZ9.out (.int .i64 t.k) (.int .i64 t.n) (.string t.s) (.slice A3 n3 c3) (.slice B3 p3 e3)
      refine bodyPost_ret (v := .agg #[.int .i64 t.k, .int .i64 t.n, .string t.s, .slice A3 n3 c3, .slice B3 p3 e3]) (results_cell_row Tryz.results26 _ _ w.heap.size 25 _ (0, 0) _ rfl hfin Tryz.underlying25 rfl (by kernel_rfl)) rfl ?_
      exact value_end hgw HLO.out HV9.out HP9.out HW9.out HR9
  have n6 := hnot 123 h6
  · clear hnot
    · skip
      have HR4 : Hid (r = (M.int s c j b').then fun x j b => .ok (.mk 2 x ByteArray.empty [] []) j b) := Lib.hid (by rw [HR3.out]; unfold M.pbody; rw [if_neg h1, if_neg h2, if_neg h3, if_neg h4, if_neg h5, if_neg h6])
      go_wp2_with fail
      refine (intg_any c HP2.out HJ.out hc HD2.out h8).mono ?_
      rintro e w3 ⟨hg3, hm⟩
      obtain ⟨q, hq⟩ : ∃ q, q = M.int s c j b' := ⟨_, rfl⟩
      rw [← hq] at hm HR4
      rcases q with ⟨x, j3, b3⟩ | ⟨kk, er⟩
      rotate_left
      · subst hm
        exact ⟨rfl, Ends.fault (HG2.out.trans hg3) (by rw [HR4.out]; rfl)⟩
      obtain ⟨v, rfl, hP3, rfl⟩ := hm
      have HB := Lib.hid (M.int_range hq)
      have HW3 := Lib.hid (HG2.out.trans hg3)
      have HP3 := Lib.hid hP3
      have HZ3 := Lib.hid ((hg3.block w.heap.size HLT.out HNE.out).trans HZ2.out)
      have HZL : Hid (w.heap.size < w3.heap.size) := Lib.hid (row_lt HZ3.out)
      clear hP3 hg3 hq
      go_wp2_with fail
      refine (int_any x _).mono ?_
      rintro e w9 ⟨rfl, hb9⟩
      have HZ9 := Lib.hid ((hb9.block w.heap.size HZL.out).trans HZ3.out)
      have HP9 := Lib.hid (HP3.out.kept (hb9.block g HP3.out.lt))
      have HW9 := Lib.hid (HW3.out.trans (Below.only hb9))
      have HV9 := Lib.hid (VB.int w9 (w.heap.size + 1) w9.heap.size (f + 1) x HB.out.1 HB.out.2)
      have HR9 : Hid (r = .ok (.mk 2 x ByteArray.empty [] []) j3 b3) := Lib.hid HR4.out
      have HLO : Hid (w.heap.size < w.heap.size + 1) := Lib.hid (Nat.lt_succ_self _)
      clear hb9
      obtain ⟨g0, g1, g2', g3, g4, e0, e1, e2, e3', e4⟩ := lit5 HZ9.out
      have HHL : Hid (w9.heap.size > w.heap.size) := Lib.hid (row_lt HZ9.out)
      have hhl := HHL.out
      go_wp2_with fail
      have hfin := lit_stored HZ9.out (.int .i64 2) (.int .i64 x) (.string ByteArray.empty) (.slice none 0 0) (.slice none 0 0)
      refine bodyPost_ret (v := .agg #[.int .i64 2, .int .i64 x, .string ByteArray.empty, .slice none 0 0, .slice none 0 0]) (results_cell_row Tryz.results26 _ _ w.heap.size 25 _ (0, 0) _ rfl hfin Tryz.underlying25 rfl (by kernel_rfl)) rfl ?_
      exact value_end hgw HLO.out HV9.out HP9.out HW9.out HR9
end Go.Proofs.YtdkggnciamfcmaaGreatDoor
