/-
  Layer 3: the code's parser: lists.
-/
import Derived.Test.YtdkggnciamfcmaaGreatDoorTCodD
import Derived.Test.YtdkggnciamfcmaaGreatDoorTCodE
import Derived.Test.YtdkggnciamfcmaaGreatDoorTRow
import Derived.Deep.RegionLaw
namespace Go.Proofs.YtdkggnciamfcmaaGreatDoor
set_option linter.unusedVariables false
open Go.RowKit
open M (V Res)

namespace M
/-- The items of a list: at most k of them. -/
def pl (s : ByteArray) (p : Nat → Nat → Res V) : Nat → List V → Bool → Nat → Nat → Res (List V)
  | _, acc, false, i, b => .ok acc i b
  | 0, _, true, i, _ => .no i 4
  | k + 1, acc, true, i, b => (p i b).then fun t j b => (next s 93 j b).then fun m j b => pl s p k (acc ++ [t]) m j b
def plist (s : ByteArray) (p : Nat → Nat → Res V) (i b : Nat) : Res V := (first s 93 i b).then fun m j b => (pl s p (s.size + 1 - j) [] m j b).then fun l j b => .ok (.mk 4 0 ByteArray.empty l []) j b
theorem next_inv {s : ByteArray} {c i b j b' : Nat} {m : Bool} (hi : i ≤ s.size) (h : Res.ok m j b' = next s c i b) : i < j ∧ j ≤ s.size ∧ b' = b := by
  unfold next at h
  obtain ⟨q, hq⟩ : ∃ q, q = vis s i b := ⟨_, rfl⟩
  rw [← hq] at h
  cases q with
  | no k e => cases h
  | ok d k b2 =>
    obtain ⟨h1, h2, h3, h4⟩ := vis_inv hq
    have h5 := skip_le hi
    rw [Res.then_ok] at h
    split at h
    · injection h with e1 e2 e3; omega
    · split at h
      · injection h with e1 e2 e3; omega
      · cases h
theorem first_inv {s : ByteArray} {c i b j b' : Nat} {m : Bool} (hi : i ≤ s.size) (h : Res.ok m j b' = first s c i b) : i ≤ j ∧ j ≤ s.size ∧ b' = b := by
  unfold first at h
  obtain ⟨q, hq⟩ : ∃ q, q = vis s i b := ⟨_, rfl⟩
  rw [← hq] at h
  cases q with
  | no k e => cases h
  | ok d k b2 =>
    obtain ⟨h1, h2, h3, h4⟩ := vis_inv hq
    have h5 := skip_le hi
    rw [Res.then_ok] at h
    split at h
    · injection h with e1 e2 e3; omega
    · injection h with e1 e2 e3; omega
end M

set_option maxHeartbeats 400000 in
theorem copy0_any (w : World) : Calls Tryz.prog 97 #[.slice none 0 0] w fun e w' => e = .returned (.slice none 0 0) ∧ w' = w := by
  go_enter Tryz.func97, Tryz.ntmps97
  go_wp2_with fail
  go_ret
  exact ⟨rfl, rfl⟩
set_option maxHeartbeats 400000 in
theorem vlist0_any (w : World) :
    Calls Tryz.prog 77 #[.slice none 0 0] w fun e w' => e = .returned (.agg #[.int .i64 4, .int .i64 0, .string ByteArray.empty, .slice none 0 0, .slice none 0 0]) ∧ Below w.heap.size w w' := by
  go_enter Tryz.func77, Tryz.ntmps77
  go_wp2_with fail
  refine (copy0_any _).mono ?_
  rintro e w1 ⟨rfl, rfl⟩
  go_wp2_with fail
  exact bodyPost_ret (v := .agg #[.int .i64 4, .int .i64 0, .string ByteArray.empty, .slice none 0 0, .slice none 0 0]) (by simp [results, Tryz.results77, go_sem]; rfl) rfl ⟨rfl, (Below.refl _ _).alloc (Nat.le_refl _) _⟩

/-- A value that lies in what has been made. -/
def isVal (d n : Nat) (t : V) (v : Value) (w' : World) : Prop := VB w' n w'.heap.size d v t
def parseAt (f : Nat) (pv : ByteArray → Nat → Nat → Res V) : Prop := ∀ (g i b : Nat) (s : ByteArray) (depth : Int) (w : World), depth = 17 - (f : Int) → Prs w g s i b → Doors w → 7 < g →
  Calls Tryz.prog 26 #[.pointer (some ⟨g, 0, none⟩), .int .i64 depth] w (Ends g s (isVal (f + 1) w.heap.size) (pv s i b) w)
def stepsOn (pv : ByteArray → Nat → Nat → Res V) : Prop := ∀ (s : ByteArray) (i b j b' : Nat) (t : V), i ≤ s.size → Res.ok t j b' = pv s i b → i < j ∧ j ≤ s.size ∧ b < b'

theorem plist_endW {w wr W : World} {g d j bj c e : Nat} {s : ByteArray} {its : List V} {A B : Option Addr} {n M : Nat} {r : Res V} (hg : g < w.heap.size) (hM : w.heap.size < M)
    (hI : IS wr (M + 1) wr.heap.size (VB wr (M + 1) wr.heap.size d) A n c its) (hK : KS wr (M + 1) wr.heap.size B 0 e []) (hP : Prs wr g s j bj) (hG : w.grownBy wr (some g)) (hh : M + 1 ≤ wr.heap.size) (hr : Hid (r = .ok (.mk 4 0 ByteArray.empty its []) j bj))
    (hoth : ∀ k, k ≠ w.heap.size → W.heap[k]? = wr.heap[k]?) (hs : W.heap.size = wr.heap.size) (ho : W.os = wr.os) (ht : W.tape = wr.tape) (hu : W.output = wr.output) :
    Ends g s (isVal (d + 1) w.heap.size) r w (.returned (.agg #[.int .i64 4, .int .i64 0, .string ByteArray.empty, .slice A n c, .slice B 0 e])) W := by
  have hko : Kept (M + 1) wr.heap.size wr W := fun b x1 x2 => hoth b (by omega)
  have hgr : w.grownBy W (some g) := ⟨ho.trans hG.os, ht.trans hG.tape, hu.trans hG.output, by rw [hs]; exact hG.size, fun k h1 h2 => (hoth k (by omega)).trans (hG.block k h1 h2)⟩
  have hp : Prs W g s j bj := hP.kept (hoth g (by omega))
  have hv : isVal (d + 1) w.heap.size (.mk 4 0 ByteArray.empty its []) (.agg #[.int .i64 4, .int .i64 0, .string ByteArray.empty, .slice A n c, .slice B 0 e]) W := by
    refine ⟨A, n, c, B, 0, e, rfl, by simp [V.k], by simp [V.k], by simp [V.n], by simp [V.n], by simp [V.s], ?_, ?_⟩
    · have hx := hG.size
      exact (IS.kept hI hko (fun v t r => r.kept hko)).weak (by omega) (by rw [hs]; omega) (fun v t r => r.weak (by omega) (by rw [hs]; omega))
    · have hx := hG.size
      exact (hK.kept hko).weak (by omega) (by rw [hs]; omega)
  exact Ends.good hgr hp hv hr.out
theorem stored_rest (w : World) (g : Nat) (a b c d e : Value) : (stored w g a b c d e).os = w.os ∧ (stored w g a b c d e).tape = w.tape ∧ (stored w g a b c d e).output = w.output :=
  let h := stored_below (Below.refl g w) (Nat.le_refl g) a b c d e
  ⟨h.os, h.tape, h.output⟩

set_option maxRecDepth 100000 in
set_option maxHeartbeats 4000000 in
theorem plist_any {f : Nat} {pv : ByteArray → Nat → Nat → Res V} (ih : parseAt f pv) (hst : stepsOn pv) {g i b : Nat} {s : ByteArray} {depth : Int} {w : World} (hd : depth = 16 - (f : Int)) (hf : f ≤ 16) (h : Prs w g s i b) (hD : Doors w) (h8 : 7 < g) :
    Calls Tryz.prog 48 #[.pointer (some ⟨g, 0, none⟩), .int .i64 depth] w (Ends g s (isVal (f + 2) w.heap.size) (M.plist s (pv s) i b) w) := by
  obtain ⟨r, hr⟩ : ∃ r, r = M.plist s (pv s) i b := ⟨_, rfl⟩
  rw [← hr]
  have HR := Lib.hid hr
  clear hr
  have IH := Lib.hid ih
  have ST := Lib.hid hst
  have hq : IntKind.i64.wrap (depth + 1) = depth + 1 := IntWalk.i64_in _ (by omega)
  have HDE := Lib.hid hd
  have hgw := h.lt
  have hfit := h.fit
  have HP0 := Lib.hid h
  have HDR := Lib.hid hD
  clear ih hst hd h hD
  go_enter Tryz.func48, Tryz.ntmps48
  go_wp2_with fail
  refine (vlist0_any _).mono ?_
  rintro e w1 ⟨rfl, hb1⟩
  have hb1' : Below (w.heap.size + 1) (w.alloc (.cells #[.int .i64 0, .int .i64 0, .string ByteArray.empty, .slice none 0 0, .slice none 0 0] 25)) w1 := hb1.mono (by simp)
  have hz1 := hb1'.size
  simp only [World.size_alloc] at hz1
  have hZ1 : w1.heap[w.heap.size]? = some (.cells #[.int .i64 0, .int .i64 0, .string ByteArray.empty, .slice none 0 0, .slice none 0 0] 25 (0, 0)) := (hb1'.block w.heap.size (by omega)).trans (heap_alloc_new _ _)
  have hg1 : w.grownBy w1 (some g) := ⟨hb1'.os, hb1'.tape, hb1'.output, by omega, fun k h1 _ => (hb1'.block k (by omega)).trans (Below.heap_alloc _ _ _ (by omega))⟩
  have hg2 : w.grownBy (w1.alloc (.cells #[.int .i64 4, .int .i64 0, .string ByteArray.empty, .slice none 0 0, .slice none 0 0] 25)) (some g) := hg1.trans (World.grownBy_alloc w1 _ (some g))
  have hP1 : Prs (w1.alloc (.cells #[.int .i64 4, .int .i64 0, .string ByteArray.empty, .slice none 0 0, .slice none 0 0] 25)) g s i b := HP0.out.kept ((Below.heap_alloc _ _ _ (by omega)).trans ((hb1'.block g (by omega)).trans (Below.heap_alloc _ _ _ (by omega))))
  have hM2 : (w1.alloc (.cells #[.int .i64 4, .int .i64 0, .string ByteArray.empty, .slice none 0 0, .slice none 0 0] 25)).heap[w1.heap.size]? = some (.cells #[.int .i64 4, .int .i64 0, .string ByteArray.empty, .slice none 0 0, .slice none 0 0] 25 (0, 0)) := heap_alloc_new _ _
  have hZ2 : (w1.alloc (.cells #[.int .i64 4, .int .i64 0, .string ByteArray.empty, .slice none 0 0, .slice none 0 0] 25)).heap[w.heap.size]? = some (.cells #[.int .i64 0, .int .i64 0, .string ByteArray.empty, .slice none 0 0, .slice none 0 0] 25 (0, 0)) := (Below.heap_alloc _ _ _ (by omega)).trans hZ1
  have hz2 : (w1.alloc (.cells #[.int .i64 4, .int .i64 0, .string ByteArray.empty, .slice none 0 0, .slice none 0 0] 25)).heap.size = w1.heap.size + 1 := World.size_alloc _ _
  clear hb1 hb1' hZ1 hg1 HP0
  go_wp2_with fail
  refine (first_any 93 hP1).mono ?_
  rintro e w2 ⟨hg3, hm⟩
  obtain ⟨q, hq⟩ : ∃ q, q = M.first s 93 i b := ⟨_, rfl⟩
  rw [← hq] at hm
  have HR2 : Hid (r = q.then fun m j b => (M.pl s (pv s) (s.size + 1 - j) [] m j b).then fun l j b => .ok (.mk 4 0 ByteArray.empty l []) j b) := Lib.hid (by rw [HR.out, hq]; rfl)
  rcases q with ⟨mo, j0, b0⟩ | ⟨kk, er⟩
  rotate_left
  · subst hm
    exact ⟨rfl, Ends.fault (hg2.trans hg3) (by rw [HR2.out]; rfl)⟩
  obtain ⟨v, rfl, hP2, rfl⟩ := hm
  obtain ⟨q1, q2, q3⟩ := M.first_inv hP1.le hq
  obtain ⟨R, hRd⟩ : ∃ R, R = M.pl s (pv s) (s.size + 1 - j0) [] mo j0 b0 := ⟨_, rfl⟩
  have HR3 : Hid (r = R.then fun l j b => .ok (.mk 4 0 ByteArray.empty l []) j b) := Lib.hid (by rw [HR2.out, hRd]; rfl)
  have HRD := Lib.hid hRd.symm
  have hz3 := hg3.size
  have HZ2 : Hid (w2.heap[w.heap.size]? = some (.cells #[.int .i64 0, .int .i64 0, .string ByteArray.empty, .slice none 0 0, .slice none 0 0] 25 (0, 0))) := Lib.hid ((hg3.block w.heap.size (by omega) (fun e => by injection e; omega)).trans hZ2)
  have hM3 : w2.heap[w1.heap.size]? = some (.cells #[.int .i64 4, .int .i64 0, .string ByteArray.empty, .slice none 0 0, .slice none 0 0] 25 (0, 0)) := (hg3.block w1.heap.size (by omega) (fun e => by injection e; omega)).trans hM2
  have HGR : Hid (Grw w2 (w1.heap.size + 1) w1.heap.size (f + 1) (.int .i64 4) (.int .i64 0) (.string ByteArray.empty) (.slice none 0 0) (.slice none 0 0) [] [] [] 25) := Lib.hid (Grw.start hM3 (by omega) (by omega))
  have HP2 := Lib.hid hP2
  have HG2 := Lib.hid (hg2.trans hg3)
  obtain ⟨N, hN⟩ : ∃ N, N = w1.heap.size := ⟨_, rfl⟩
  rw [← hN] at HGR
  have hNz : w.heap.size < N := by omega
  clear hg2 hP1 hM2 hZ2 hz2 hg3 hq hP2 q3 hRd hM3 hz3 HR HR2
  go_wp2_with fail
  rw [← hN]
  clear hN hz1
  go_loopw [6] (fun mv wr => ∃ (mo : Bool) (fu j bj : Nat) (vI vK : Value) (cI : List Value) (its : List V), mv = .bool mo ∧ Hid (Grw wr (N + 1) N (f + 1) (.int .i64 4) (.int .i64 0) (.string ByteArray.empty) vI vK cI [] its 25) ∧
      Hid (wr.heap[w.heap.size]? = some (.cells #[.int .i64 0, .int .i64 0, .string ByteArray.empty, .slice none 0 0, .slice none 0 0] 25 (0, 0))) ∧ Hid (Prs wr g s j bj) ∧ Hid (w.grownBy wr (some g)) ∧ Hid (M.pl s (pv s) fu its mo j bj = R) ∧ s.size + 1 ≤ fu + j ∧ Hid (its.length ≤ bj)) (fun _ wr => s.size - atOf wr g)
  case atStart => exact ⟨mo, s.size + 1 - j0, j0, b0, _, _, [], [], rfl, HGR, HZ2, HP2, HG2, HRD, by omega, Lib.hid (Nat.zero_le _)⟩
  case round =>
    clear HGR HZ2 HP2 HG2 HRD
    obtain ⟨mo, fu, j, bj, vI, vK, cI, its, rfl, HG, HZ, HP, HW, HE, hfu, HL⟩ := hrel
    have hhi := HG.out.high
    have hjs := HP.out.le
    have HAT := Lib.hid (atOf_eq HP.out)
    have hhlt : wr.heap.size > N := by omega
    have hhlz : wr.heap.size > w.heap.size := by omega
    obtain ⟨m0, m1, m2, m3, m4, -⟩ := lit5 HG.out.box
    cases mo with
    | false =>
      have HE' : Hid (r = .ok (.mk 4 0 ByteArray.empty its []) j bj) := Lib.hid (by rw [HR3.out, ← HE.out]; cases fu <;> rfl)
      have HLEN : Hid (its.length ≤ 1000) := Lib.hid (by have := HL.out; have := HP.out.cnt; omega)
      clear HE m0 m1 m2 m3 m4
      obtain ⟨A7, c7, B7, e7, rfl, rfl, his, hks⟩ := HG.out.done (by have := HLEN.out; omega) (by simp) (fun j hj => absurd hj (by simp))
      obtain ⟨m0, m1, m2, m3, m4, -⟩ := lit5 HG.out.box
      obtain ⟨g0, g1, g2', g3, g4, e0, e1, e2, e3, e4⟩ := lit5 HZ.out
      have HIS := Lib.hid his; have HKS := Lib.hid hks
      clear his hks HL
      go_wp2_with fail
      have hfin := lit_stored HZ.out (.int .i64 4) (.int .i64 0) (.string ByteArray.empty) (.slice A7 (its).length c7) (.slice B7 0 e7)
      refine bodyPost_ret (v := .agg #[.int .i64 4, .int .i64 0, .string ByteArray.empty, .slice A7 (its).length c7, .slice B7 0 e7]) (results_cell_row Tryz.results48 _ _ w.heap.size 25 _ (0, 0) _ rfl hfin Tryz.underlying25 rfl (by kernel_rfl)) rfl ?_
      exact plist_endW (d := f + 1) hgw hNz HIS.out HKS.out HP.out HW.out HG.out.high HE' (fun k hk => stored_other wr w.heap.size k _ _ _ _ _ hk) (stored_size wr _ _ _ _ _ _) (stored_rest wr _ _ _ _ _ _).1 (stored_rest wr _ _ _ _ _ _).2.1 (stored_rest wr _ _ _ _ _ _).2.2
    | true =>
      obtain ⟨fu, rfl⟩ : ∃ k, fu = k + 1 := ⟨fu - 1, by omega⟩
      have hcall : Calls Tryz.prog 26 #[.pointer (some ⟨g, 0, none⟩), .int .i64 (depth + 1)] wr.drew (Ends g s (isVal (f + 1) wr.drew.heap.size) (pv s j bj) wr.drew) :=
        IH.out g j bj s (depth + 1) wr.drew (by have := HDE.out; omega) (HP.out.kept rfl) (HDR.out.grown (HW.out.trans (grown_drewN wr 1 _)) h8) h8
      obtain ⟨q, hq⟩ : ∃ q, q = pv s j bj := ⟨_, rfl⟩
      rw [← hq] at hcall
      have HE2 : Hid (R = (q.then fun t j b => (M.next s 93 j b).then fun m j b => M.pl s (pv s) fu (its ++ [t]) m j b)) := Lib.hid (by rw [← HE.out, hq]; rfl)
      have HSO : Hid (∀ t j' b', q = .ok t j' b' → j < j' ∧ j' ≤ s.size ∧ bj < b') := Lib.hid (fun t j' b' e => ST.out s j bj j' b' t hjs (e.symm.trans hq))
      have HC := Lib.hid hcall
      clear hcall hq HE
      go_wp2_with fail
      go_region_law (first
        | (refine step_push_val rfl (.tmp 14) (.tmp 19) rfl (N + 1) its.length w5.heap.size vI cI t.k t.n t.s _ _ _ _ _ _ _ _ ?_ ?_ ?_ (Array.getElem?_push_size ..) ?_ ?_ ?_
           · simp [Act.eval]
           · exact (HG5.out.ov).alloc _
           · simp [Act.eval]
           · have := HL.out; have := HP.out.cnt; omega
           · simp; omega
           intro g2 cap2 wn hn1 hn2 hn3 hn4
           obtain ⟨hn5, hn6⟩ := field_after (f := 3) HG5.out.box rfl (grown_alloc w5 _) hn2 HG5.out.ne1)
        | (go_simp; go_at_call 26
           refine HC.out.mono ?_
           rintro e w5 ⟨hg5, hm⟩
           have hgw5 : wr.grownBy w5 (some g) := ⟨hg5.os, hg5.tape, hg5.output, hg5.size, hg5.block⟩
           rcases q with ⟨t, j2, b2⟩ | ⟨kk, er⟩
           rotate_left
           · subst hm
             exact ⟨rfl, Ends.fault (HW.out.trans hgw5) (by rw [HR3.out, HE2.out]; rfl)⟩
           obtain ⟨v', rfl, hP5, hv'⟩ := hm
           have hv' : VB w5 wr.heap.size w5.heap.size (f + 1) v' t := hv'
           obtain ⟨A3, n3, c3, B3, p3, e3, rfl⟩ := hv'.agg
           have hFw : Frm wr.heap.size g 0 wr w5 := Frm.of_only hgw5
           have HG5 := Lib.hid (HG.out.frm hFw (by omega) (by omega))
           have HF5 := Lib.hid hFw
           have hz5 := hgw5.size
           have HV5 := Lib.hid hv'
           have HP5 := Lib.hid hP5
           have HW5 := Lib.hid (HW.out.trans hgw5)
           have HZ5 : Hid (w5.heap[w.heap.size]? = _) := Lib.hid ((hgw5.block w.heap.size (by omega) (fun e => by injection e; omega)).trans HZ.out)
           have hms3 : w5.heap.size > N := by omega
           obtain ⟨n0, n1, n2, n3', n4, -⟩ := lit5 HG5.out.box
           clear hv' hP5 hg5 hgw5 hFw))
      all_goals (
        have hn3' : vI.ownBlock = some g2 ∨ w5.heap.size + 1 ≤ g2 := hn3.imp id (fun h => by simpa using h)
        obtain ⟨p1, p2, p3'⟩ := push_frame (l := g) (B := 0) (M := N) (base := N + 1) (f := 3) (u := .slice (some ⟨g2, 0, none⟩) (its.length + 1) cap2) (by omega) (by omega) hn2 (fun k hk => (HG5.out.ov.lt _ hk).1)
        have HG6 := Lib.hid (HG.out.item HF5.out (by omega) (by omega) HV5.out hn1 hn2 hn3')
        have HP6 := Lib.hid (HP5.out.kept (p1 g (by omega) (by omega)))
        have HZ6 := Lib.hid ((p1 w.heap.size (by omega) (by omega)).trans HZ5.out)
        have HW6 : Hid (w.grownBy _ (some g)) := Lib.hid ⟨p2.os.trans HW5.out.os, p2.tape.trans HW5.out.tape, p2.output.trans HW5.out.output, Nat.le_trans HW5.out.size p2.size, fun k h1 h2 => (p1 k (by omega) (by omega)).trans (HW5.out.block k h1 h2)⟩
        clear hn1 hn2 hn3 hn3' hn4 hn5 hn6 p1 p2 p3' m0 m1 m2 m3 m4 n0 n1 n2 n3' n4 HG HZ HP HW HG5 HP5 HV5 HF5 HZ5 HW5 HC hms3 hz5
        generalize (wn.setCell ⟨N, 3, none⟩ _) = wf at *
        obtain ⟨s1, s2, s3⟩ := HSO.out _ _ _ rfl
        have HSZ := Lib.hid (And.intro s1 s3)
        have HE3 : Hid (R = (M.next s 93 j2 b2).then fun m j b => M.pl s (pv s) fu (its ++ [t]) m j b) := Lib.hid HE2.out
        clear HSO s1 s3 HE2
        go_wp2_with fail
        refine (next_any 93 HP6.out).mono ?_
        rintro e w7 ⟨hg7, hm⟩
        obtain ⟨q, hq⟩ : ∃ q, q = M.next s 93 j2 b2 := ⟨_, rfl⟩
        rw [← hq] at hm HE3
        rcases q with ⟨mo2, j3, b3⟩ | ⟨kk, er⟩
        rotate_left
        · subst hm
          exact ⟨rfl, Ends.fault (HW6.out.trans hg7) (by rw [HR3.out, HE3.out]; rfl)⟩
        obtain ⟨v, rfl, hP7, rfl⟩ := hm
        obtain ⟨r1, r2, r3⟩ := M.next_inv s2 hq
        have HP7 := Lib.hid hP7
        have HW7 := Lib.hid (HW6.out.trans hg7)
        have hF7 : Frm wf.heap.size g 0 wf w7 := Frm.of_only hg7
        have hzf := HG6.out.high
        have HG7 := Lib.hid (HG6.out.frm hF7 (by omega) (by omega))
        have HZ7 := Lib.hid ((hg7.block w.heap.size (by omega) (fun e => by injection e; omega)).trans HZ6.out)
        have HE4 : Hid (M.pl s (pv s) fu (its ++ [t]) mo2 j3 b3 = R) := Lib.hid HE3.out.symm
        have hms : s.size - j3 < s.size - j := by have := HSZ.out.1; omega
        have HMS := Lib.hid hms
        have HAT7 := Lib.hid (atOf_eq hP7)
        have hfu2 : s.size + 1 ≤ fu + j3 := by have := HSZ.out.1; omega
        have HL2 : Hid ((its ++ [t]).length ≤ b3) := Lib.hid (by rw [List.length_append, List.length_singleton]; have := HSZ.out.2; have := HL.out; omega)
        clear hP7 hg7 hF7 hq r1 r2 r3 hms HG6 HP6 HZ6 HW6 HE3
        go_wp2_with fail
        exact ⟨⟨mo2, fu, j3, b3, _, _, _, its ++ [t], rfl, HG7, HZ7, HP7, HW7, HE4, hfu2, HL2⟩, by rw [HAT7.out, HAT.out]; exact HMS.out⟩)
end Go.Proofs.YtdkggnciamfcmaaGreatDoor
