/-
  Several texts in one: TIns TCpy TInsB TInsC TInsD TInsE TRowB TFwd TKey TCodS TCodX TCodR TCodY TLit TLawA TTie TLoc TLawB.
-/
import Derived.Test.YtdkggnciamfcmaaGreatDoorTRow
import Derived.Laws.CopyRow
import Derived.Laws.CopyOwn
import Derived.Lib.Overlaps
import Derived.Laws.Externs
import Derived.Lib.AppendZerosOnto
import Derived.Lib.AppendZeros
import Derived.Test.YtdkggnciamfcmaaGreatDoorTCodG
import Derived.Test.YtdkggnciamfcmaaGreatDoorTCodH
import Derived.Test.YtdkggnciamfcmaaGreatDoorTCodW
import Derived.Test.YtdkggnciamfcmaaGreatDoorTCodQ
import Derived.Test.YtdkggnciamfcmaaGreatDoorTPrn
import Derived.Test.YtdkggnciamfcmaaGreatDoorTCodC
import Derived.Test.YtdkggnciamfcmaaGreatDoorRows
import Derived.Stop.LaidErr
import Derived.Lib.LaidTab
import Derived.LaidMore
import Derived.MakeChecks
namespace Go.Proofs.YtdkggnciamfcmaaGreatDoor
set_option linter.unusedVariables false
open Go.RowKit
open M (V)

/-- What an insertion leaves. -/
def Insd (base : Nat) (e : TypeId) (sz : Nat) (v : Value) (n : Nat) (ys : List Value) (w : World) (r : Ending) (w' : World) : Prop := ∃ g1 cap, r = .returned (.slice (some ⟨g1, 0, none⟩) (n + 1) cap) ∧ w'.ownsRow base e sz (.slice (some ⟨g1, 0, none⟩) (n + 1) cap) (n + 1) ys ∧ w.grownBy w' v.ownBlock ∧ (v.ownBlock = some g1 ∨ w.heap.size ≤ g1) ∧ g1 < w'.heap.size

set_option maxRecDepth 100000 in
set_option maxHeartbeats 2000000 in
theorem insv_end {base n g : Nat} {v : Value} {xs : List Value} {w : World} {k i : Int} {t : ByteArray} {A B : Option Addr} {m c p e : Nat} {T : TypeId} (hown : w.ownsRow base 25 5 v n xs)
    (hg : w.heap[g]? = some (.cells #[.int .i64 k, .int .i64 i, .string t, .slice A m c, .slice B p e] T (0, 0))) (hn : n ≤ 1000000) (hbase : base ≤ w.heap.size) :
    Calls Tryz.prog 82 #[v, .int .i64 (n : Int), .slice (some ⟨g, 0, none⟩) 1 1] w (Insd base 25 5 v n (xs ++ [.int .i64 k, .int .i64 i, .string t, .slice A m c, .slice B p e]) w) := by
  have HO := Lib.hid hown
  rcases hown.2 with ⟨rfl, rfl⟩ | ⟨g0, cap, cur, rfl, h1, h2, h3, h4, h5, h6⟩
  · clear hown
    go_enter Tryz.func82, Tryz.ntmps82
    go_wp2_with (at_builtin; refine wpList_push_val rfl (.tmp 23) (.tmp 24) rfl base 0 g _ xs k i t A B m c p e _ _ rfl HO.out rfl hg hn hbase ?_)
    intro g1 cp w1 ho hgr hr hlt
    go_wp2_with fail
    go_ret
    exact ⟨g1, cp, rfl, ho, hgr, hr, hlt⟩
  · have h4' : cap ≤ 9223372036854775807 := by unfold maxLen at h4; omega
    have hc : (n : Int) ≤ (cap : Int) := by omega
    clear hown h1 h2 h5 h6 h4
    go_enter Tryz.func82, Tryz.ntmps82
    go_wp2_with (at_builtin; refine wpList_push_val rfl (.tmp 23) (.tmp 24) rfl base n g _ xs k i t A B m c p e _ _ rfl HO.out rfl hg hn hbase ?_)
    all_goals (
      intro g1 cp w1 ho hgr hr hlt
      go_wp2_with fail
      go_ret
      exact ⟨g1, cp, rfl, ho, hgr, hr, hlt⟩)
set_option maxRecDepth 100000 in
set_option maxHeartbeats 2000000 in
theorem insk_end {base n g : Nat} {v : Value} {xs : List Value} {w : World} {k : ByteArray} {T : TypeId} (hown : w.ownsRow base 9 1 v n xs)
    (hg : w.heap[g]? = some (.cells #[.string k] T (0, 0))) (hn : n ≤ 1000000) (hbase : base ≤ w.heap.size) :
    Calls Tryz.prog 81 #[v, .int .i64 (n : Int), .slice (some ⟨g, 0, none⟩) 1 1] w (Insd base 9 1 v n (xs ++ [.string k]) w) := by
  have HO := Lib.hid hown
  rcases hown.2 with ⟨rfl, rfl⟩ | ⟨g0, cap, cur, rfl, h1, h2, h3, h4, h5, h6⟩
  · clear hown
    go_enter Tryz.func81, Tryz.ntmps81
    go_wp2_with (at_builtin; refine wpList_push_key rfl (.tmp 23) (.tmp 24) rfl base 0 g _ xs k _ _ rfl HO.out rfl hg hn hbase ?_)
    intro g1 cp w1 ho hgr hr hlt
    go_wp2_with fail
    go_ret
    exact ⟨g1, cp, rfl, ho, hgr, hr, hlt⟩
  · have h4' : cap ≤ 9223372036854775807 := by unfold maxLen at h4; omega
    have hc : (n : Int) ≤ (cap : Int) := by omega
    clear hown h1 h2 h5 h6 h4
    go_enter Tryz.func81, Tryz.ntmps81
    go_wp2_with (at_builtin; refine wpList_push_key rfl (.tmp 23) (.tmp 24) rfl base n g _ xs k _ _ rfl HO.out rfl hg hn hbase ?_)
    all_goals (
      intro g1 cp w1 ho hgr hr hlt
      go_wp2_with fail
      go_ret
      exact ⟨g1, cp, rfl, ho, hgr, hr, hlt⟩)
end Go.Proofs.YtdkggnciamfcmaaGreatDoor

namespace Go.Proofs.YtdkggnciamfcmaaGreatDoor
set_option linter.unusedVariables false
open Go.RowKit

theorem run_copy_rowN {P : Program} (w : World) (dT sT ty elem : TypeId) (g o dLen dCap : Nat) (a : Addr) (sLen sCap : Nat) (cur : Array Value) (t : TypeId) (cs : List Value) (sz m : Nat)
    (hu : P.underlying dT = some (.slice elem)) (hs : (P.info? elem).map (·.size) = some sz) (hm : m = Nat.min sLen dLen)
    (hg : w.heap[g]? = some (.cells cur t (0, 0))) (hn : cs.length = m * sz)
    (hsrc : ∀ j v, cs[j]? = some v → w.cell? (a.add j) = some v) (hfit : o + cs.length ≤ cur.size) (h1 : ∀ v ∈ cs, v.oneCell' = true) :
    (Builtin.copy_ #[dT, sT] ty #[.slice (some ⟨g, o, none⟩) dLen dCap, .slice (some a) sLen sCap]).run P w =
      .ok (goInt m) (w.setRow g (cur.toList.take o ++ cs ++ cur.toList.drop (o + cs.length)).toArray) := by
  have hl := run_loadCells_list (P := P) w a cs hsrc
  have hst := run_storeCells_at P g o t cs 0 cur w hg (by simpa using hfit) h1
  cases hq : P.info? elem with
  | none => simp [hq] at hs
  | some i =>
    have hi : i.size = sz := by simpa [hq] using hs
    simp [Builtin.copy_, run_underlying hu, Builtin.lenOf, Builtin.firstCells, sizeOf, typeInfo, hq, hi, ← hm, ← hn, hl, hst]
theorem wpList_copy_rowN {P : Program} {w : World} {ops : Array Oper} {rest : List Oper} {o : Oper} {a : Act} {Q : Exit → Act → World → Prop} (hgd : o.guard = none) (d s : Operand) (dT sT : TypeId)
    (ho : o.op = .call { callee := .builtin .copy, args := #[d, s], argTypes := #[dT, sT] }) (elem : TypeId) (sz m : Nat) (hu : P.underlying dT = some (.slice elem)) (hsz : (P.info? elem).map (·.size) = some sz)
    (g off dLen dCap : Nat) (ad : Addr) (sLen sCap : Nat) (hd : a.eval d = .slice (some ⟨g, off, none⟩) dLen dCap) (hs : a.eval s = .slice (some ad) sLen sCap) (hm : m = Nat.min sLen dLen)
    (cur : Array Value) (t : TypeId) (hg : w.heap[g]? = some (.cells cur t (0, 0))) (cs : List Value) (hn : cs.length = m * sz)
    (hsrc : ∀ j v, cs[j]? = some v → w.cell? (ad.add j) = some v) (hfit : off + cs.length ≤ cur.size) (h1 : ∀ v ∈ cs, v.oneCell' = true)
    (h : wpList P ops Q rest (a.put o.dst (goInt m)) (w.setRow g (cur.toList.take off ++ cs ++ cur.toList.drop (off + cs.length)).toArray)) : wpList P ops Q (o :: rest) a w := by
  refine wpList_plain hgd fun K hK => ?_
  have hrun := run_copy_rowN (P := P) w dT sT o.type elem g off dLen dCap ad sLen sCap cur t cs sz m hu hsz hm hg hn hsrc hfit h1
  unfold Oper.wp
  simp only [execOp, ho, resolve, invoke, builtin, hd, hs, Sem.run_bind, Sem.run_pure, Result.andThen_ok, List.map_toArray, List.map_cons, List.map_nil, hrun]
  exact hK _ _ h
theorem step_copy_rowN {P : Program} {ops : Array Oper} {o : Oper} {a : Act} {w : World} {K : Act → World → Prop} {Q : Exit → Act → World → Prop} {E : Prop} (hgd : o.guard = none) (d s : Operand) (dT sT : TypeId)
    (ho : o.op = .call { callee := .builtin .copy, args := #[d, s], argTypes := #[dT, sT] }) (elem : TypeId) (sz m : Nat) (hu : P.underlying dT = some (.slice elem)) (hsz : (P.info? elem).map (·.size) = some sz)
    (g off dLen dCap : Nat) (ad : Addr) (sLen sCap : Nat) (hd : a.eval d = .slice (some ⟨g, off, none⟩) dLen dCap) (hs : a.eval s = .slice (some ad) sLen sCap) (hm : m = Nat.min sLen dLen)
    (cur : Array Value) (t : TypeId) (hg : w.heap[g]? = some (.cells cur t (0, 0))) (cs : List Value) (hn : cs.length = m * sz)
    (hsrc : ∀ j v, cs[j]? = some v → w.cell? (ad.add j) = some v) (hfit : off + cs.length ≤ cur.size) (h1 : ∀ v ∈ cs, v.oneCell' = true)
    (h : K (a.put o.dst (goInt m)) (w.setRow g (cur.toList.take off ++ cs ++ cur.toList.drop (off + cs.length)).toArray)) :
    if Region.wanted o (yielded ops a.tmps) = true then Oper.wp P o a w K Q else E := by
  have hw : Region.wanted o (yielded ops a.tmps) = true := by simp [Region.wanted, hgd]
  rw [if_pos hw]
  have hrun := run_copy_rowN (P := P) w dT sT o.type elem g off dLen dCap ad sLen sCap cur t cs sz m hu hsz hm hg hn hsrc hfit h1
  unfold Oper.wp
  simp only [execOp, ho, resolve, invoke, builtin, hd, hs, Sem.run_bind, Sem.run_pure, Result.andThen_ok, List.map_toArray, List.map_cons, List.map_nil, hrun]
  exact h
end Go.Proofs.YtdkggnciamfcmaaGreatDoor

namespace Go.Proofs.YtdkggnciamfcmaaGreatDoor
set_option linter.unusedVariables false
open Go.RowKit
open M (V)

theorem ins_row {α : Type} (L new : List α) (a c : Nat) (h : a + new.length + c ≤ L.length) (cs row1 row2 : List α) (h1 : cs = (L.drop a).take c) (h2 : row1 = L.take (a + new.length) ++ cs ++ L.drop (a + new.length + cs.length)) (h3 : row2 = row1.take a ++ new ++ row1.drop (a + new.length)) :
    row2.length = L.length ∧ row2.take (a + new.length + c) = (L.take (a + c)).take a ++ new ++ (L.take (a + c)).drop a := by
  have hcl : cs.length = c := by rw [h1, List.length_take, List.length_drop]; omega
  have e1 : row1.take a = L.take a := by
    rw [h2, List.append_assoc, List.take_append_of_le_length (by rw [List.length_take]; omega), List.take_take, Nat.min_eq_left (by omega)]
  have e2 : row1.drop (a + new.length) = cs ++ L.drop (a + new.length + cs.length) := by
    rw [h2, List.append_assoc, List.drop_append_of_le_length (by rw [List.length_take]; omega), List.drop_take, Nat.sub_self]; simp
  have e3 : (L.take (a + c)).drop a = cs := by rw [List.drop_take, h1]; congr 1; omega
  have e4 : (L.take (a + c)).take a = L.take a := by rw [List.take_take, Nat.min_eq_left (by omega)]
  rw [h3, e1, e2, e3, e4]
  refine ⟨by simp [hcl]; omega, ?_⟩
  have hl : (L.take a ++ new ++ cs).length = a + new.length + c := by simp [hcl]; omega
  rw [← List.append_assoc, List.take_append_of_le_length (by omega), List.take_of_length_le (by omega)]

set_option maxRecDepth 100000 in
set_option maxHeartbeats 2000000 in
theorem insv_shift {base n g g0 cap p : Nat} {cur : Array Value} {w : World} {new : Array Value} {T : TypeId} (hp : p < n) (hroom : n + 1 ≤ cap) (hcap : cap ≤ maxLen) (hn : n ≤ 1000000)
    (h2 : w.heap[g0]? = some (.cells cur 25 (0, 0))) (hsz : cur.size = cap * 5) (hne : g ≠ g0)
    (hg : w.heap[g]? = some (.cells new T (0, 0))) (hnew : new.size = 5) (h1n : ∀ v ∈ new.toList, v.oneCell' = true) (h1c : ∀ v ∈ cur.toList.take (n * 5), v.oneCell' = true) :
    Calls Tryz.prog 82 #[.slice (some ⟨g0, 0, none⟩) n cap, .int .i64 (p : Int), .slice (some ⟨g, 0, none⟩) 1 1] w fun e w' => e = .returned (.slice (some ⟨g0, 0, none⟩) (n + 1) cap) ∧
      ∃ row2, w'.heap[g0]? = some (.cells row2 25 (0, 0)) ∧ row2.size = cap * 5 ∧ row2.toList.take ((n + 1) * 5) = (cur.toList.take (n * 5)).take (p * 5) ++ new.toList ++ (cur.toList.take (n * 5)).drop (p * 5) ∧ w.grownBy w' (some g0) := by
  have h4' : cap ≤ 9223372036854775807 := by unfold maxLen at hcap; omega
  have hov : ∀ bo lb cb, (callFunc 101 #[.slice (some ⟨g, 0, none⟩) 1 1, .slice (some ⟨g0, bo, none⟩) lb cb]).run Tryz.prog w = .ok (.value (.bool false)) w := fun bo lb cb => by
    have hsa : w.shape? g = some (T, new.size) := by simp [World.shape?, hg]
    have hsb : w.shape? g0 = some (25, cur.size) := by simp [World.shape?, h2]
    rw [run_callFunc_extern Tryz.func101 (by kernel_rfl) (by kernel_rfl) (by kernel_rfl) (e := Extern.SlicesOverlaps.overlaps #[22, 22] #[4]) (by kernel_rfl),
      Lib.run_overlaps_apart w 22 4 25 Tryz.underlying22 5 (fun _ => by kernel_rfl) ⟨g, 0, none⟩ ⟨g0, bo, none⟩ 1 1 lb cb hne T 25 new.size cur.size hsa hsb (by omega) (frozen_of_row _ _ _ _ _ hg) (frozen_of_row _ _ _ _ _ hg)]
    rfl
  have e1 : ((p : Int) == (n : Int)) = false := by rw [beq_eq_false_iff_ne]; omega
  have e2 : (p : Int) ≤ (n : Int) := by omega
  go_enter Tryz.func82, Tryz.ntmps82
  go_wp2_with fail
  obtain ⟨cs, hcs⟩ : ∃ cs, cs = (cur.toList.drop (p * 5)).take ((n - p) * 5) := ⟨_, rfl⟩
  have hcl : cs.length = (n - p) * 5 := by rw [hcs, List.length_take, List.length_drop, Array.length_toList]; omega
  obtain ⟨i2, hi0, hz0, hz1, hz2⟩ := info_parts val_info
  have hw1 : IntKind.i64.wrap ((p : Int) + 1) = (p : Int) + 1 := IntWalk.i64_in _ (by omega)
  have hb1 : (0 : Int) ≤ (p : Int) + 1 := by omega
  have htn : ((p : Int) + 1).toNat = p + 1 := by omega
  have hb2 : ¬ (cap = p + 1) := by omega
  have hb3 : (p : Int) ≤ (n : Int) + 1 := by omega
  have hb4 : ¬ (cap = p) := by omega
  have hb5 : (p : Int) + 1 ≤ (n : Int) + 1 := by omega
  have hcm : ∀ v, v ∈ cs → v ∈ cur.toList.take (n * 5) := fun v hv => by
    rw [hcs, show (n - p) * 5 = n * 5 - p * 5 by omega, ← List.drop_take] at hv
    exact List.mem_of_mem_drop hv
  obtain ⟨row1, hrow1⟩ : ∃ row1, row1 = (cur.toList.take ((p + 1) * 5) ++ cs ++ cur.toList.drop ((p + 1) * 5 + cs.length)).toArray := ⟨_, rfl⟩
  have hcs1 : ∀ j v, cs[j]? = some v → w.drew.cell? ((⟨g0, p * 5, none⟩ : Addr).add j) = some v := fun j v hj => by
    rw [hcs] at hj
    have hjl : j < (n - p) * 5 := by
      have := (List.getElem?_eq_some_iff.1 hj).1
      rw [List.length_take] at this; omega
    rw [List.getElem?_take_of_lt hjl, List.getElem?_drop] at hj
    have hj1 := hj
    rw [Addr.add_lit, show w.drew.cell? ⟨g0, p * 5 + j, none⟩ = w.cell? ⟨g0, p * 5 + j, none⟩ from rfl, cell_of_row w g0 _ _ _ _ h2]
    simpa using hj1
  have hcp1 : ∀ ty, (Builtin.copy_ #[22, 22] ty #[.slice (some ⟨g0, (p + 1) * 5, none⟩) (n - p) (cap - (p + 1)), .slice (some ⟨g0, p * 5, none⟩) (n + 1 - p) (cap - p)]).run Tryz.prog w.drew = .ok (goInt (n - p : Nat)) (w.drew.setRow g0 row1) := fun ty => by
    rw [hrow1]
    exact run_copy_rowN w.drew _ _ ty 25 g0 ((p + 1) * 5) (n - p) _ ⟨g0, p * 5, none⟩ (n + 1 - p) _ cur _ cs 5 (n - p) Tryz.underlying22 (by rw [hi0]; simp [hz1]) (by simp only [Nat.min_def]; split <;> omega) h2 hcl hcs1 (by omega) (fun v hv => h1c v (hcm v hv))
  have hr1 : (w.drew.setRow g0 row1).heap[g0]? = some (.cells row1 25 (0, 0)) := setRow_heap w.drew g0 _ _ _ _ h2
  have hg1 : (w.drew.setRow g0 row1).heap[g]? = some (.cells new T (0, 0)) := (setRow_other w.drew g0 g row1 hne).trans hg
  have hsz1 : row1.size = cap * 5 := by rw [hrow1]; simp [hcl]; omega
  obtain ⟨row2, hrow2⟩ : ∃ row2, row2 = (row1.toList.take (p * 5) ++ new.toList ++ row1.toList.drop (p * 5 + new.toList.length)).toArray := ⟨_, rfl⟩
  have hcp2 : ∀ ty dc, (Builtin.copy_ #[22, 22] ty #[.slice (some ⟨g0, p * 5, none⟩) (n + 1 - p) dc, .slice (some ⟨g, 0, none⟩) 1 1]).run Tryz.prog (w.drew.setRow g0 row1) = .ok (goInt (1 : Nat)) ((w.drew.setRow g0 row1).setRow g0 row2) := fun ty dc => by
    rw [hrow2]
    exact run_copy_rowN (w.drew.setRow g0 row1) _ _ ty 25 g0 (p * 5) (n + 1 - p) _ ⟨g, 0, none⟩ 1 _ row1 _ new.toList 5 1 Tryz.underlying22 (by rw [hi0]; simp [hz1]) (by simp only [Nat.min_def]; split <;> omega) hr1 (by rw [Array.length_toList]; omega)
      (fun j v hj => by rw [Addr.add_lit, Nat.zero_add, cell_of_row _ g _ _ _ _ hg1]; simpa using hj) (by rw [Array.length_toList]; omega) h1n
  have hfin := ins_row cur.toList new.toList (p * 5) ((n - p) * 5) (by simp only [Array.length_toList]; omega) cs row1.toList row2.toList hcs (by rw [hrow1]; simp only [Array.length_toList, hnew]; rw [show p * 5 + 5 = (p + 1) * 5 by omega]) (by rw [hrow2])
  simp only [Array.length_toList, hnew] at hfin
  rw [show p * 5 + 5 + (n - p) * 5 = (n + 1) * 5 by omega, show p * 5 + (n - p) * 5 = n * 5 by omega, hsz] at hfin
  have HFIN := Lib.hid hfin
  have hr2 : ((w.drew.setRow g0 row1).setRow g0 row2).heap[g0]? = some (.cells row2 25 (0, 0)) := setRow_heap _ g0 _ _ _ _ hr1
  have HR3 := Lib.hid hr2
  have hgr : w.grownBy ((w.drew.setRow g0 row1).setRow g0 row2) (some g0) := ⟨rfl, rfl, rfl, by simp [World.setRow], fun k _ hk => (setRow_other _ g0 k row2 (by intro e; exact hk (by rw [e]))).trans (setRow_other w.drew g0 k row1 (by intro e; exact hk (by rw [e])))⟩
  have HGR := Lib.hid hgr
  clear hcm hrow1 hrow2 hcs hcs1 hfin hr2 hgr hr1 hg1
  go_region_with (fail)
  all_goals go_wp2_with fail
  all_goals go_ret
  all_goals exact ⟨rfl, row2, HR3.out, HFIN.out.1, HFIN.out.2, HGR.out⟩
end Go.Proofs.YtdkggnciamfcmaaGreatDoor

namespace Go.Proofs.YtdkggnciamfcmaaGreatDoor
set_option linter.unusedVariables false
open Go.RowKit
open M (V)

theorem ins_new {α : Type} (L new R cs row1 row2 : List α) (a c : Nat) (ha : a ≤ L.length) (hcl : cs.length = c) (h : a + new.length + c ≤ R.length) (h0 : R.take a = L.take a) (h2 : row1 = R.take a ++ new ++ R.drop (a + new.length)) (h3 : row2 = row1.take (a + new.length) ++ cs ++ row1.drop (a + new.length + cs.length)) :
    row2.length = R.length ∧ row2.take (a + new.length + c) = L.take a ++ new ++ cs := by
  have e1 : row1.take (a + new.length) = L.take a ++ new := by
    rw [h2, h0, List.take_append_of_le_length (by simp; omega), List.take_of_length_le (by simp; omega)]
  have l1 : row1.length = R.length := by rw [h2]; simp; omega
  rw [h3, e1]
  refine ⟨by simp [l1]; omega, ?_⟩
  rw [List.take_append_of_le_length (by simp; omega), List.take_of_length_le (by simp; omega)]

set_option maxRecDepth 100000 in
set_option maxHeartbeats 2000000 in
theorem insv_grow {n g g0 cap p : Nat} {cur : Array Value} {w : World} {new : Array Value} {T : TypeId} (hp : p < n) (hnc : n ≤ cap) (hroom : cap < n + 1) (hcap : cap ≤ maxLen) (hn : n ≤ 1000000)
    (h2 : w.heap[g0]? = some (.cells cur 25 (0, 0))) (hsz : cur.size = cap * 5) (hne : g ≠ g0)
    (hg : w.heap[g]? = some (.cells new T (0, 0))) (hnew : new.size = 5) (h1n : ∀ v ∈ new.toList, v.oneCell' = true) (h1c : ∀ v ∈ cur.toList.take (n * 5), v.oneCell' = true) :
    Calls Tryz.prog 82 #[.slice (some ⟨g0, 0, none⟩) n cap, .int .i64 (p : Int), .slice (some ⟨g, 0, none⟩) 1 1] w fun e w' => ∃ G row2, e = .returned (.slice (some ⟨w.heap.size, 0, none⟩) (n + 1) G) ∧
      w'.heap[w.heap.size]? = some (.cells row2 25 (0, 0)) ∧ n + 1 ≤ G ∧ G ≤ maxLen ∧ row2.size = G * 5 ∧ row2.toList.take ((n + 1) * 5) = (cur.toList.take (n * 5)).take (p * 5) ++ new.toList ++ (cur.toList.take (n * 5)).drop (p * 5) ∧ w.grownBy w' none := by
  obtain rfl : cap = n := by omega
  have h4' : cap ≤ 9223372036854775807 := by unfold maxLen at hcap; omega
  have e1 : ((p : Int) == (cap : Int)) = false := by rw [beq_eq_false_iff_ne]; omega
  have e2 : (p : Int) ≤ (cap : Int) := by omega
  have e3 : (cap : Int) < (cap : Int) + 1 := by omega
  obtain ⟨i2, hi0, hz0, hz1, hz2⟩ := info_parts val_info
  have hkk : (cap : Int) + 1 - (p : Int) = ((cap + 1 - p : Nat) : Int) := by omega
  have hik : p + (cap + 1 - p) = cap + 1 := by omega
  have hold : (Builtin.firstCells i2.size p (.slice (some ⟨g0, 0, none⟩) p cap)).run Tryz.prog w.drew = .ok (cur.toList.take (p * 5)).toArray w.drew := by
    rw [hz1]
    exact run_firstCells_some w.drew 5 p ⟨g0, 0, none⟩ p cap (cur.toList.take (p * 5)) (by rw [List.length_take, Array.length_toList]; omega) (fun j v hj => by
      rw [Addr.add_lit, Nat.zero_add, show w.drew.cell? ⟨g0, j, none⟩ = w.cell? ⟨g0, j, none⟩ from rfl, cell_of_row w g0 _ _ _ _ h2]
      rw [List.getElem?_take] at hj
      split at hj
      · simpa using hj
      · cases hj)
  obtain ⟨G, hG⟩ : ∃ G, G = grownCap w (cap + 1) cap 25 := ⟨_, rfl⟩
  have hGn : cap + 1 ≤ G := by rw [hG]; exact grownCap_ge w _ _ _
  have hGm : G ≤ maxLen := by rw [hG]; exact grownCap_le_maxLen w (cap + 1) cap 25 (by unfold maxLen; omega)
  obtain ⟨ROW, hROW⟩ : ∃ ROW : Array Value, ROW = (cur.toList.take (p * 5)).toArray ++ Builtin.zeroCells (Value.agg #[.int .i64 0, .int .i64 0, .string ByteArray.empty, .slice none 0 0, .slice none 0 0]).cells (cap + 1 - p) ++ Builtin.zeroCells (Value.agg #[.int .i64 0, .int .i64 0, .string ByteArray.empty, .slice none 0 0, .slice none 0 0]).cells (G - (cap + 1)) := ⟨_, rfl⟩
  have hRl : ROW.size = G * 5 := by
    rw [hROW]
    simp [Builtin.zeroCells, Value.cells]
    omega
  have hR0 : ROW.toList.take (p * 5) = cur.toList.take (p * 5) := by
    rw [hROW]; simp only [Array.toList_append, List.append_assoc]
    rw [List.take_append_of_le_length (by simp; omega), List.take_of_length_le (by simp; omega)]
  have hrz : ∀ ty, (Builtin.append_ #[22, 3] ty #[.slice (some ⟨g0, 0, none⟩) p cap, .int .i64 ((cap : Int) + 1 - (p : Int))]).run Tryz.prog w =
      .ok (.slice (some ⟨w.heap.size, 0, none⟩) (cap + 1) G) (w.drew.alloc (.cells ROW 25)) := fun ty => by
    have h := Lib.run_append_grow_zeros (P := Tryz.prog) w 22 3 ty 25 i2 _ .i64 .i64 Tryz.underlying22 Tryz.underlying3 hi0 hz0 (some ⟨g0, 0, none⟩) p cap (cur.toList.take (p * 5)) hold (cap + 1 - p) (by omega) (by omega) (by omega) (by omega) (by rw [hz2]; omega) (by rw [hz2, hik]; exact growslice_fits hroom (by omega))
    rw [hik, ← hG] at h
    rw [hkk, hROW]
    exact h
  have hbw : g0 < w.heap.size := row_lt h2
  have hvw : g < w.heap.size := row_lt hg
  obtain ⟨cs, hcs⟩ : ∃ cs, cs = (cur.toList.drop (p * 5)).take ((cap - p) * 5) := ⟨_, rfl⟩
  have hcl : cs.length = (cap - p) * 5 := by rw [hcs, List.length_take, List.length_drop, Array.length_toList]; omega
  have hcm : ∀ v, v ∈ cs → v ∈ cur.toList.take (cap * 5) := fun v hv => by
    rw [hcs, show (cap - p) * 5 = cap * 5 - p * 5 by omega, ← List.drop_take] at hv
    exact List.mem_of_mem_drop hv
  obtain ⟨row1, hrow1⟩ : ∃ row1, row1 = (ROW.toList.take (p * 5) ++ new.toList ++ ROW.toList.drop (p * 5 + new.toList.length)).toArray := ⟨_, rfl⟩
  have hsz1 : row1.size = G * 5 := by rw [hrow1]; simp; omega
  obtain ⟨row2, hrow2⟩ : ∃ row2, row2 = (row1.toList.take ((p + 1) * 5) ++ cs ++ row1.toList.drop ((p + 1) * 5 + cs.length)).toArray := ⟨_, rfl⟩
  have hcpA : ∀ (W : World), W.heap[w.heap.size]? = some (.cells ROW 25 (0, 0)) → W.heap[g]? = some (.cells new T (0, 0)) → ∀ ty dc, (Builtin.copy_ #[22, 22] ty #[.slice (some ⟨w.heap.size, p * 5, none⟩) (cap + 1 - p) dc, .slice (some ⟨g, 0, none⟩) 1 1]).run Tryz.prog W = .ok (goInt (1 : Nat)) (W.setRow w.heap.size row1) := fun W k1 k2 ty dc => by
    rw [hrow1]
    exact run_copy_rowN W _ _ ty 25 w.heap.size (p * 5) (cap + 1 - p) _ ⟨g, 0, none⟩ 1 _ ROW _ new.toList 5 1 Tryz.underlying22 (by rw [hi0]; simp [hz1]) (by simp only [Nat.min_def]; split <;> omega) k1 (by rw [Array.length_toList]; omega)
      (fun j v hj => by rw [Addr.add_lit, Nat.zero_add, cell_of_row _ g _ _ _ _ k2]; simpa using hj) (by rw [Array.length_toList]; omega) h1n
  have hcpB : ∀ (W : World), W.heap[w.heap.size]? = some (.cells row1 25 (0, 0)) → W.heap[g0]? = some (.cells cur 25 (0, 0)) → ∀ ty dc sc, (Builtin.copy_ #[22, 22] ty #[.slice (some ⟨w.heap.size, (p + 1) * 5, none⟩) (cap - p) dc, .slice (some ⟨g0, p * 5, none⟩) (cap - p) sc]).run Tryz.prog W = .ok (goInt (cap - p : Nat)) (W.setRow w.heap.size row2) := fun W k1 k2 ty dc sc => by
    rw [hrow2]
    exact run_copy_rowN W _ _ ty 25 w.heap.size ((p + 1) * 5) (cap - p) _ ⟨g0, p * 5, none⟩ (cap - p) _ row1 _ cs 5 (cap - p) Tryz.underlying22 (by rw [hi0]; simp [hz1]) (by simp only [Nat.min_def]; split <;> omega) k1 hcl
      (fun j v hj => by
        have hjl : j < (cap - p) * 5 := by
          have := (List.getElem?_eq_some_iff.1 hj).1
          omega
        rw [hcs, List.getElem?_take_of_lt hjl, List.getElem?_drop] at hj
        rw [Addr.add_lit, cell_of_row _ g0 _ _ _ _ k2]
        simpa using hj) (by omega) (fun v hv => h1c v (hcm v hv))
  have wa0 : (w.drew.alloc (.cells ROW 25)).heap[w.heap.size]? = some (.cells ROW 25 (0, 0)) := heap_alloc_new w.drew _
  have wag : (w.drew.alloc (.cells ROW 25)).heap[g]? = some (.cells new T (0, 0)) := (Below.heap_alloc w.drew _ _ hvw).trans hg
  have wac : (w.drew.alloc (.cells ROW 25)).heap[g0]? = some (.cells cur 25 (0, 0)) := (Below.heap_alloc w.drew _ _ hbw).trans h2
  have hfin := ins_new cur.toList new.toList ROW.toList cs row1.toList row2.toList (p * 5) ((cap - p) * 5) (by simp only [Array.length_toList]; omega) hcl (by simp only [Array.length_toList]; omega) hR0 (by rw [hrow1]) (by rw [hrow2]; simp only [Array.length_toList, hnew]; rw [show p * 5 + 5 = (p + 1) * 5 by omega])
  simp only [Array.length_toList, hnew] at hfin
  have hx1 : (cur.toList.take (cap * 5)).take (p * 5) = cur.toList.take (p * 5) := by rw [List.take_take, Nat.min_eq_left (by omega)]
  have hx2 : (cur.toList.take (cap * 5)).drop (p * 5) = cs := by rw [List.drop_take, hcs]; congr 1; omega
  rw [show p * 5 + 5 + (cap - p) * 5 = (cap + 1) * 5 by omega, hRl, ← hx1, ← hx2] at hfin
  have HFIN := Lib.hid hfin
  have hga : w.grownBy (w.drew.alloc (.cells ROW 25)) none := grown_drew_alloc w _
  have hG63 : G ≤ 9223372036854775807 := by unfold maxLen at hGm; omega
  have hGp : ¬ (G = p) := by omega
  have hGq : ¬ (G = p + 1) := by omega
  have hcp : ¬ (cap = p) := by omega
  have hw1 : IntKind.i64.wrap ((p : Int) + 1) = (p : Int) + 1 := IntWalk.i64_in _ (by omega)
  have hb1 : (0 : Int) ≤ (p : Int) + 1 := by omega
  have htn : ((p : Int) + 1).toNat = p + 1 := by omega
  have hb5 : (p : Int) + 1 ≤ (cap : Int) + 1 := by omega
  have HGM := Lib.hid hGm; have HGN := Lib.hid hGn
  obtain ⟨W1, hW1⟩ : ∃ W1, W1 = w.drew.alloc (.cells ROW 25) := ⟨_, rfl⟩
  rw [← hW1] at hrz wa0 wag wac hga
  have hA := hcpA W1 wa0 wag
  have hr1 : (W1.setRow w.heap.size row1).heap[w.heap.size]? = some (.cells row1 25 (0, 0)) := setRow_heap W1 _ _ _ _ _ wa0
  have hc1 : (W1.setRow w.heap.size row1).drew.heap[g0]? = some (.cells cur 25 (0, 0)) := (setRow_other W1 _ g0 row1 (by omega)).trans wac
  have hB := hcpB (W1.setRow w.heap.size row1).drew hr1 hc1
  have hr2 : ((W1.setRow w.heap.size row1).drew.setRow w.heap.size row2).heap[w.heap.size]? = some (.cells row2 25 (0, 0)) := setRow_heap _ _ _ _ _ _ hr1
  have hz1' := hga.size
  have hgr : w.grownBy ((W1.setRow w.heap.size row1).drew.setRow w.heap.size row2) none := ⟨hga.os, hga.tape, hga.output, by simpa [World.setRow] using hga.size, fun k hk hk2 => (setRow_other _ _ k row2 (by omega)).trans ((setRow_other W1 _ k row1 (by omega)).trans (hga.block k hk hk2))⟩
  have HR2 := Lib.hid hr2; have HGR := Lib.hid hgr
  clear hcm hcpA hcpB hROW hG hrow1 hrow2 hcs hfin hx1 hx2 hold hkk hik hR0 hGm hW1 wa0 wag wac hga hr1 hc1 hr2 hgr
  go_enter Tryz.func82, Tryz.ntmps82
  go_wp2_with (at_builtin; refine Lib.wpList_append_run _ rfl _ _ _ _ rfl _ _ rfl rfl _ _ (hrz _) ?_)
  go_region_with (fail)
  all_goals go_wp2_with fail
  all_goals go_ret
  all_goals exact ⟨G, row2, rfl, HR2.out, HGN.out, HGM.out, HFIN.out.1, HFIN.out.2, HGR.out⟩
end Go.Proofs.YtdkggnciamfcmaaGreatDoor

namespace Go.Proofs.YtdkggnciamfcmaaGreatDoor
set_option linter.unusedVariables false
open Go.RowKit
open M (V)

set_option maxRecDepth 100000 in
set_option maxHeartbeats 2000000 in
theorem insk_shift {base n g g0 cap p : Nat} {cur : Array Value} {w : World} {new : Array Value} {T : TypeId} (hp : p < n) (hroom : n + 1 ≤ cap) (hcap : cap ≤ maxLen) (hn : n ≤ 1000000)
    (h2 : w.heap[g0]? = some (.cells cur 9 (0, 0))) (hsz : cur.size = cap) (hne : g ≠ g0)
    (hg : w.heap[g]? = some (.cells new T (0, 0))) (hnew : new.size = 1) (h1n : ∀ v ∈ new.toList, v.oneCell' = true) (h1c : ∀ v ∈ cur.toList.take (n), v.oneCell' = true) :
    Calls Tryz.prog 81 #[.slice (some ⟨g0, 0, none⟩) n cap, .int .i64 (p : Int), .slice (some ⟨g, 0, none⟩) 1 1] w fun e w' => e = .returned (.slice (some ⟨g0, 0, none⟩) (n + 1) cap) ∧
      ∃ row2, w'.heap[g0]? = some (.cells row2 9 (0, 0)) ∧ row2.size = cap ∧ row2.toList.take ((n + 1)) = (cur.toList.take (n)).take (p) ++ new.toList ++ (cur.toList.take (n)).drop (p) ∧ w.grownBy w' (some g0) := by
  have h4' : cap ≤ 9223372036854775807 := by unfold maxLen at hcap; omega
  have hov : ∀ bo lb cb, (callFunc 99 #[.slice (some ⟨g, 0, none⟩) 1 1, .slice (some ⟨g0, bo, none⟩) lb cb]).run Tryz.prog w = .ok (.value (.bool false)) w := fun bo lb cb => by
    have hsa : w.shape? g = some (T, new.size) := by simp [World.shape?, hg]
    have hsb : w.shape? g0 = some (9, cur.size) := by simp [World.shape?, h2]
    rw [run_callFunc_extern Tryz.func99 (by kernel_rfl) (by kernel_rfl) (by kernel_rfl) (e := Extern.SlicesOverlaps.overlaps #[23, 23] #[4]) (by kernel_rfl),
      Lib.run_overlaps_apart w 23 4 9 Tryz.underlying23 1 (fun _ => by kernel_rfl) ⟨g, 0, none⟩ ⟨g0, bo, none⟩ 1 1 lb cb hne T 9 new.size cur.size hsa hsb (by omega) (frozen_of_row _ _ _ _ _ hg) (frozen_of_row _ _ _ _ _ hg)]
    rfl
  have e1 : ((p : Int) == (n : Int)) = false := by rw [beq_eq_false_iff_ne]; omega
  have e2 : (p : Int) ≤ (n : Int) := by omega
  go_enter Tryz.func81, Tryz.ntmps81
  go_wp2_with fail
  obtain ⟨cs, hcs⟩ : ∃ cs, cs = (cur.toList.drop (p)).take ((n - p)) := ⟨_, rfl⟩
  have hcl : cs.length = (n - p) := by rw [hcs, List.length_take, List.length_drop, Array.length_toList]; omega
  obtain ⟨i2, hi0, hz0, hz1, hz2⟩ := info_parts str_info
  have hw1 : IntKind.i64.wrap ((p : Int) + 1) = (p : Int) + 1 := IntWalk.i64_in _ (by omega)
  have hb1 : (0 : Int) ≤ (p : Int) + 1 := by omega
  have htn : ((p : Int) + 1).toNat = p + 1 := by omega
  have hb2 : ¬ (cap = p + 1) := by omega
  have hb3 : (p : Int) ≤ (n : Int) + 1 := by omega
  have hb4 : ¬ (cap = p) := by omega
  have hb5 : (p : Int) + 1 ≤ (n : Int) + 1 := by omega
  have hcm : ∀ v, v ∈ cs → v ∈ cur.toList.take n := fun v hv => by
    rw [hcs, ← List.drop_take] at hv
    exact List.mem_of_mem_drop hv
  obtain ⟨row1, hrow1⟩ : ∃ row1, row1 = (cur.toList.take ((p + 1)) ++ cs ++ cur.toList.drop ((p + 1) + cs.length)).toArray := ⟨_, rfl⟩
  have hcs1 : ∀ j v, cs[j]? = some v → w.drew.cell? ((⟨g0, p, none⟩ : Addr).add j) = some v := fun j v hj => by
    rw [hcs] at hj
    have hjl : j < (n - p) := by
      have := (List.getElem?_eq_some_iff.1 hj).1
      rw [List.length_take] at this; omega
    rw [List.getElem?_take_of_lt hjl, List.getElem?_drop] at hj
    have hj1 := hj
    rw [Addr.add_lit, show w.drew.cell? ⟨g0, p + j, none⟩ = w.cell? ⟨g0, p + j, none⟩ from rfl, cell_of_row w g0 _ _ _ _ h2]
    simpa using hj1
  have hcp1 : ∀ ty, (Builtin.copy_ #[23, 23] ty #[.slice (some ⟨g0, (p + 1), none⟩) (n - p) (cap - (p + 1)), .slice (some ⟨g0, p, none⟩) (n + 1 - p) (cap - p)]).run Tryz.prog w.drew = .ok (goInt (n - p : Nat)) (w.drew.setRow g0 row1) := fun ty => by
    rw [hrow1]
    exact run_copy_rowN w.drew _ _ ty 9 g0 ((p + 1)) (n - p) _ ⟨g0, p, none⟩ (n + 1 - p) _ cur _ cs 1 (n - p) Tryz.underlying23 (by rw [hi0]; simp [hz1]) (by simp only [Nat.min_def]; split <;> omega) h2 (by omega) hcs1 (by omega) (fun v hv => h1c v (hcm v hv))
  have hr1 : (w.drew.setRow g0 row1).heap[g0]? = some (.cells row1 9 (0, 0)) := setRow_heap w.drew g0 _ _ _ _ h2
  have hg1 : (w.drew.setRow g0 row1).heap[g]? = some (.cells new T (0, 0)) := (setRow_other w.drew g0 g row1 hne).trans hg
  have hsz1 : row1.size = cap := by rw [hrow1]; simp [hcl]; omega
  obtain ⟨row2, hrow2⟩ : ∃ row2, row2 = (row1.toList.take (p) ++ new.toList ++ row1.toList.drop (p + new.toList.length)).toArray := ⟨_, rfl⟩
  have hcp2 : ∀ ty dc, (Builtin.copy_ #[23, 23] ty #[.slice (some ⟨g0, p, none⟩) (n + 1 - p) dc, .slice (some ⟨g, 0, none⟩) 1 1]).run Tryz.prog (w.drew.setRow g0 row1) = .ok (goInt (1 : Nat)) ((w.drew.setRow g0 row1).setRow g0 row2) := fun ty dc => by
    rw [hrow2]
    exact run_copy_rowN (w.drew.setRow g0 row1) _ _ ty 9 g0 (p) (n + 1 - p) _ ⟨g, 0, none⟩ 1 _ row1 _ new.toList 1 1 Tryz.underlying23 (by rw [hi0]; simp [hz1]) (by simp only [Nat.min_def]; split <;> omega) hr1 (by rw [Array.length_toList]; omega)
      (fun j v hj => by rw [Addr.add_lit, Nat.zero_add, cell_of_row _ g _ _ _ _ hg1]; simpa using hj) (by rw [Array.length_toList]; omega) h1n
  have hfin := ins_row cur.toList new.toList (p) ((n - p)) (by simp only [Array.length_toList]; omega) cs row1.toList row2.toList hcs (by rw [hrow1]; simp only [Array.length_toList, hnew]) (by rw [hrow2])
  simp only [Array.length_toList, hnew] at hfin
  rw [show p + 1 + (n - p) = (n + 1) by omega, show p + (n - p) = n by omega, hsz] at hfin
  have HFIN := Lib.hid hfin
  have hr2 : ((w.drew.setRow g0 row1).setRow g0 row2).heap[g0]? = some (.cells row2 9 (0, 0)) := setRow_heap _ g0 _ _ _ _ hr1
  have HR3 := Lib.hid hr2
  have hgr : w.grownBy ((w.drew.setRow g0 row1).setRow g0 row2) (some g0) := ⟨rfl, rfl, rfl, by simp [World.setRow], fun k _ hk => (setRow_other _ g0 k row2 (by intro e; exact hk (by rw [e]))).trans (setRow_other w.drew g0 k row1 (by intro e; exact hk (by rw [e])))⟩
  have HGR := Lib.hid hgr
  clear hcm hrow1 hrow2 hcs hcs1 hfin hr2 hgr hr1 hg1
  go_region_with (fail)
  all_goals go_wp2_with fail
  all_goals go_ret
  all_goals exact ⟨rfl, row2, HR3.out, HFIN.out.1, HFIN.out.2, HGR.out⟩
set_option maxRecDepth 100000 in
set_option maxHeartbeats 2000000 in
theorem insk_grow {n g g0 cap p : Nat} {cur : Array Value} {w : World} {new : Array Value} {T : TypeId} (hp : p < n) (hnc : n ≤ cap) (hroom : cap < n + 1) (hcap : cap ≤ maxLen) (hn : n ≤ 1000000)
    (h2 : w.heap[g0]? = some (.cells cur 9 (0, 0))) (hsz : cur.size = cap) (hne : g ≠ g0)
    (hg : w.heap[g]? = some (.cells new T (0, 0))) (hnew : new.size = 1) (h1n : ∀ v ∈ new.toList, v.oneCell' = true) (h1c : ∀ v ∈ cur.toList.take (n), v.oneCell' = true) :
    Calls Tryz.prog 81 #[.slice (some ⟨g0, 0, none⟩) n cap, .int .i64 (p : Int), .slice (some ⟨g, 0, none⟩) 1 1] w fun e w' => ∃ G row2, e = .returned (.slice (some ⟨w.heap.size, 0, none⟩) (n + 1) G) ∧
      w'.heap[w.heap.size]? = some (.cells row2 9 (0, 0)) ∧ n + 1 ≤ G ∧ G ≤ maxLen ∧ row2.size = G ∧ row2.toList.take ((n + 1)) = (cur.toList.take (n)).take (p) ++ new.toList ++ (cur.toList.take (n)).drop (p) ∧ w.grownBy w' none := by
  obtain rfl : cap = n := by omega
  have h4' : cap ≤ 9223372036854775807 := by unfold maxLen at hcap; omega
  have e1 : ((p : Int) == (cap : Int)) = false := by rw [beq_eq_false_iff_ne]; omega
  have e2 : (p : Int) ≤ (cap : Int) := by omega
  have e3 : (cap : Int) < (cap : Int) + 1 := by omega
  obtain ⟨i2, hi0, hz0, hz1, hz2⟩ := info_parts str_info
  have hkk : (cap : Int) + 1 - (p : Int) = ((cap + 1 - p : Nat) : Int) := by omega
  have hik : p + (cap + 1 - p) = cap + 1 := by omega
  have hold : (Builtin.firstCells i2.size p (.slice (some ⟨g0, 0, none⟩) p cap)).run Tryz.prog w.drew = .ok (cur.toList.take (p)).toArray w.drew := by
    rw [hz1]
    exact run_firstCells_some w.drew 1 p ⟨g0, 0, none⟩ p cap (cur.toList.take (p)) (by rw [List.length_take, Array.length_toList]; omega) (fun j v hj => by
      rw [Addr.add_lit, Nat.zero_add, show w.drew.cell? ⟨g0, j, none⟩ = w.cell? ⟨g0, j, none⟩ from rfl, cell_of_row w g0 _ _ _ _ h2]
      rw [List.getElem?_take] at hj
      split at hj
      · simpa using hj
      · cases hj)
  obtain ⟨G, hG⟩ : ∃ G, G = grownCap w (cap + 1) cap 9 := ⟨_, rfl⟩
  have hGn : cap + 1 ≤ G := by rw [hG]; exact grownCap_ge w _ _ _
  have hGm : G ≤ maxLen := by rw [hG]; exact grownCap_le_maxLen w (cap + 1) cap 9 (by unfold maxLen; omega)
  obtain ⟨ROW, hROW⟩ : ∃ ROW : Array Value, ROW = (cur.toList.take (p)).toArray ++ Builtin.zeroCells (Value.string ByteArray.empty).cells (cap + 1 - p) ++ Builtin.zeroCells (Value.string ByteArray.empty).cells (G - (cap + 1)) := ⟨_, rfl⟩
  have hRl : ROW.size = G := by
    rw [hROW]
    simp [Builtin.zeroCells, Value.cells]
    omega
  have hR0 : ROW.toList.take (p) = cur.toList.take (p) := by
    rw [hROW]; simp only [Array.toList_append, List.append_assoc]
    rw [List.take_append_of_le_length (by simp; omega), List.take_of_length_le (by simp; omega)]
  have hrz : ∀ ty, (Builtin.append_ #[23, 3] ty #[.slice (some ⟨g0, 0, none⟩) p cap, .int .i64 ((cap : Int) + 1 - (p : Int))]).run Tryz.prog w =
      .ok (.slice (some ⟨w.heap.size, 0, none⟩) (cap + 1) G) (w.drew.alloc (.cells ROW 9)) := fun ty => by
    have h := Lib.run_append_grow_zeros (P := Tryz.prog) w 23 3 ty 9 i2 _ .i64 .i64 Tryz.underlying23 Tryz.underlying3 hi0 hz0 (some ⟨g0, 0, none⟩) p cap (cur.toList.take (p)) hold (cap + 1 - p) (by omega) (by omega) (by omega) (by omega) (by rw [hz2]; omega) (by rw [hz2, hik]; exact growslice_fits hroom (by omega))
    rw [hik, ← hG] at h
    rw [hkk, hROW]
    exact h
  have hbw : g0 < w.heap.size := row_lt h2
  have hvw : g < w.heap.size := row_lt hg
  obtain ⟨cs, hcs⟩ : ∃ cs, cs = (cur.toList.drop (p)).take ((cap - p)) := ⟨_, rfl⟩
  have hcl : cs.length = (cap - p) := by rw [hcs, List.length_take, List.length_drop, Array.length_toList]; omega
  have hcm : ∀ v, v ∈ cs → v ∈ cur.toList.take cap := fun v hv => by
    rw [hcs, ← List.drop_take] at hv
    exact List.mem_of_mem_drop hv
  obtain ⟨row1, hrow1⟩ : ∃ row1, row1 = (ROW.toList.take (p) ++ new.toList ++ ROW.toList.drop (p + new.toList.length)).toArray := ⟨_, rfl⟩
  have hsz1 : row1.size = G := by rw [hrow1]; simp; omega
  obtain ⟨row2, hrow2⟩ : ∃ row2, row2 = (row1.toList.take ((p + 1)) ++ cs ++ row1.toList.drop ((p + 1) + cs.length)).toArray := ⟨_, rfl⟩
  have hcpA : ∀ (W : World), W.heap[w.heap.size]? = some (.cells ROW 9 (0, 0)) → W.heap[g]? = some (.cells new T (0, 0)) → ∀ ty dc, (Builtin.copy_ #[23, 23] ty #[.slice (some ⟨w.heap.size, p, none⟩) (cap + 1 - p) dc, .slice (some ⟨g, 0, none⟩) 1 1]).run Tryz.prog W = .ok (goInt (1 : Nat)) (W.setRow w.heap.size row1) := fun W k1 k2 ty dc => by
    rw [hrow1]
    exact run_copy_rowN W _ _ ty 9 w.heap.size (p) (cap + 1 - p) _ ⟨g, 0, none⟩ 1 _ ROW _ new.toList 1 1 Tryz.underlying23 (by rw [hi0]; simp [hz1]) (by simp only [Nat.min_def]; split <;> omega) k1 (by rw [Array.length_toList]; omega)
      (fun j v hj => by rw [Addr.add_lit, Nat.zero_add, cell_of_row _ g _ _ _ _ k2]; simpa using hj) (by rw [Array.length_toList]; omega) h1n
  have hcpB : ∀ (W : World), W.heap[w.heap.size]? = some (.cells row1 9 (0, 0)) → W.heap[g0]? = some (.cells cur 9 (0, 0)) → ∀ ty dc sc, (Builtin.copy_ #[23, 23] ty #[.slice (some ⟨w.heap.size, (p + 1), none⟩) (cap - p) dc, .slice (some ⟨g0, p, none⟩) (cap - p) sc]).run Tryz.prog W = .ok (goInt (cap - p : Nat)) (W.setRow w.heap.size row2) := fun W k1 k2 ty dc sc => by
    rw [hrow2]
    exact run_copy_rowN W _ _ ty 9 w.heap.size ((p + 1)) (cap - p) _ ⟨g0, p, none⟩ (cap - p) _ row1 _ cs 1 (cap - p) Tryz.underlying23 (by rw [hi0]; simp [hz1]) (by simp only [Nat.min_def]; split <;> omega) k1 (by omega)
      (fun j v hj => by
        have hjl : j < (cap - p) := by
          have := (List.getElem?_eq_some_iff.1 hj).1
          omega
        rw [hcs, List.getElem?_take_of_lt hjl, List.getElem?_drop] at hj
        rw [Addr.add_lit, cell_of_row _ g0 _ _ _ _ k2]
        simpa using hj) (by omega) (fun v hv => h1c v (hcm v hv))
  have wa0 : (w.drew.alloc (.cells ROW 9)).heap[w.heap.size]? = some (.cells ROW 9 (0, 0)) := heap_alloc_new w.drew _
  have wag : (w.drew.alloc (.cells ROW 9)).heap[g]? = some (.cells new T (0, 0)) := (Below.heap_alloc w.drew _ _ hvw).trans hg
  have wac : (w.drew.alloc (.cells ROW 9)).heap[g0]? = some (.cells cur 9 (0, 0)) := (Below.heap_alloc w.drew _ _ hbw).trans h2
  have hfin := ins_new cur.toList new.toList ROW.toList cs row1.toList row2.toList (p) ((cap - p)) (by simp only [Array.length_toList]; omega) hcl (by simp only [Array.length_toList]; omega) hR0 (by rw [hrow1]) (by rw [hrow2]; simp only [Array.length_toList, hnew])
  simp only [Array.length_toList, hnew] at hfin
  have hx1 : (cur.toList.take (cap)).take (p) = cur.toList.take (p) := by rw [List.take_take, Nat.min_eq_left (by omega)]
  have hx2 : (cur.toList.take (cap)).drop (p) = cs := by rw [List.drop_take, hcs]
  rw [show p + 1 + (cap - p) = (cap + 1) by omega, hRl, ← hx1, ← hx2] at hfin
  have HFIN := Lib.hid hfin
  have hga : w.grownBy (w.drew.alloc (.cells ROW 9)) none := grown_drew_alloc w _
  have hG63 : G ≤ 9223372036854775807 := by unfold maxLen at hGm; omega
  have hGp : ¬ (G = p) := by omega
  have hGq : ¬ (G = p + 1) := by omega
  have hcp : ¬ (cap = p) := by omega
  have hw1 : IntKind.i64.wrap ((p : Int) + 1) = (p : Int) + 1 := IntWalk.i64_in _ (by omega)
  have hb1 : (0 : Int) ≤ (p : Int) + 1 := by omega
  have htn : ((p : Int) + 1).toNat = p + 1 := by omega
  have hb5 : (p : Int) + 1 ≤ (cap : Int) + 1 := by omega
  have HGM := Lib.hid hGm; have HGN := Lib.hid hGn
  obtain ⟨W1, hW1⟩ : ∃ W1, W1 = w.drew.alloc (.cells ROW 9) := ⟨_, rfl⟩
  rw [← hW1] at hrz wa0 wag wac hga
  have hA := hcpA W1 wa0 wag
  have hr1 : (W1.setRow w.heap.size row1).heap[w.heap.size]? = some (.cells row1 9 (0, 0)) := setRow_heap W1 _ _ _ _ _ wa0
  have hc1 : (W1.setRow w.heap.size row1).drew.heap[g0]? = some (.cells cur 9 (0, 0)) := (setRow_other W1 _ g0 row1 (by omega)).trans wac
  have hB := hcpB (W1.setRow w.heap.size row1).drew hr1 hc1
  have hr2 : ((W1.setRow w.heap.size row1).drew.setRow w.heap.size row2).heap[w.heap.size]? = some (.cells row2 9 (0, 0)) := setRow_heap _ _ _ _ _ _ hr1
  have hz1' := hga.size
  have hgr : w.grownBy ((W1.setRow w.heap.size row1).drew.setRow w.heap.size row2) none := ⟨hga.os, hga.tape, hga.output, by simpa [World.setRow] using hga.size, fun k hk hk2 => (setRow_other _ _ k row2 (by omega)).trans ((setRow_other W1 _ k row1 (by omega)).trans (hga.block k hk hk2))⟩
  have HR2 := Lib.hid hr2; have HGR := Lib.hid hgr
  clear hcm hcpA hcpB hROW hG hrow1 hrow2 hcs hfin hx1 hx2 hold hkk hik hR0 hGm hW1 wa0 wag wac hga hr1 hc1 hr2 hgr
  go_enter Tryz.func81, Tryz.ntmps81
  go_wp2_with (at_builtin; refine Lib.wpList_append_run _ rfl _ _ _ _ rfl _ _ rfl rfl _ _ (hrz _) ?_)
  go_region_with (fail)
  all_goals go_wp2_with fail
  all_goals go_ret
  all_goals exact ⟨G, row2, rfl, HR2.out, HGN.out, HGM.out, HFIN.out.1, HFIN.out.2, HGR.out⟩
end Go.Proofs.YtdkggnciamfcmaaGreatDoor

namespace Go.Proofs.YtdkggnciamfcmaaGreatDoor
set_option linter.unusedVariables false
open Go.RowKit
open M (V)

theorem insv_any {base n g q : Nat} {v : Value} {xs : List Value} {w : World} {k i : Int} {t : ByteArray} {A B : Option Addr} {m c p e : Nat} {T : TypeId} (hq : q ≤ n) (hown : w.ownsRow base 25 5 v n xs) (h1x : ∀ u ∈ xs, u.oneCell' = true)
    (hg : w.heap[g]? = some (.cells #[.int .i64 k, .int .i64 i, .string t, .slice A m c, .slice B p e] T (0, 0))) (hne : v.ownBlock ≠ some g) (hn : n ≤ 1000000) (hbase : base ≤ w.heap.size) :
    Calls Tryz.prog 82 #[v, .int .i64 (q : Int), .slice (some ⟨g, 0, none⟩) 1 1] w (Insd base 25 5 v n (xs.take (q * 5) ++ [.int .i64 k, .int .i64 i, .string t, .slice A m c, .slice B p e] ++ xs.drop (q * 5)) w) := by
  have hl := hown.1
  rcases Nat.eq_or_lt_of_le hq with rfl | hlt
  · rw [List.take_of_length_le (by omega), List.drop_eq_nil_of_le (by omega), List.append_nil]
    exact insv_end hown hg hn hbase
  rcases hown.2 with ⟨rfl, rfl⟩ | ⟨g0, cap, cur, rfl, h1, h2, h3, h4, h5, h6⟩
  · omega
  have hg0 : g ≠ g0 := fun e => hne (by rw [e]; rfl)
  have hone : ∀ u ∈ (#[.int .i64 k, .int .i64 i, .string t, .slice A m c, .slice B p e] : Array Value).toList, u.oneCell' = true := fun u hu => by
    simp only [List.mem_cons, List.not_mem_nil, or_false] at hu
    rcases hu with rfl | rfl | rfl | rfl | rfl <;> rfl
  have hlen : ∀ row2 : Array Value, row2.toList.take ((n + 1) * 5) = (cur.toList.take (n * 5)).take (q * 5) ++ [Value.int .i64 k, Value.int .i64 i, Value.string t, Value.slice A m c, Value.slice B p e] ++ (cur.toList.take (n * 5)).drop (q * 5) → (xs.take (q * 5) ++ [Value.int .i64 k, Value.int .i64 i, Value.string t, Value.slice A m c, Value.slice B p e] ++ xs.drop (q * 5)).length = (n + 1) * 5 ∧ row2.toList.take ((n + 1) * 5) = xs.take (q * 5) ++ [Value.int .i64 k, Value.int .i64 i, Value.string t, Value.slice A m c, Value.slice B p e] ++ xs.drop (q * 5) := fun row2 h => by
    rw [h6] at h
    exact ⟨by simp; omega, h⟩
  by_cases hroom : n + 1 ≤ cap
  · refine (insv_shift (base := base) hlt hroom h4 hn h2 h5 hg0 hg rfl hone (by rw [h6]; exact h1x)).mono ?_
    rintro r w' ⟨rfl, row2, k1, k2, k3, k4⟩
    obtain ⟨k5, k6⟩ := hlen row2 k3
    exact ⟨g0, cap, rfl, ⟨k5, .inr ⟨g0, cap, row2, rfl, h1, k1, hroom, h4, k2, k6⟩⟩, k4, .inl rfl, row_lt k1⟩
  · refine (insv_grow hlt h3 (by omega) h4 hn h2 h5 hg0 hg rfl hone (by rw [h6]; exact h1x)).mono ?_
    rintro r w' ⟨G, row2, rfl, k1, k2, k3, k4, k5, k6⟩
    obtain ⟨k7, k8⟩ := hlen row2 k5
    exact ⟨w.heap.size, G, rfl, ⟨k7, .inr ⟨w.heap.size, G, row2, rfl, hbase, k1, k2, k3, k4, k8⟩⟩, ⟨k6.os, k6.tape, k6.output, k6.size, fun j hj _ => k6.block j hj (by simp)⟩, .inr (Nat.le_refl _), row_lt k1⟩

theorem insk_any {base n g q : Nat} {v : Value} {xs : List Value} {w : World} {k : ByteArray} {T : TypeId} (hq : q ≤ n) (hown : w.ownsRow base 9 1 v n xs) (h1x : ∀ u ∈ xs, u.oneCell' = true)
    (hg : w.heap[g]? = some (.cells #[.string k] T (0, 0))) (hne : v.ownBlock ≠ some g) (hn : n ≤ 1000000) (hbase : base ≤ w.heap.size) :
    Calls Tryz.prog 81 #[v, .int .i64 (q : Int), .slice (some ⟨g, 0, none⟩) 1 1] w (Insd base 9 1 v n (xs.take q ++ [.string k] ++ xs.drop q) w) := by
  have hl := hown.1
  rcases Nat.eq_or_lt_of_le hq with rfl | hlt
  · rw [List.take_of_length_le (by omega), List.drop_eq_nil_of_le (by omega), List.append_nil]
    exact insk_end hown hg hn hbase
  rcases hown.2 with ⟨rfl, rfl⟩ | ⟨g0, cap, cur, rfl, h1, h2, h3, h4, h5, h6⟩
  · omega
  have hg0 : g ≠ g0 := fun e => hne (by rw [e]; rfl)
  have hone : ∀ u ∈ (#[.string k] : Array Value).toList, u.oneCell' = true := fun u hu => by
    obtain rfl := List.mem_singleton.1 hu; rfl
  rw [Nat.mul_one] at h6
  have hlen : ∀ row2 : Array Value, row2.toList.take (n + 1) = (cur.toList.take n).take q ++ [Value.string k] ++ (cur.toList.take n).drop q → (xs.take q ++ [Value.string k] ++ xs.drop q).length = (n + 1) * 1 ∧ row2.toList.take ((n + 1) * 1) = xs.take q ++ [Value.string k] ++ xs.drop q := fun row2 h => by
    rw [h6] at h
    exact ⟨by simp; omega, by rw [Nat.mul_one]; exact h⟩
  by_cases hroom : n + 1 ≤ cap
  · refine (insk_shift (base := base) hlt hroom h4 hn h2 (by omega) hg0 hg rfl hone (by rw [h6]; exact h1x)).mono ?_
    rintro r w' ⟨rfl, row2, k1, k2, k3, k4⟩
    obtain ⟨k5, k6⟩ := hlen row2 k3
    exact ⟨g0, cap, rfl, ⟨k5, .inr ⟨g0, cap, row2, rfl, h1, k1, hroom, h4, by omega, k6⟩⟩, k4, .inl rfl, row_lt k1⟩
  · refine (insk_grow hlt h3 (by omega) h4 hn h2 (by omega) hg0 hg rfl hone (by rw [h6]; exact h1x)).mono ?_
    rintro r w' ⟨G, row2, rfl, k1, k2, k3, k4, k5, k6⟩
    obtain ⟨k7, k8⟩ := hlen row2 k5
    exact ⟨w.heap.size, G, rfl, ⟨k7, .inr ⟨w.heap.size, G, row2, rfl, hbase, k1, k2, k3, by omega, k8⟩⟩, ⟨k6.os, k6.tape, k6.output, k6.size, fun j hj _ => k6.block j hj (by simp)⟩, .inr (Nat.le_refl _), row_lt k1⟩
end Go.Proofs.YtdkggnciamfcmaaGreatDoor

namespace Go.Proofs.YtdkggnciamfcmaaGreatDoor
set_option linter.unusedVariables false
open Go.RowKit
open M (V insAt)

section
variable {w w1 w2 w3 : World} {base M d l B g cap : Nat} {u0 u1 u2 vI vK : Value} {cI : List Value} {ks : List ByteArray} {its : List V} {T : TypeId} {o : Obj}
/-- One more key, anywhere. -/
theorem Grw.keyAt {ks2 : List ByteArray} (hk2 : ks2.length = ks.length + 1) (h : Grw w1 base M d u0 u1 u2 vI vK cI ks its T) (hf : Frm w1.heap.size l B w1 w2) (hl : l < M) (hB : B ≤ M)
    (h1 : w3.ownsRow base 9 1 (.slice (some ⟨g, 0, none⟩) (ks.length + 1) cap) (ks.length + 1) (ks2.map Value.string)) (h2 : (w2.alloc o).grownBy w3 vK.ownBlock)
    (h3 : vK.ownBlock = some g ∨ w2.heap.size + 1 ≤ g) :
    Grw (w3.setCell ⟨M, 4, none⟩ (.slice (some ⟨g, 0, none⟩) (ks.length + 1) cap)) base M d u0 u1 u2 vI (.slice (some ⟨g, 0, none⟩) (ks.length + 1) cap) cI ks2 its T := by
  have hG := h.frm hf hl hB
  have hlow := h.low
  have hhigh := h.high
  have hs1 := hf.size
  have hs2 := h2.size
  simp only [World.size_alloc] at hs2
  have hg1 : w2.grownBy w3 vK.ownBlock := (World.grownBy_alloc w2 o vK.ownBlock).trans h2
  have hM3 : w3.heap[M]? = some (.cells #[u0, u1, u2, vI, vK] T (0, 0)) := (hg1.block M (by omega) h.ne2).trans hG.box
  have hset : w3.grownBy (w3.setCell ⟨M, 4, none⟩ (.slice (some ⟨g, 0, none⟩) (ks.length + 1) cap)) (some M) := ⟨rfl, rfl, rfl, by simp [World.setCell], fun k _ hk => heap_setCell_other w3 ⟨M, 4, none⟩ k _ (by intro e; exact hk (by rw [e]))⟩
  have hlt := fun k e => World.ownsRow.lt h.os k e
  have hgM : g ≠ M := by rcases h3 with e | e
                         · have := (hlt _ e).1; omega
                         · omega
  refine ⟨heap_setCell_same _ _ 4 _ _ _ hM3, ?_, ?_, ?_, hlow, by rw [set_size]; omega⟩
  · have e3 := World.ownsRow.kept hG.ov hg1 (own_other (w' := w2) hG.ov hG.os (by decide))
    exact World.ownsRow.kept e3 hset (.inr (fun e => by have := (World.ownsRow.lt e3 _ e).1; omega))
  · exact World.ownsRow.kept (show OS w3 base _ ks2 by unfold OS; rw [hk2]; exact h1) hset (.inr (fun e => hgM (by injection e)))
  · intro q hq
    obtain ⟨a, b, e1, e2, e3, e4, e5⟩ := hG.el q hq
    refine ⟨a, b, e1, by rw [set_size]; omega, e3, fun k' hk' => ?_, ?_⟩
    · injection hk' with hk'
      have hk' : g = k' := hk'
      subst hk'
      rcases h3 with e | e
      · exact e4 _ e
      · exact .inr (by omega)
    · refine e5.kept fun k' k1 k2 => ?_
      rw [heap_setCell_other _ _ _ _ (show k' ≠ M by omega)]
      exact hg1.block k' (by omega) (fun e => by rcases e4 k' e.symm with h | h <;> omega)
/-- One more item, anywhere. -/
theorem Grw.itemAt {q0 : Nat} (hq0 : q0 ≤ its.length) {k i : Int} {s : ByteArray} {x y : Value} {t : V} (h : Grw w1 base M d u0 u1 u2 vI vK cI ks its T) (hf : Frm w1.heap.size l B w1 w2) (hl : l < M) (hB : B ≤ M)
    (hv : VB w2 w1.heap.size w2.heap.size d (.agg #[.int .i64 k, .int .i64 i, .string s, x, y]) t)
    (h1 : w3.ownsRow base 25 5 (.slice (some ⟨g, 0, none⟩) (its.length + 1) cap) (its.length + 1) (cI.take (q0 * 5) ++ [.int .i64 k, .int .i64 i, .string s, x, y] ++ cI.drop (q0 * 5))) (h2 : (w2.alloc o).grownBy w3 vI.ownBlock)
    (h3 : vI.ownBlock = some g ∨ w2.heap.size + 1 ≤ g) :
    Grw (w3.setCell ⟨M, 3, none⟩ (.slice (some ⟨g, 0, none⟩) (its.length + 1) cap)) base M d u0 u1 u2 (.slice (some ⟨g, 0, none⟩) (its.length + 1) cap) vK (cI.take (q0 * 5) ++ [.int .i64 k, .int .i64 i, .string s, x, y] ++ cI.drop (q0 * 5)) ks (insAt q0 t its) T := by
  have hG := h.frm hf hl hB
  have hlow := h.low
  have hhigh := h.high
  have hs1 := hf.size
  have hs2 := h2.size
  simp only [World.size_alloc] at hs2
  have hg1 : w2.grownBy w3 vI.ownBlock := (World.grownBy_alloc w2 o vI.ownBlock).trans h2
  have hM3 : w3.heap[M]? = some (.cells #[u0, u1, u2, vI, vK] T (0, 0)) := (hg1.block M (by omega) h.ne1).trans hG.box
  have hset : w3.grownBy (w3.setCell ⟨M, 3, none⟩ (.slice (some ⟨g, 0, none⟩) (its.length + 1) cap)) (some M) := ⟨rfl, rfl, rfl, by simp [World.setCell], fun k _ hk => heap_setCell_other w3 ⟨M, 3, none⟩ k _ (by intro e; exact hk (by rw [e]))⟩
  have hgM : g ≠ M := by rcases h3 with e | e
                         · have := (h.ov.lt _ e).1; omega
                         · omega
  have hgs : base ≤ g := by rcases h3 with e | e
                            · exact (h.ov.lt _ e).1
                            · omega
  have hlen : (insAt q0 t its).length = its.length + 1 := by simp [insAt]; omega
  refine ⟨heap_setCell_same _ _ 3 _ _ _ hM3, by rw [hlen]; exact World.ownsRow.kept h1 hset (.inr (fun e => hgM (by injection e))), ?_, ?_, hlow, by rw [set_size]; omega⟩
  · have e3 := World.ownsRow.kept hG.os hg1 (own_other (w' := w2) hG.os hG.ov (by decide))
    exact World.ownsRow.kept e3 hset (.inr (fun e => by have := (World.ownsRow.lt e3 _ e).1; omega))
  · intro q hq
    rw [hlen] at hq
    have hcl : cI.length = its.length * 5 := h.ov.1
    have gl : ∀ r, r < 5 → (cI.take (q0 * 5) ++ [Value.int .i64 k, .int .i64 i, .string s, x, y] ++ cI.drop (q0 * 5)).toArray[q0 * 5 + r]? = [Value.int .i64 k, .int .i64 i, .string s, x, y][r]? := fun r hr => by
      have hlt : (cI.take (q0 * 5)).length = q0 * 5 := by rw [List.length_take]; omega
      simp only [List.getElem?_toArray]
      rw [List.getElem?_append_left (by simp; omega), List.getElem?_append_right (by omega), hlt]
      congr 1; omega
    have lo : ∀ z, z < q0 * 5 → (cI.take (q0 * 5) ++ [Value.int .i64 k, .int .i64 i, .string s, x, y] ++ cI.drop (q0 * 5)).toArray[z]? = cI.toArray[z]? := fun z hz => by
      simp only [List.getElem?_toArray]
      rw [List.append_assoc, List.getElem?_append_left (by rw [List.length_take]; omega), List.getElem?_take_of_lt hz]
    have hi : ∀ z, q0 * 5 ≤ z → (cI.take (q0 * 5) ++ [Value.int .i64 k, .int .i64 i, .string s, x, y] ++ cI.drop (q0 * 5)).toArray[z + 5]? = cI.toArray[z]? := fun z hz => by
      simp only [List.getElem?_toArray]
      rw [List.getElem?_append_right (by simp; omega), List.getElem?_drop]
      congr 1; simp; omega
    have old : ∀ q1, q1 < its.length → (∀ r, r < 5 → (cI.take (q0 * 5) ++ [Value.int .i64 k, .int .i64 i, .string s, x, y] ++ cI.drop (q0 * 5)).toArray[q * 5 + r]? = cI.toArray[q1 * 5 + r]?) → (insAt q0 t its).getD q default = its.getD q1 default →
        ElemB (w3.setCell ⟨M, 3, none⟩ (.slice (some ⟨g, 0, none⟩) (its.length + 1) cap)) base d (Value.slice (some ⟨g, 0, none⟩) (its.length + 1) cap).ownBlock vK.ownBlock (cI.take (q0 * 5) ++ [Value.int .i64 k, .int .i64 i, .string s, x, y] ++ cI.drop (q0 * 5)).toArray q ((insAt q0 t its).getD q default) := fun q1 hq1 hr hd => by
      obtain ⟨a, b, e1, e2, e3, e4, e5⟩ := hG.el q1 hq1
      rw [hd]
      refine ⟨a, b, e1, by rw [set_size]; omega, fun k' hk' => ?_, e4, ?_⟩
      · injection hk' with hk'
        have hk' : g = k' := hk'
        subst hk'
        rcases h3 with e | e
        · exact e3 _ e
        · exact .inr (by omega)
      · have e6 := e5.kept (w' := w3.setCell ⟨M, 3, none⟩ (.slice (some ⟨g, 0, none⟩) (its.length + 1) cap)) fun k' k1 k2 => (by
          rw [heap_setCell_other _ _ _ _ (show k' ≠ M by omega)]
          exact hg1.block k' (by omega) (fun e => by rcases e3 k' e.symm with h | h <;> omega))
        obtain ⟨k0, i0, s0, x0, y0, c0, c1, c2, c3, c4, hv0⟩ := e6
        exact ⟨k0, i0, s0, x0, y0, (hr 0 (by omega)).trans c0, (hr 1 (by omega)).trans c1, (hr 2 (by omega)).trans c2, (hr 3 (by omega)).trans c3, (hr 4 (by omega)).trans c4, hv0⟩
    have hgd : ∀ z, (insAt q0 t its).getD z default = if z < q0 then its.getD z default else if z = q0 then t else its.getD (z - 1) default := fun z => by
      have hlt : (its.take q0).length = q0 := by rw [List.length_take]; omega
      unfold insAt
      rcases Nat.lt_trichotomy z q0 with hz | hz | hz
      · rw [if_pos hz]
        simp only [List.getD]
        rw [List.getElem?_append_left (by omega), List.getElem?_take_of_lt hz]
      · subst hz
        rw [if_neg (by omega), if_pos rfl]
        simp only [List.getD]
        rw [List.getElem?_append_right (by omega), hlt, Nat.sub_self]; rfl
      · rw [if_neg (by omega), if_neg (by omega)]
        simp only [List.getD]
        rw [List.getElem?_append_right (by omega), hlt, show z - q0 = (z - 1 - q0) + 1 by omega, List.getElem?_cons_succ, List.getElem?_drop]
        congr 2; omega
    rcases Nat.lt_trichotomy q q0 with hql | hql | hql
    · exact old q (by omega) (fun r hr => lo _ (by omega)) (by rw [hgd, if_pos hql])
    · subst hql
      rw [hgd, if_neg (by omega), if_pos rfl]
      refine ⟨w1.heap.size, w2.heap.size, hhigh, by rw [set_size]; omega, fun k' hk' => ?_, fun k' hk' => .inl (World.ownsRow.lt h.os _ hk').2, k, i, s, x, y, gl 0 (by omega), gl 1 (by omega), gl 2 (by omega), gl 3 (by omega), gl 4 (by omega), ?_⟩
      · injection hk' with hk'
        have hk' : g = k' := hk'
        subst hk'
        rcases h3 with e | e
        · exact .inl (h.ov.lt _ e).2
        · exact .inr (by omega)
      · refine hv.kept fun b b1 b2 => ?_
        rw [heap_setCell_other _ _ _ _ (show b ≠ M by omega)]
        exact hg1.block b (by omega) (fun e => by have := (h.ov.lt _ e.symm).2; omega)
    · exact old (q - 1) (by omega) (fun r hr => by rw [show q * 5 + r = ((q - 1) * 5 + r) + 5 by omega]; exact hi _ (by omega)) (by rw [hgd, if_neg (by omega), if_neg (by omega)])
end
end Go.Proofs.YtdkggnciamfcmaaGreatDoor

namespace Go.Proofs.YtdkggnciamfcmaaGreatDoor
set_option linter.unusedVariables false
open M (V Res)
namespace M

def Fwd {α : Type} (s : ByteArray) (i b : Nat) (r : Res α) : Prop := ∀ a j b', r = .ok a j b' → i ≤ j ∧ j ≤ s.size ∧ b ≤ b'
theorem Fwd.no {α : Type} {s : ByteArray} {i b k : Nat} {e : Int} : Fwd s i b (.no k e : Res α) := fun _ _ _ h => by cases h
theorem Fwd.ok {α : Type} {s : ByteArray} {i b j b' : Nat} {a : α} (h1 : i ≤ j) (h2 : j ≤ s.size) (h3 : b ≤ b') : Fwd s i b (.ok a j b') := fun _ _ _ h => by injection h with _ e1 e2; subst e1 e2; exact ⟨h1, h2, h3⟩
theorem Fwd.then {α β : Type} {s : ByteArray} {i b : Nat} {r : Res α} {f : α → Nat → Nat → Res β} (h : Fwd s i b r) (hf : ∀ a j b', i ≤ j → j ≤ s.size → b ≤ b' → Fwd s j b' (f a j b')) : Fwd s i b (r.then f) := by
  cases r with
  | no k e => exact Fwd.no
  | ok a j b' =>
    obtain ⟨h1, h2, h3⟩ := h a j b' rfl
    intro a2 j2 b2 h4
    obtain ⟨g1, g2, g3⟩ := hf a j b' h1 h2 h3 a2 j2 b2 h4
    exact ⟨by omega, g2, by omega⟩
section
variable {s : ByteArray} {i b : Nat} (hi : i ≤ s.size)
theorem fwd_take : Fwd s i b (take s i b) := fun a j b' h => by
  obtain ⟨h1, h2, h3, h4⟩ := take_inv h.symm
  omega
include hi in
theorem fwd_vis : Fwd s i b (vis s i b) := fun a j b' h => by
  obtain ⟨h1, h2, h3, h4⟩ := vis_inv h.symm
  have := skip_le hi
  omega
include hi in
theorem fwd_want (x c : Nat) : Fwd s i b (want x c i b) := by
  unfold want; split
  · exact Fwd.ok (Nat.le_refl _) hi (Nat.le_refl _)
  · exact Fwd.no
include hi in
theorem fwd_first (c : Nat) : Fwd s i b (first s c i b) := fun a j b' h => by
  have := first_inv hi h.symm
  omega
include hi in
theorem fwd_next (c : Nat) : Fwd s i b (next s c i b) := fun a j b' h => by
  have := next_inv hi h.symm
  omega
end
theorem fwd_word (s : ByteArray) : ∀ (l : List UInt8) (i b : Nat), i ≤ s.size → Fwd s i b (word s l i b)
  | [], i, b, hi => Fwd.ok (Nat.le_refl _) hi (Nat.le_refl _)
  | c :: l, i, b, hi => by
    rw [word]
    exact fwd_take.then fun a j b' h1 h2 h3 => (fwd_want h2 _ _).then fun _ j b _ h2 _ => fwd_word s l j b h2
theorem fwd_letter {s : ByteArray} {c i b : Nat} (hi : i ≤ s.size) (hc : c < 256) : Fwd s i b (letter s c i b) := fun a j b' h => by
  have := letter_inv hi hc h.symm
  omega
theorem fwd_litL (s : ByteArray) : ∀ (f : Nat) (acc : List UInt8) (c i b : Nat), i ≤ s.size → c < 256 → Fwd s i b (litL s f acc c i b)
  | 0, _, _, _, _, _, _ => Fwd.no
  | f + 1, acc, c, i, b, hi, hc => by
    rw [litL]
    split
    · exact Fwd.ok (Nat.le_refl _) hi (Nat.le_refl _)
    · refine (fwd_letter hi hc).then fun x j b' h1 h2 h3 => ?_
      obtain ⟨q, hq⟩ : ∃ q, q = take s j b' := ⟨_, rfl⟩
      rw [← hq]
      cases q with
      | no k e => exact Fwd.no
      | ok d k b2 =>
        obtain ⟨g1, g2, g3, g4⟩ := take_inv hq
        rw [Res.then_ok]
        have := fwd_litL s f (acc ++ [UInt8.ofNat x]) d k b2 (by omega) (by rw [g2]; exact ch_lt s j)
        intro a j2 b3 h4
        have := this a j2 b3 h4
        omega
theorem fwd_lit {s : ByteArray} {i b : Nat} : Fwd s i b (lit s i b) := by
  unfold lit
  obtain ⟨q, hq⟩ : ∃ q, q = take s i b := ⟨_, rfl⟩
  rw [← hq]
  cases q with
  | no k e => exact Fwd.no
  | ok d k b2 =>
    obtain ⟨g1, g2, g3, g4⟩ := take_inv hq
    rw [Res.then_ok]
    have hh : Fwd s i b (litL s (s.size + 1 - k) [] d k b2) := fun a j b' h => by
      have := fwd_litL s (s.size + 1 - k) [] d k b2 (by omega) (by rw [g2]; exact ch_lt s i) a j b' h
      omega
    refine hh.then fun l k b h1 h2 h3 => ?_
    split
    · exact Fwd.no
    · exact Fwd.ok (Nat.le_refl _) h2 (Nat.le_refl _)
theorem fwd_int {s : ByteArray} {c i b : Nat} (hi : i ≤ s.size) : Fwd s i b (int s c i b) := by
  unfold int
  have hl : Fwd s i b (lead s c i b) := by
    unfold lead
    split
    · refine fwd_take.then fun d j b h1 h2 h3 => ?_
      split
      · exact Fwd.no
      · exact Fwd.ok (Nat.le_refl _) h2 (Nat.le_refl _)
    · exact Fwd.ok (Nat.le_refl _) hi (Nat.le_refl _)
  refine hl.then fun d j b' h1 h2 h3 => ?_
  unfold tail
  have := digs_le h2
  split
  · exact Fwd.no
  · split
    · exact Fwd.ok (by omega) (by omega) (Nat.le_refl _)
    · exact Fwd.no
theorem fwd_pl {s : ByteArray} {p : Nat → Nat → Res V} (hp : ∀ i b, i ≤ s.size → Fwd s i b (p i b)) : ∀ (k : Nat) (acc : List V) (m : Bool) (i b : Nat), i ≤ s.size → Fwd s i b (pl s p k acc m i b)
  | 0, acc, false, i, b, hi => Fwd.ok (Nat.le_refl _) hi (Nat.le_refl _)
  | k + 1, acc, false, i, b, hi => Fwd.ok (Nat.le_refl _) hi (Nat.le_refl _)
  | 0, acc, true, i, b, hi => Fwd.no
  | k + 1, acc, true, i, b, hi => (hp i b hi).then fun t j b' _ h2 _ => (fwd_next h2 _).then fun m j b _ h2 _ => fwd_pl hp k _ m j b h2
theorem fwd_plist {s : ByteArray} {p : Nat → Nat → Res V} (hp : ∀ i b, i ≤ s.size → Fwd s i b (p i b)) {i b : Nat} (hi : i ≤ s.size) : Fwd s i b (plist s p i b) :=
  (fwd_first hi _).then fun m j b _ h2 _ => (fwd_pl hp _ _ m j b h2).then fun l j b _ h2 _ => Fwd.ok (Nat.le_refl _) h2 (Nat.le_refl _)
theorem fwd_nkey {s : ByteArray} {ks : List ByteArray} {i b : Nat} (hi : i ≤ s.size) : Fwd s i b (nkey s ks i b) :=
  (fwd_vis hi).then fun c j b _ h2 _ => (fwd_want h2 _ _).then fun _ j b _ h2 _ => fwd_lit.then fun k j2 b _ h2 _ => by
    split
    · exact Fwd.no
    · exact Fwd.ok (Nat.le_refl _) h2 (Nat.le_refl _)
theorem fwd_pm {s : ByteArray} {p : Nat → Nat → Res V} (hp : ∀ i b, i ≤ s.size → Fwd s i b (p i b)) : ∀ (k : Nat) (ks : List ByteArray) (its : List V) (m : Bool) (i b : Nat), i ≤ s.size → Fwd s i b (pm s p k ks its m i b)
  | 0, _, _, false, i, b, hi => Fwd.ok (Nat.le_refl _) hi (Nat.le_refl _)
  | k + 1, _, _, false, i, b, hi => Fwd.ok (Nat.le_refl _) hi (Nat.le_refl _)
  | 0, _, _, true, i, b, hi => Fwd.no
  | k + 1, _, _, true, i, b, hi => (fwd_nkey hi).then fun key j b _ h2 _ => (fwd_vis h2).then fun c j b _ h2 _ => (fwd_want h2 _ _).then fun _ j b _ h2 _ => (hp j b h2).then fun t j b' _ h2 _ => (fwd_next h2 _).then fun m j b _ h2 _ => fwd_pm hp k _ _ m j b h2
theorem fwd_ppairs {s : ByteArray} {p : Nat → Nat → Res V} (hp : ∀ i b, i ≤ s.size → Fwd s i b (p i b)) {i b : Nat} (hi : i ≤ s.size) : Fwd s i b (ppairs s p i b) :=
  (fwd_first hi _).then fun m j b _ h2 _ => (fwd_pm hp _ _ _ m j b h2).then fun l j b _ h2 _ => Fwd.ok (Nat.le_refl _) h2 (Nat.le_refl _)
theorem fwd_pbody {s : ByteArray} {p : Nat → Nat → Res V} (hp : ∀ i b, i ≤ s.size → Fwd s i b (p i b)) {c i b : Nat} (hi : i ≤ s.size) : Fwd s i b (pbody s p c i b) := by
  have hw : ∀ (l : List UInt8) (t : V), Fwd s i b ((word s l i b).then fun _ j b => (.ok t j b : Res V)) := fun l t => (fwd_word s l i b hi).then fun _ j b _ h2 _ => Fwd.ok (Nat.le_refl _) h2 (Nat.le_refl _)
  unfold pbody
  split
  · exact hw _ _
  split
  · exact hw _ _
  split
  · exact hw _ _
  split
  · exact fwd_lit.then fun _ j b _ h2 _ => Fwd.ok (Nat.le_refl _) h2 (Nat.le_refl _)
  split
  · exact fwd_plist hp hi
  split
  · exact fwd_ppairs hp hi
  · exact (fwd_int hi).then fun _ j b _ h2 _ => Fwd.ok (Nat.le_refl _) h2 (Nat.le_refl _)
theorem pv_on : ∀ (f : Nat) (s : ByteArray) (i b j b' : Nat) (t : V), i ≤ s.size → Res.ok t j b' = pv f s i b → i < j ∧ j ≤ s.size ∧ b < b'
  | 0, s, i, b, j, b', t, hi, h => by
    unfold pv at h
    obtain ⟨q, hq⟩ : ∃ q, q = bgn s 17 i b := ⟨_, rfl⟩
    rw [← hq] at h
    cases q with
    | no k e => cases h
    | ok c k b2 => cases h
  | f + 1, s, i, b, j, b', t, hi, h => by
    unfold pv at h
    obtain ⟨q, hq⟩ : ∃ q, q = bgn s (16 - f) i b := ⟨_, rfl⟩
    rw [← hq] at h
    cases q with
    | no k e => cases h
    | ok c k b2 =>
      obtain ⟨h1, h2, h3, h4, h5⟩ := bgn_inv hq
      have h6 := skip_le hi
      rw [Res.then_ok] at h
      have hp : ∀ i b, i ≤ s.size → Fwd s i b (pv f s i b) := fun i b hi a j b' hh => by
        have := pv_on f s i b j b' a hi hh.symm
        omega
      have := fwd_pbody hp (c := c) (b := b2) (show k ≤ s.size by omega) t j b' h.symm
      omega
end M
theorem steps_pv (f : Nat) : stepsOn (M.pv f) := fun s i b j b' t hi h => M.pv_on f s i b j b' t hi h
end Go.Proofs.YtdkggnciamfcmaaGreatDoor

namespace Go.Proofs.YtdkggnciamfcmaaGreatDoor
set_option linter.unusedVariables false
open M (V Res)
namespace M
open Go.Op (bytesLess)

theorem rise_none : Rise [] := fun i hi => absurd hi (by simp)
theorem insAt_len {α : Type} {p : Nat} {x : α} {l : List α} (h : p ≤ l.length) : (insAt p x l).length = l.length + 1 := by unfold insAt; simp; omega
theorem insAt_getD {α : Type} {d x : α} {q0 : Nat} {l : List α} (hq : q0 ≤ l.length) (z : Nat) : (insAt q0 x l).getD z d = if z < q0 then l.getD z d else if z = q0 then x else l.getD (z - 1) d := by
  have hlt : (l.take q0).length = q0 := by rw [List.length_take]; omega
  unfold insAt
  rcases Nat.lt_trichotomy z q0 with hz | hz | hz
  · rw [if_pos hz]
    simp only [List.getD]
    rw [List.getElem?_append_left (by omega), List.getElem?_take_of_lt hz]
  · subst hz
    rw [if_neg (by omega), if_pos rfl]
    simp only [List.getD]
    rw [List.getElem?_append_right (by omega), hlt, Nat.sub_self]; rfl
  · rw [if_neg (by omega), if_neg (by omega)]
    simp only [List.getD]
    rw [List.getElem?_append_right (by omega), hlt, show z - q0 = (z - 1 - q0) + 1 by omega, List.getElem?_cons_succ, List.getElem?_drop]
    congr 2; omega
theorem plc_le (ks : List ByteArray) (key : ByteArray) : plc ks key ≤ ks.length := by unfold plc; exact (List.takeWhile_sublist _).length_le
theorem plc_cons (k : ByteArray) (ks : List ByteArray) (key : ByteArray) : plc (k :: ks) key = if bytesLess k.toList key.toList = true then plc ks key + 1 else 0 := by
  unfold plc
  split
  · rename_i h; rw [List.takeWhile_cons_of_pos (by simpa using h), List.length_cons]
  · rename_i h; rw [List.takeWhile_cons_of_neg (by simpa using h)]; rfl
theorem plc_lt {key : ByteArray} : ∀ (ks : List ByteArray) (q : Nat), q < plc ks key → bytesLess (ks.getD q ByteArray.empty).toList key.toList = true
  | [], q, h => by simp [plc] at h
  | k :: ks, q, h => by
    rw [plc_cons] at h
    split at h
    · rename_i hk
      cases q with
      | zero => exact hk
      | succ q => simpa using plc_lt ks q (by omega)
    · omega
theorem plc_stop {key : ByteArray} : ∀ (ks : List ByteArray), plc ks key < ks.length → bytesLess (ks.getD (plc ks key) ByteArray.empty).toList key.toList = false
  | [], h => by simp at h
  | k :: ks, h => by
    rw [plc_cons] at h ⊢
    split at h
    · rename_i hk
      rw [if_pos hk]
      simpa using plc_stop ks (by simpa using h)
    · rename_i hk
      rw [if_neg hk]
      simpa using hk
theorem rise_ins {ks : List ByteArray} {key : ByteArray} (hr : Rise ks) (hn : ¬ (plc ks key < ks.length ∧ (ks.getD (plc ks key) ByteArray.empty).toList = key.toList)) : Rise (insAt (plc ks key) key ks) := by
  have hle := plc_le ks key
  intro i hi
  rw [insAt_len hle] at hi
  rw [insAt_getD hle, insAt_getD hle]
  rcases Nat.lt_trichotomy (i + 1) (plc ks key) with h | h | h
  · rw [if_pos (by omega), if_pos h]; exact hr i (by omega)
  · rw [if_pos (by omega), if_neg (by omega), if_pos h]
    exact plc_lt ks i (by omega)
  · rw [if_neg (show ¬ i + 1 < plc ks key by omega), if_neg (show ¬ i + 1 = plc ks key by omega)]
    rcases Nat.eq_or_lt_of_le (show plc ks key ≤ i by omega) with e | e
    · rw [if_neg (by omega), if_pos e.symm, ← e, Nat.add_sub_cancel]
      have h1 := plc_stop (key := key) ks (by omega)
      have h2 := less_flip_no h1
      rw [Bool.or_eq_true] at h2
      rcases h2 with h2 | h2
      · exact h2
      · exact absurd ⟨by omega, (by simpa using h2 : key.toList = _).symm⟩ hn
    · rw [if_neg (by omega), if_neg (by omega), Nat.add_sub_cancel]
      have := hr (i - 1) (by omega)
      rwa [show i - 1 + 1 = i by omega] at this
theorem nkey_new {s : ByteArray} {ks : List ByteArray} {i b j b' : Nat} {key : ByteArray} (h : Res.ok key j b' = nkey s ks i b) : key.size ≤ 4096 ∧ ¬ (plc ks key < ks.length ∧ (ks.getD (plc ks key) ByteArray.empty).toList = key.toList) := by
  unfold nkey at h
  obtain ⟨q, hq⟩ : ∃ q, q = vis s i b := ⟨_, rfl⟩
  rw [← hq] at h
  rcases q with ⟨c, j1, b1⟩ | ⟨k, e⟩
  rotate_left
  · cases h
  rw [Res.then_ok] at h
  obtain ⟨q, hq2⟩ : ∃ q, q = want 34 c j1 b1 := ⟨_, rfl⟩
  rw [← hq2] at h
  rcases q with ⟨u, j2, b2⟩ | ⟨k, e⟩
  rotate_left
  · cases h
  rw [Res.then_ok] at h
  obtain ⟨q, hq3⟩ : ∃ q, q = lit s j2 b2 := ⟨_, rfl⟩
  rw [← hq3] at h
  rcases q with ⟨x, j3, b3⟩ | ⟨k, e⟩
  rotate_left
  · cases h
  rw [Res.then_ok] at h
  split at h
  · cases h
  · rename_i hx
    injection h with e1 e2 e3
    subst e1
    exact ⟨lit_size hq3, hx⟩
theorem want_inv {x c i b j b' : Nat} {u : Unit} (h : Res.ok u j b' = want x c i b) : j = i ∧ b' = b ∧ c = x := by
  unfold want at h
  split at h
  · rename_i hc
    injection h with _ e2 e3
    exact ⟨e2, e3, hc⟩
  · cases h
end M
end Go.Proofs.YtdkggnciamfcmaaGreatDoor

namespace Go.Proofs.YtdkggnciamfcmaaGreatDoor
set_option linter.unusedVariables false
open Go.RowKit
open M (V Res)

theorem Grw.one {w : World} {base M0 d : Nat} {u0 u1 u2 vI vK : Value} {cI : List Value} {ks : List ByteArray} {its : List V} {T : TypeId} (h : Grw w base M0 d u0 u1 u2 vI vK cI ks its T) : ∀ u ∈ cI, u.oneCell' = true := by
  intro u hu
  obtain ⟨z, hz, rfl⟩ := List.mem_iff_getElem.1 hu
  have hl : cI.length = its.length * 5 := h.ov.1
  obtain ⟨a, b, _, _, _, _, k, i, s, x, y, c0, c1, c2, c3, c4, hv⟩ := h.el (z / 5) (by omega)
  obtain ⟨A, n, c, B, m, e, hv'⟩ := hv.agg
  injection hv' with hv'
  injection hv' with hv'
  simp only [List.cons.injEq, and_true] at hv'
  obtain ⟨-, -, -, rfl, rfl⟩ := hv'
  have hg : ∀ r u', z = z / 5 * 5 + r → cI.toArray[z / 5 * 5 + r]? = some u' → cI[z] = u' := fun r u' e1 e2 => by
    rw [← e1] at e2
    simp only [List.getElem?_toArray, List.getElem?_eq_getElem hz, Option.some.injEq] at e2
    exact e2
  have h5 : z % 5 = 0 ∨ z % 5 = 1 ∨ z % 5 = 2 ∨ z % 5 = 3 ∨ z % 5 = 4 := by omega
  rcases h5 with e | e | e | e | e
  · rw [hg 0 _ (by omega) c0]; rfl
  · rw [hg 1 _ (by omega) c1]; rfl
  · rw [hg 2 _ (by omega) c2]; rfl
  · rw [hg 3 _ (by omega) c3]; rfl
  · rw [hg 4 _ (by omega) c4]; rfl

set_option maxRecDepth 100000 in
set_option maxHeartbeats 4000000 in
theorem ppairs_any {f : Nat} (ih : parseAt f (M.pv f)) (hst : stepsOn (M.pv f)) (hf : f ≤ 16) : pairsAt f := by
  intro g i b s depth w hd h hD h8
  obtain ⟨r, hr⟩ : ∃ r, r = M.ppairs s (M.pv f s) i b := ⟨_, rfl⟩
  rw [← hr]
  have HR := Lib.hid hr
  clear hr
  have IH := Lib.hid ih
  have ST := Lib.hid hst
  have hq : IntKind.i64.wrap (depth + 1) = depth + 1 := IntWalk.i64_in _ (by omega)
  have HDE := Lib.hid hd
  have hgw := h.lt
  have hfit := h.fit
  have HDR := Lib.hid hD
  have hb0 := (Below.refl w.heap.size w).alloc (Nat.le_refl _) (.cells #[.int .i64 0, .int .i64 0, .string ByteArray.empty, .slice none 0 0, .slice none 0 0] 25)
  have hg2 : w.grownBy ((w.alloc (.cells #[.int .i64 0, .int .i64 0, .string ByteArray.empty, .slice none 0 0, .slice none 0 0] 25)).alloc (.cells #[.int .i64 5, .int .i64 0, .string ByteArray.empty, .slice none 0 0, .slice none 0 0] 25)) (some g) := (World.grownBy_alloc w _ (some g)).trans (World.grownBy_alloc _ _ (some g))
  have hz1 : (w.alloc (.cells #[.int .i64 0, .int .i64 0, .string ByteArray.empty, .slice none 0 0, .slice none 0 0] 25)).heap.size = w.heap.size + 1 := World.size_alloc _ _
  have hz2 : ((w.alloc (.cells #[.int .i64 0, .int .i64 0, .string ByteArray.empty, .slice none 0 0, .slice none 0 0] 25)).alloc (.cells #[.int .i64 5, .int .i64 0, .string ByteArray.empty, .slice none 0 0, .slice none 0 0] 25)).heap.size = w.heap.size + 1 + 1 := by rw [World.size_alloc, hz1]
  have hP1 : Prs ((w.alloc (.cells #[.int .i64 0, .int .i64 0, .string ByteArray.empty, .slice none 0 0, .slice none 0 0] 25)).alloc (.cells #[.int .i64 5, .int .i64 0, .string ByteArray.empty, .slice none 0 0, .slice none 0 0] 25)) g s i b := h.kept ((Below.heap_alloc _ _ _ (by omega)).trans (Below.heap_alloc _ _ _ hgw))
  have hZ2 : ((w.alloc (.cells #[.int .i64 0, .int .i64 0, .string ByteArray.empty, .slice none 0 0, .slice none 0 0] 25)).alloc (.cells #[.int .i64 5, .int .i64 0, .string ByteArray.empty, .slice none 0 0, .slice none 0 0] 25)).heap[w.heap.size]? = some (.cells #[.int .i64 0, .int .i64 0, .string ByteArray.empty, .slice none 0 0, .slice none 0 0] 25 (0, 0)) := (Below.heap_alloc _ _ _ (by omega)).trans (heap_alloc_new _ _)
  have hM2 : ((w.alloc (.cells #[.int .i64 0, .int .i64 0, .string ByteArray.empty, .slice none 0 0, .slice none 0 0] 25)).alloc (.cells #[.int .i64 5, .int .i64 0, .string ByteArray.empty, .slice none 0 0, .slice none 0 0] 25)).heap[w.heap.size + 1]? = some (.cells #[.int .i64 5, .int .i64 0, .string ByteArray.empty, .slice none 0 0, .slice none 0 0] 25 (0, 0)) := by rw [← hz1]; exact heap_alloc_new _ _
  clear ih hst hd h hD hb0 hz1
  go_enter Tryz.func49, Tryz.ntmps49
  go_wp2_with fail
  refine (first_any 125 hP1).mono ?_
  rintro e w2 ⟨hg3, hm⟩
  obtain ⟨q, hq⟩ : ∃ q, q = M.first s 125 i b := ⟨_, rfl⟩
  rw [← hq] at hm
  have HR2 : Hid (r = q.then fun m j b => (M.pm s (M.pv f s) (s.size + 1 - j) [] [] m j b).then fun r j b => .ok (.mk 5 0 ByteArray.empty r.2 r.1) j b) := Lib.hid (by rw [HR.out, hq]; rfl)
  rcases q with ⟨mo, j0, b0⟩ | ⟨kk, er⟩
  rotate_left
  · subst hm
    exact ⟨rfl, Ends.fault (hg2.trans hg3) (by rw [HR2.out]; rfl)⟩
  obtain ⟨v, rfl, hP2, rfl⟩ := hm
  obtain ⟨q1, q2, q3⟩ := M.first_inv hP1.le hq
  obtain ⟨R, hRd⟩ : ∃ R, R = M.pm s (M.pv f s) (s.size + 1 - j0) [] [] mo j0 b0 := ⟨_, rfl⟩
  have HR3 : Hid (r = R.then fun r j b => .ok (.mk 5 0 ByteArray.empty r.2 r.1) j b) := Lib.hid (by rw [HR2.out, hRd]; rfl)
  have HRD := Lib.hid hRd.symm
  have hz3 := hg3.size
  have HZ2 : Hid (w2.heap[w.heap.size]? = some (.cells #[.int .i64 0, .int .i64 0, .string ByteArray.empty, .slice none 0 0, .slice none 0 0] 25 (0, 0))) := Lib.hid ((hg3.block w.heap.size (by omega) (fun e => by injection e; omega)).trans hZ2)
  have hM3 : w2.heap[w.heap.size + 1]? = some (.cells #[.int .i64 5, .int .i64 0, .string ByteArray.empty, .slice none 0 0, .slice none 0 0] 25 (0, 0)) := (hg3.block (w.heap.size + 1) (by omega) (fun e => by injection e; omega)).trans hM2
  have HGR : Hid (Grw w2 (w.heap.size + 1 + 1) (w.heap.size + 1) (f + 1) (.int .i64 5) (.int .i64 0) (.string ByteArray.empty) (.slice none 0 0) (.slice none 0 0) [] [] [] 25) := Lib.hid (Grw.start hM3 (by omega) (by omega))
  have HP2 := Lib.hid hP2
  have HG2 := Lib.hid (hg2.trans hg3)
  obtain ⟨N, hN⟩ : ∃ N, N = w.heap.size + 1 := ⟨_, rfl⟩
  rw [← hN] at HGR
  have hNz : w.heap.size < N := by omega
  clear hg2 hP1 hM2 hZ2 hz2 hg3 hq hP2 q3 hRd hM3 hz3 HR HR2
  go_wp2_with fail
  rw [← hN]
  clear hN
  go_loopw [6] (fun mv wr => ∃ (mo : Bool) (fu j bj : Nat) (vI vK : Value) (cI : List Value) (ks : List ByteArray) (its : List V), mv = .bool mo ∧ Hid (Grw wr (N + 1) N (f + 1) (.int .i64 5) (.int .i64 0) (.string ByteArray.empty) vI vK cI ks its 25) ∧
      Hid (wr.heap[w.heap.size]? = some (.cells #[.int .i64 0, .int .i64 0, .string ByteArray.empty, .slice none 0 0, .slice none 0 0] 25 (0, 0))) ∧ Hid (Prs wr g s j bj) ∧ Hid (w.grownBy wr (some g)) ∧ Hid (M.pm s (M.pv f s) fu ks its mo j bj = R) ∧ s.size + 1 ≤ fu + j ∧ Hid (its.length ≤ bj) ∧ Hid (ks.length = its.length) ∧ Hid (M.Rise ks) ∧ Hid (∀ q, q < ks.length → (ks.getD q ByteArray.empty).size ≤ 140737488351232)) (fun _ wr => s.size - atOf wr g)
  case atStart => exact ⟨mo, s.size + 1 - j0, j0, b0, _, _, [], [], [], rfl, HGR, HZ2, HP2, HG2, HRD, by omega, Lib.hid (Nat.zero_le _), Lib.hid rfl, Lib.hid M.rise_none, Lib.hid (fun q h => absurd h (by simp))⟩
  case round =>
    clear HGR HZ2 HP2 HG2 HRD
    obtain ⟨mo, fu, j, bj, vI, vK, cI, ks, its, rfl, HG, HZ, HP, HW, HE, hfu, HL, HKL, HRI, HKZ⟩ := hrel
    have hhi := HG.out.high
    have hjs := HP.out.le
    have HAT := Lib.hid (atOf_eq HP.out)
    have hhlt : wr.heap.size > N := by omega
    have hhlz : wr.heap.size > w.heap.size := by omega
    have HLEN : Hid (its.length ≤ 1000) := Lib.hid (by have := HL.out; have := HP.out.cnt; omega)
    obtain ⟨A7, c7, B7, e7, rfl, rfl, his, hks⟩ := HG.out.done (by have := HLEN.out; omega) (by have := HLEN.out; have := HKL.out; omega) HKZ.out
    obtain ⟨m0, m1, m2, m3, m4, -⟩ := lit5 HG.out.box
    have HIS := Lib.hid his; have HKS := Lib.hid hks
    clear his hks
    cases mo with
    | false =>
      obtain ⟨g0, g1, g2', g3, g4, e0, e1, e2, e3, e4⟩ := lit5 HZ.out
      have HE' : Hid (r = .ok (.mk 5 0 ByteArray.empty its ks) j bj) := Lib.hid (by rw [HR3.out, ← HE.out]; cases fu <;> rfl)
      clear HL HE
      go_wp2_with fail
      have hfin := lit_stored HZ.out (.int .i64 5) (.int .i64 0) (.string ByteArray.empty) (.slice A7 its.length c7) (.slice B7 ks.length e7)
      refine bodyPost_ret (v := .agg #[.int .i64 5, .int .i64 0, .string ByteArray.empty, .slice A7 its.length c7, .slice B7 ks.length e7]) (results_cell_row Tryz.results49 _ _ w.heap.size 25 _ (0, 0) _ rfl hfin Tryz.underlying25 rfl (by kernel_rfl)) rfl ?_
      exact value_end (t := .mk 5 0 ByteArray.empty its ks) hgw (show w.heap.size < N + 1 by omega) ⟨A7, its.length, c7, B7, ks.length, e7, rfl, by simp [V.k], by simp [V.k], by simp [V.n], by simp [V.n], by simp [V.s], HIS.out, HKS.out⟩ HP.out HW.out HE'
    | true =>
      obtain ⟨fu, rfl⟩ : ∃ k, fu = k + 1 := ⟨fu - 1, by omega⟩
      go_wp2_with fail
      refine (nkey_any HP.out HKS.out (Nat.le_refl _) (.inl (by omega)) HRI.out).mono ?_
      obtain ⟨q, hq⟩ : ∃ q, q = M.nkey s ks j bj := ⟨_, rfl⟩
      have HE2 : Hid (R = (q.then fun key j b => (M.vis s j b).then fun c j b => (M.want 58 c j b).then fun _ j b => (M.pv f s j b).then fun t j b => (M.next s 125 j b).then fun m j b => M.pm s (M.pv f s) fu (M.insAt (M.plc ks key) key ks) (M.insAt (M.plc ks key) t its) m j b)) := Lib.hid (by rw [← HE.out, hq]; rfl)
      rintro e w3 ⟨hg3, hm⟩
      rw [← hq] at hm
      rcases q with ⟨key, j3, b3⟩ | ⟨kk, er⟩
      rotate_left
      · subst hm
        exact ⟨rfl, Ends.fault (HW.out.trans hg3) (by rw [HR3.out, HE2.out]; rfl)⟩
      obtain ⟨v, rfl, hP3, rfl⟩ := hm
      have hz3 := hg3.size
      have HG3 := Lib.hid (HG.out.frm (Frm.of_only (B := 0) hg3) (by omega) (by omega))
      have HZ3 : Hid (w3.heap[w.heap.size]? = _) := Lib.hid ((hg3.block w.heap.size (by omega) (fun e => by injection e; omega)).trans HZ.out)
      have HW3 := Lib.hid (HW.out.trans hg3)
      have HP3 := Lib.hid hP3
      have HE3 : Hid (R = ((M.vis s j3 b3).then fun c j b => (M.want 58 c j b).then fun _ j b => (M.pv f s j b).then fun t j b => (M.next s 125 j b).then fun m j b => M.pm s (M.pv f s) fu (M.insAt (M.plc ks key) key ks) (M.insAt (M.plc ks key) t its) m j b)) := Lib.hid HE2.out
      have HJ3 : Hid (j ≤ j3 ∧ bj ≤ b3) := Lib.hid (by have := M.fwd_nkey hjs key j3 b3 hq.symm; omega)
      have HNEW := Lib.hid (M.nkey_new hq)
      clear hq hP3 hg3 HG HZ HW HP HE HE2 m0 m1 m2 m3 m4
      go_wp2_with fail
      refine (vis_any HP3.out).mono ?_
      rintro e w4 ⟨hg4, hm⟩
      obtain ⟨q, hq⟩ : ∃ q, q = M.vis s j3 b3 := ⟨_, rfl⟩
      rw [← hq] at hm HE3
      rcases q with ⟨c4, j4, b4⟩ | ⟨kk, er⟩
      rotate_left
      · subst hm
        exact ⟨rfl, Ends.fault (HW3.out.trans hg4) (by rw [HR3.out, HE3.out]; rfl)⟩
      obtain ⟨v, rfl, hP4, rfl⟩ := hm
      obtain ⟨r1, r2, r3, r4⟩ := M.vis_inv hq
      have hj4 : 0 < j4 := by omega
      have HJ4 : Hid (j < j4 ∧ bj ≤ b4) := Lib.hid (by have h1 := HJ3.out; have h2 := M.skip_le HP3.out.le; omega)
      have HE4 : Hid (R = ((M.want 58 c4 j4 b4).then fun _ j b => (M.pv f s j b).then fun t j b => (M.next s 125 j b).then fun m j b => M.pm s (M.pv f s) fu (M.insAt (M.plc ks key) key ks) (M.insAt (M.plc ks key) t its) m j b)) := Lib.hid HE3.out
      have hz4 := hg4.size
      have hh3 := HG3.out.high
      have HG4 := Lib.hid (HG3.out.frm (Frm.of_only (B := 0) hg4) (by omega) (by omega))
      have HZ4 : Hid (w4.heap[w.heap.size]? = _) := Lib.hid ((hg4.block w.heap.size (by omega) (fun e => by injection e; omega)).trans HZ3.out)
      have HW4 := Lib.hid (HW3.out.trans hg4)
      have HP4 := Lib.hid hP4
      clear hq hP4 hg4 HG3 HZ3 HW3 HP3 HE3 r1 r2 r3 r4
      go_wp2_with fail
      refine (want_any 58 c4 HP4.out hj4).mono ?_
      rintro e w5 ⟨hg5, hm⟩
      obtain ⟨q, hq⟩ : ∃ q, q = M.want 58 c4 j4 b4 := ⟨_, rfl⟩
      rw [← hq] at hm HE4
      rcases q with ⟨u5, j5, b5⟩ | ⟨kk, er⟩
      rotate_left
      · subst hm
        exact ⟨rfl, Ends.fault (HW4.out.trans hg5) (by rw [HR3.out, HE4.out]; rfl)⟩
      obtain ⟨v, rfl, hP5, rfl⟩ := hm
      have HE5 : Hid (R = ((M.pv f s j5 b5).then fun t j b => (M.next s 125 j b).then fun m j b => M.pm s (M.pv f s) fu (M.insAt (M.plc ks key) key ks) (M.insAt (M.plc ks key) t its) m j b)) := Lib.hid HE4.out
      have HJ5 : Hid (j < j5 ∧ bj ≤ b5) := Lib.hid (by have h1 := HJ4.out; obtain ⟨h2, h3, -⟩ := M.want_inv hq; omega)
      have hz5 := hg5.size
      have hh4 := HG4.out.high
      have HG5 := Lib.hid (HG4.out.frm (Frm.of_only (B := 0) hg5) (by omega) (by omega))
      have HZ5 : Hid (w5.heap[w.heap.size]? = _) := Lib.hid ((hg5.block w.heap.size (by omega) (fun e => by injection e; omega)).trans HZ4.out)
      have HW5 := Lib.hid (HW4.out.trans hg5)
      have HP5 := Lib.hid hP5
      obtain ⟨m0, m1, m2, m3, m4, -⟩ := lit5 HG5.out.box
      obtain ⟨pl, hpl⟩ : ∃ pl, pl = M.plc ks key := ⟨_, rfl⟩
      rw [← hpl] at HE5 ⊢
      have HPL := Lib.hid hpl
      clear hq hP5 hg5 HG4 HZ4 HW4 HP4 HE4 hpl
      have hh5 := HG5.out.high
      have hhlt5 : w5.heap.size > N := by omega
      go_wp2_with fail
      have hpl2 : pl ≤ ks.length := by rw [HPL.out]; unfold M.plc; exact (List.takeWhile_sublist _).length_le
      have hbox : (w5.alloc (.cells #[.string key] 9)).heap[w5.heap.size]? = some (.cells #[.string key] 9 (0, 0)) := heap_alloc_new _ _
      have hnb : (Value.slice B7 ks.length e7).ownBlock ≠ some w5.heap.size := fun e => by have := (World.ownsRow.lt HG5.out.os _ e).2; omega
      have hLEN := HLEN.out; have hKL := HKL.out
      refine (insk_any (base := N + 1) hpl2 (World.ownsRow.alloc HG5.out.os _) (fun u hu => by obtain ⟨x, -, rfl⟩ := List.mem_map.1 hu; rfl) hbox hnb (by omega) (by rw [World.size_alloc]; omega)).mono ?_
      rintro e w6 ⟨g6, cap6, rfl, ho6, hgr6, hr6, hl6⟩
      have hsz6 := hgr6.size
      rw [World.size_alloc] at hsz6 hr6
      have hMn : some N ≠ (Value.slice B7 ks.length e7).ownBlock := HG5.out.ne2
      have hM6 := (hgr6.block N (by rw [World.size_alloc]; omega) hMn).trans ((Below.heap_alloc w5 _ _ (by omega)).trans HG5.out.box)
      have hmap : (M.insAt pl key ks).map Value.string = (ks.map Value.string).take pl ++ [.string key] ++ (ks.map Value.string).drop pl := by unfold M.insAt; rw [List.map_append, List.map_cons, List.map_take, List.map_drop]; simp
      have HG6 := Lib.hid (Grw.keyAt (l := g) (B := 0) (ks2 := M.insAt pl key ks) (by simp [M.insAt]; omega) HG5.out (Frm.refl _ _ _ w5) (by omega) (by omega) (by rw [hmap]; exact ho6) hgr6 hr6)
      obtain ⟨n0, n1, n2, n3, n4, f0, f1, f2, f3, f4⟩ := lit5 hM6
      have hl6N : w6.heap.size > N := by omega
      clear hbox hnb hmap m0 m1 m2 m3 m4 hKL hLEN
      go_wp2_with fail
      have p6 : ∀ k, k < N → (w6.setCell ⟨N, 4, none⟩ (.slice (some ⟨g6, 0, none⟩) (ks.length + 1) cap6)).heap[k]? = w5.heap[k]? := fun k hk => by
        rw [heap_setCell_other _ _ _ _ (show k ≠ N by omega)]
        refine (hgr6.block k (by rw [World.size_alloc]; omega) (fun e => ?_)).trans (Below.heap_alloc w5 _ _ (by omega))
        have := (World.ownsRow.lt HG5.out.os _ e.symm).1; omega
      have HP6 := Lib.hid (HP5.out.kept (p6 g (by omega)))
      have HZ6 := Lib.hid ((p6 w.heap.size hNz).trans HZ5.out)
      have hsw := HW5.out.size
      have HW6 : Hid (w.grownBy (w6.setCell ⟨N, 4, none⟩ (.slice (some ⟨g6, 0, none⟩) (ks.length + 1) cap6)) (some g)) := Lib.hid ⟨hgr6.os.trans HW5.out.os, hgr6.tape.trans HW5.out.tape, hgr6.output.trans HW5.out.output, by rw [set_size]; omega, fun k h1 h2 => (p6 k (by omega)).trans (HW5.out.block k h1 h2)⟩
      clear n0 n1 n2 n3 n4 f0 f1 f2 f3 f4 hM6 hgr6 ho6 hr6 hl6 p6 HG5 HP5 HZ5 HW5 hl6N hsz6 hMn
      generalize (w6.setCell ⟨N, 4, none⟩ (.slice (some ⟨g6, 0, none⟩) (ks.length + 1) cap6)) = wk at *
      obtain ⟨m0, m1, m2, m3, m4, -⟩ := lit5 HG6.out.box
      have hhi6 := HG6.out.high
      have hhk : wk.heap.size > N := by omega
      have hjs5 := HP6.out.le
      have hcall : Calls Tryz.prog 26 #[.pointer (some ⟨g, 0, none⟩), .int .i64 (depth + 1)] wk.drew (Ends g s (isVal (f + 1) wk.drew.heap.size) (M.pv f s j5 b5) wk.drew) :=
        IH.out g j5 b5 s (depth + 1) wk.drew (by have := HDE.out; omega) (HP6.out.kept rfl) (HDR.out.grown (HW6.out.trans (grown_drewN wk 1 _)) h8) h8
      obtain ⟨q, hq⟩ : ∃ q, q = M.pv f s j5 b5 := ⟨_, rfl⟩
      rw [← hq] at hcall HE5
      have HC := Lib.hid hcall
      have HSO : Hid (∀ t j' b', q = .ok t j' b' → j5 < j' ∧ j' ≤ s.size ∧ b5 < b') := Lib.hid (fun t j' b' e => ST.out s j5 b5 j' b' t hjs5 (e.symm.trans hq))
      clear hcall hq
      go_region_law (first
        | (go_simp; go_at_call 82
           refine (insv_any (base := N + 1) (q := pl) hpl3 (World.ownsRow.alloc HG7.out.ov _) hone7 (heap_alloc_new _ _) hnb7 (by have := HLEN.out; omega) (by rw [World.size_alloc]; omega)).mono ?_
           rintro e w8 ⟨g8, cap8, rfl, ho8, hgr8, hr8, hl8⟩
           have hsz8 := hgr8.size
           rw [World.size_alloc] at hsz8 hr8
           have hM8 := (hgr8.block N (by rw [World.size_alloc]; omega) HG7.out.ne1).trans ((Below.heap_alloc w7 _ _ (by omega)).trans HG7.out.box)
           obtain ⟨n0, n1, n2, n3', n4, f0, f1, f2, f3, f4⟩ := lit5 hM8
           have hl8N : w8.heap.size > N := by omega)
        | (go_simp; go_at_call 26
           refine HC.out.mono ?_
           rintro e w7 ⟨hg7, hm⟩
           have hgw7 : wk.grownBy w7 (some g) := ⟨hg7.os, hg7.tape, hg7.output, hg7.size, hg7.block⟩
           rcases q with ⟨t, j7, b7⟩ | ⟨kk, er⟩
           rotate_left
           · subst hm
             exact ⟨rfl, Ends.fault (HW6.out.trans hgw7) (by rw [HR3.out, HE5.out]; rfl)⟩
           obtain ⟨v', rfl, hP7, hv'⟩ := hm
           have hv' : VB w7 wk.heap.size w7.heap.size (f + 1) v' t := hv'
           obtain ⟨A3, n3, c3, B3, p3, e3, rfl⟩ := hv'.agg
           have HG7 := Lib.hid (HG6.out.frm (Frm.of_only (B := 0) hgw7) (by omega) (by omega))
           have hz7 := hgw7.size
           have hms7 : w7.heap.size > N := by omega
           obtain ⟨o0, o1, o2, o3, o4, -⟩ := lit5 HG7.out.box
           have hpl3 : pl ≤ its.length := by have := HKL.out; omega
           have hnb7 : (Value.slice A7 its.length c7).ownBlock ≠ some w7.heap.size := fun e => by have := (World.ownsRow.lt HG7.out.ov _ e).2; omega
           have hone7 : ∀ u ∈ cI, u.oneCell' = true := HG7.out.one))
      all_goals (
        have p8 : ∀ k, k < N → (w8.setCell ⟨N, 3, none⟩ (.slice (some ⟨g8, 0, none⟩) (its.length + 1) cap8)).heap[k]? = w7.heap[k]? := fun k hk => by
          rw [heap_setCell_other _ _ _ _ (show k ≠ N by omega)]
          refine (hgr8.block k (by rw [World.size_alloc]; omega) (fun e => ?_)).trans (Below.heap_alloc w7 _ _ (by omega))
          have := (World.ownsRow.lt HG7.out.ov _ e.symm).1; omega
        have HG8 := Lib.hid (Grw.itemAt (l := g) (B := 0) (q0 := pl) hpl3 HG6.out (Frm.of_only (B := 0) hgw7) (by omega) (by omega) hv' ho8 hgr8 hr8)
        have HP8 := Lib.hid (hP7.kept (p8 g (by omega)))
        have HZ8 := Lib.hid ((p8 w.heap.size hNz).trans ((hgw7.block w.heap.size (by omega) (fun e => by injection e; omega)).trans HZ6.out))
        have hsw7 := (HW6.out.trans hgw7).size
        have HW8 : Hid (w.grownBy (w8.setCell ⟨N, 3, none⟩ (.slice (some ⟨g8, 0, none⟩) (its.length + 1) cap8)) (some g)) := Lib.hid ⟨hgr8.os.trans (HW6.out.trans hgw7).os, hgr8.tape.trans (HW6.out.trans hgw7).tape, hgr8.output.trans (HW6.out.trans hgw7).output, by rw [set_size]; omega, fun k h1 h2 => (p8 k (by omega)).trans ((HW6.out.trans hgw7).block k h1 h2)⟩
        have hpk : pl ≤ ks.length := hpl2
        have HPK : Hid (pl ≤ ks.length ∧ pl ≤ its.length) := Lib.hid ⟨hpl2, hpl3⟩
        obtain ⟨s1, s2, s3⟩ := HSO.out _ _ _ rfl
        have HSZ := Lib.hid (And.intro s1 s3)
        have HE6 : Hid (R = (M.next s 125 j7 b7).then fun m j b => M.pm s (M.pv f s) fu (M.insAt pl key ks) (M.insAt pl t its) m j b) := Lib.hid HE5.out
        clear HSO s1 s3 HE5 n0 n1 n2 n3' n4 f0 f1 f2 f3 f4 hM8 hgr8 ho8 hr8 hl8 p8 HG6 HG7 hP7 HZ6 HW6 hl8N hsz8 hone7 hnb7 o0 o1 o2 o3 o4 hms7 hz7 hgw7 hg7 hv' HC m0 m1 m2 m3 m4 hpl2 hpl3 hpk
        generalize (w8.setCell ⟨N, 3, none⟩ _) = wf at *
        go_wp2_with fail
        refine (next_any 125 HP8.out).mono ?_
        rintro e w9 ⟨hg9, hm⟩
        obtain ⟨q, hq⟩ : ∃ q, q = M.next s 125 j7 b7 := ⟨_, rfl⟩
        rw [← hq] at hm HE6
        rcases q with ⟨mo2, j9, b9⟩ | ⟨kk, er⟩
        rotate_left
        · subst hm
          exact ⟨rfl, Ends.fault (HW8.out.trans hg9) (by rw [HR3.out, HE6.out]; rfl)⟩
        obtain ⟨v, rfl, hP9, rfl⟩ := hm
        obtain ⟨r1, r2, r3⟩ := M.next_inv s2 hq
        have HP9 := Lib.hid hP9
        have HW9 := Lib.hid (HW8.out.trans hg9)
        have hF9 : Frm wf.heap.size g 0 wf w9 := Frm.of_only hg9
        have hzf := HG8.out.high
        have HG9 := Lib.hid (HG8.out.frm hF9 (by omega) (by omega))
        have HZ9 := Lib.hid ((hg9.block w.heap.size (by omega) (fun e => by injection e; omega)).trans HZ8.out)
        have HE7 : Hid (M.pm s (M.pv f s) fu (M.insAt pl key ks) (M.insAt pl t its) mo2 j9 b9 = R) := Lib.hid HE6.out.symm
        have hms : s.size - j9 < s.size - j := by have := HSZ.out.1; have := HJ5.out.1; omega
        have HMS := Lib.hid hms
        have HAT9 := Lib.hid (atOf_eq hP9)
        have hfu2 : s.size + 1 ≤ fu + j9 := by have := HSZ.out.1; have := HJ5.out.1; omega
        have HL2 : Hid ((M.insAt pl t its).length ≤ b9) := Lib.hid (by rw [M.insAt_len HPK.out.2]; have := HSZ.out.2; have := HL.out; have := HJ5.out.2; omega)
        have HKL2 : Hid ((M.insAt pl key ks).length = (M.insAt pl t its).length) := Lib.hid (by rw [M.insAt_len HPK.out.2, M.insAt_len HPK.out.1, HKL.out])
        have HRI2 : Hid (M.Rise (M.insAt pl key ks)) := Lib.hid (by rw [HPL.out]; exact M.rise_ins HRI.out HNEW.out.2)
        have HKZ2 : Hid (∀ q, q < (M.insAt pl key ks).length → ((M.insAt pl key ks).getD q ByteArray.empty).size ≤ 140737488351232) := Lib.hid (fun q hq => by
          rw [M.insAt_len HPK.out.1] at hq
          rw [M.insAt_getD HPK.out.1]
          split
          · exact HKZ.out q (by have := HPK.out.1; omega)
          · split
            · exact Nat.le_trans HNEW.out.1 (by decide)
            · exact HKZ.out (q - 1) (by omega))
        clear hP9 hg9 hF9 hq r1 r2 r3 hms HG8 HP8 HZ8 HW8 HE6
        go_wp2_with fail
        exact ⟨⟨mo2, fu, j9, b9, _, _, _, M.insAt pl key ks, M.insAt pl t its, rfl, HG9, HZ9, HP9, HW9, HE7, hfu2, HL2, HKL2, HRI2, HKZ2⟩, by rw [HAT9.out, HAT.out]; exact HMS.out⟩)
end Go.Proofs.YtdkggnciamfcmaaGreatDoor

namespace Go.Proofs.YtdkggnciamfcmaaGreatDoor
set_option linter.unusedVariables false
open Go.RowKit
open M (V)
set_option maxRecDepth 100000

def exV : V := .mk 5 0 ByteArray.empty [.mk 4 0 ByteArray.empty [V.null, .mk 1 1 ByteArray.empty [] []] [], .mk 2 (-5) ByteArray.empty [] []] [⟨#[97]⟩, ⟨#[98]⟩]
theorem ex1 : M.parse ⟨#[123, 34, 98, 34, 58, 32, 45, 53, 44, 32, 34, 97, 34, 32, 58, 91, 110, 117, 108, 108, 44, 116, 114, 117, 101, 93, 125]⟩ = (exV, 0, 0) := by kernel_rfl
theorem ex2 : M.parse ⟨#[123, 34, 97, 34, 58, 32, 48, 49, 125]⟩ = (V.null, 7, 3) := by kernel_rfl
theorem ex3 : M.parse ⟨#[123, 34, 97, 34, 58, 32, 49, 44, 32, 34, 97, 34, 58, 32, 50, 125]⟩ = (V.null, 9, 9) := by kernel_rfl
theorem ex4 : M.parse ⟨#[91, 49, 44]⟩ = (V.null, 3, 4) := by kernel_rfl
theorem ex5s : Go.Op.bytesLess (([⟨#[97]⟩, ⟨#[98]⟩] : List ByteArray).getD 0 ByteArray.empty).toList (([⟨#[97]⟩, ⟨#[98]⟩] : List ByteArray).getD 1 ByteArray.empty).toList = true := by kernel_rfl
theorem ex5r : M.rise [⟨#[97]⟩, ⟨#[98]⟩] = true := M.rise_yes (fun i hi => by
  match i, hi with
  | 0, _ => exact ex5s
  | n + 1, hi => exfalso; simp at hi; omega)
theorem ex5w : exV.wf = M.rise [⟨#[97]⟩, ⟨#[98]⟩] := by
  have h1 : exV.wf = (M.rise [⟨#[97]⟩, ⟨#[98]⟩] && true) := by kernel_rfl
  rw [h1, Bool.and_true]
theorem ex5a : exV.right = true := by
  have h : (exV.within && !exV.fut) = true := by kernel_rfl
  unfold V.right
  rw [ex5w, ex5r, Bool.true_and]; exact h
theorem ex5b : Lib.itoa (-5) = [45, 53] := by
  have h := Lib.itoa_neg 5 (by decide)
  rw [show ((5 : Nat) : Int) = 5 from rfl] at h
  rw [h, Lib.decDigits, dif_pos (by decide)]
  decide
theorem ex5c : M.txt exV = [123, 34, 97, 34, 58, 32, 91, 110, 117, 108, 108, 44, 32, 116, 114, 117, 101, 93, 44, 32, 34, 98, 34, 58, 32, 45, 53, 125] := by
  have h : M.txt (.mk 2 (-5) ByteArray.empty [] []) = [45, 53] := by rw [M.txt_int, ex5b]
  have h2 : M.txt (.mk 4 0 ByteArray.empty [V.null, .mk 1 1 ByteArray.empty [] []] []) = [91, 110, 117, 108, 108, 44, 32, 116, 114, 117, 101, 93] := by kernel_rfl
  unfold exV
  rw [M.txt_map, M.txtp, M.txtp, M.txtp, h, h2]
  decide
theorem ex5 : M.print exV = (⟨#[123, 34, 97, 34, 58, 32, 91, 110, 117, 108, 108, 44, 32, 116, 114, 117, 101, 93, 44, 32, 34, 98, 34, 58, 32, 45, 53, 125]⟩, 0) := by
  unfold M.print
  rw [if_pos ex5a, ex5c]
  rfl
theorem ex6 : tstr (M.quote (⟨#[97, 10, 7]⟩ : ByteArray).data.toList) = ⟨#[34, 97, 92, 110, 92, 120, 48, 55, 34]⟩ := by kernel_rfl
theorem ex7 : (M.txt exV).length ≤ 140737488355000 := by
  rw [ex5c]; decide
end Go.Proofs.YtdkggnciamfcmaaGreatDoor

namespace Go.Proofs.YtdkggnciamfcmaaGreatDoor
set_option linter.unusedVariables false
open Go.RowKit
open M (V Res)

set_option maxRecDepth 100000 in
set_option maxHeartbeats 4000000 in
theorem value0_any : parseAt 0 (M.pv 0) := by
  intro g i b s depth w hd h hD h8
  obtain ⟨r, hr⟩ : ∃ r, r = M.pv 0 s i b := ⟨_, rfl⟩
  rw [← hr]
  have hd2 : depth = ((17 : Nat) : Int) := by omega
  have HR1 : Hid (r = (M.bgn s 17 i b).then fun _ j _ => .no j 7) := Lib.hid (by rw [hr]; rfl)
  subst hd2
  clear hr hd
  have hgw := h.lt
  have hP1 : Prs (w.alloc (.cells #[.int .i64 0, .int .i64 0, .string ByteArray.empty, .slice none 0 0, .slice none 0 0] 25)) g s i b := h.kept (Below.heap_alloc _ _ _ hgw)
  have hG1 : w.grownBy (w.alloc (.cells #[.int .i64 0, .int .i64 0, .string ByteArray.empty, .slice none 0 0, .slice none 0 0] 25)) (some g) := World.grownBy_alloc w _ (some g)
  have HP1 := Lib.hid hP1; have HG1 := Lib.hid hG1
  clear h hD hP1 hG1
  have hcall : ∀ W, Prs W g s i b → Calls Tryz.prog 43 #[.pointer (some ⟨g, 0, none⟩), .int .i64 17] W (Ends g s isByte (M.bgn s 17 i b) W) := fun W hW => bgn_any 17 hW (by omega)
  go_enter Tryz.func26, Tryz.ntmps26
  go_wp2_with fail
  refine (hcall _ HP1.out).mono ?_
  rintro e w2 ⟨hg2, hm⟩
  obtain ⟨q, hq⟩ : ∃ q, q = M.bgn s 17 i b := ⟨_, rfl⟩
  rw [← hq] at hm
  rcases q with ⟨c, j, b'⟩ | ⟨kk, er⟩
  · exact absurd (M.bgn_inv hq).2.2.2.2 (by omega)
  · subst hm
    exact ⟨rfl, Ends.fault (HG1.out.trans hg2) (by rw [HR1.out, ← hq]; rfl)⟩

/-- All values, once a map can be read whose items can. -/
theorem values_any (hpa : ∀ f, f ≤ 16 → parseAt f (M.pv f) → pairsAt f) : ∀ f, f ≤ 17 → parseAt f (M.pv f)
  | 0, _ => value0_any
  | f + 1, h => value3_any (values_any hpa f (by omega)) (steps_pv f) (hpa f (by omega) (values_any hpa f (by omega))) (by omega)
end Go.Proofs.YtdkggnciamfcmaaGreatDoor

namespace Go.Proofs.YtdkggnciamfcmaaGreatDoor
set_option linter.unusedVariables false
open Go.RowKit
open M (V)
set_option maxRecDepth 100000

/-- What the walks need of the package variables. -/
structure TGate (w : World) : Prop where
  doors : Doors w
  tab : Lib.TabIs Tryz.prog w "internal/strconv.uint64pow10" .u64 Lib.pow10Tab
  five : 5 ≤ w.heap.size
theorem TGate.below {w w' : World} (h : TGate w) (hb : Below w.heap.size w w') : TGate w' := by
  obtain ⟨⟨⟨e1, a1, b1⟩, ⟨e2, a2, b2⟩⟩, ht, h5⟩ := h
  refine ⟨⟨⟨e1, ?_, b1⟩, ⟨e2, ?_, b2⟩⟩, Lib.tabBelow_of_tabIs ht w' hb, Nat.le_trans h5 hb.size⟩
  · have hl := Lib.lt_of_cell a1
    rw [← a1]; unfold World.cell?; rw [hb.block _ hl]
  · have hl := Lib.lt_of_cell a2
    rw [← a2]; unfold World.cell?; rw [hb.block _ hl]

theorem parse_c {w : World} {s : ByteArray} (hs : s.size ≤ 1000000000) (G : TGate w) :
    Calls Tryz.prog 15 #[.string s] w fun e w' => ∃ v, e = .returned (.tuple #[v, .int .i64 ((M.parse s).2.1 : Int), .int .i64 (M.parse s).2.2]) ∧ VB w' w.heap.size w'.heap.size 17 v (M.parse s).1 ∧ Below w.heap.size w w' :=
  parse_any (values_any (fun f hf ih => ppairs_any ih (steps_pv f) hf) 16 (by omega)) hs G.doors G.five
theorem print_c {v : Value} {t : V} {lo hi : Nat} {w : World} (h : VX w lo hi v t) (hhi : hi ≤ w.heap.size) (hlen : (M.txt t).length ≤ 140737488355000) (G : TGate w) :
    Calls Tryz.prog 11 #[v] w fun e w' => e = .returned (.tuple #[.string (M.print t).1, .int .i64 (M.print t).2]) ∧ Below w.heap.size w w' :=
  print_any h hhi hlen (Lib.tabBelow_of_tabIs G.tab)

/-- A box for a value that has just been returned. -/
theorem box_new (w : World) (o : Obj) : Below w.heap.size w (w.alloc o) := (Below.refl _ _).alloc (Nat.le_refl _) o

set_option maxHeartbeats 4000000 in
theorem lives_any (w : World) (G : TGate w) :
    Calls Tryz.prog 10 #[] w fun e w' => e = .returned (.bool true) ∧ Below w.heap.size w w' := by
  have HG := Lib.hid G
  clear G
  go_enter Tryz.func10, Tryz.ntmps10
  go_wp2_with fail
  refine (parse_c (by decide) HG.out).mono ?_
  rintro e w1 ⟨v1, rfl, hv1, hb1⟩
  rw [ex1] at hv1 ⊢
  obtain ⟨A1, n1, c1, B1, p1, e1, rfl⟩ := hv1.agg
  have G1 := Lib.hid (HG.out.below hb1)
  have HV1 := Lib.hid hv1; have HB1 := Lib.hid hb1
  clear hv1 hb1
  go_wp2_with fail
  have hp1 := box_new w1 (.cells #[.int .i64 exV.k, .int .i64 exV.n, .string exV.s, .slice A1 n1 c1, .slice B1 p1 e1] 25)
  refine (print_c ⟨17, HV1.out.later hp1 (Nat.le_refl _)⟩ hp1.size ex7 (G1.out.below hp1)).mono ?_
  rintro e w2 ⟨rfl, hb2⟩
  rw [ex5]
  have hb2' := hp1.trans (hb2.mono hp1.size)
  have G2 := Lib.hid (G1.out.below hb2')
  have HB2 := Lib.hid (HB1.out.trans (hb2'.mono HB1.out.size))
  clear hp1 hb2 hb2' G1 HB1 HV1
  go_wp2_with fail
  refine (parse_c (by decide) G2.out).mono ?_
  rintro e w3 ⟨v3, rfl, hv3, hb3⟩
  rw [ex2] at hv3 ⊢
  obtain ⟨A3, n3, c3, B3, p3, e3, rfl⟩ := hv3.agg
  have G3 := Lib.hid (G2.out.below hb3)
  have HB3 := Lib.hid (HB2.out.trans (hb3.mono HB2.out.size))
  clear hv3 hb3 G2 HB2
  go_wp2_with fail
  have hp3 := box_new w3 (.cells #[.int .i64 V.null.k, .int .i64 V.null.n, .string V.null.s, .slice A3 n3 c3, .slice B3 p3 e3] 25)
  refine (parse_c (by decide) (G3.out.below hp3)).mono ?_
  rintro e w4 ⟨v4, rfl, hv4, hb4⟩
  rw [ex3] at hv4 ⊢
  obtain ⟨A4, n4, c4, B4, p4, e4, rfl⟩ := hv4.agg
  have hb4' := hp3.trans (hb4.mono hp3.size)
  have G4 := Lib.hid (G3.out.below hb4')
  have HB4 := Lib.hid (HB3.out.trans (hb4'.mono HB3.out.size))
  clear hv4 hb4 hb4' hp3 G3 HB3
  go_wp2_with fail
  have hp4 := box_new w4 (.cells #[.int .i64 V.null.k, .int .i64 V.null.n, .string V.null.s, .slice A4 n4 c4, .slice B4 p4 e4] 25)
  refine (parse_c (by decide) (G4.out.below hp4)).mono ?_
  rintro e w5 ⟨v5, rfl, hv5, hb5⟩
  rw [ex4] at hv5 ⊢
  obtain ⟨A5, n5, c5, B5, p5, e5, rfl⟩ := hv5.agg
  have hb5' := hp4.trans (hb5.mono hp4.size)
  have G5 := Lib.hid (G4.out.below hb5')
  have HB5 := Lib.hid (HB4.out.trans (hb5'.mono HB4.out.size))
  clear hv5 hb5 hb5' hp4 G4 HB4
  go_wp2_with fail
  have hp5 := box_new w5 (.cells #[.int .i64 V.null.k, .int .i64 V.null.n, .string V.null.s, .slice A5 n5 c5, .slice B5 p5 e5] 25)
  refine (quote_any _ _ (by decide)).mono ?_
  rintro e w6 ⟨rfl, hb6⟩
  rw [ex6]
  have HB6 := Lib.hid (HB5.out.trans ((hp5.trans (hb6.mono hp5.size)).mono HB5.out.size))
  clear hp5 hb6
  go_wp2_with fail
  go_ret
  exact ⟨rfl, HB6.out⟩
end Go.Proofs.YtdkggnciamfcmaaGreatDoor

namespace Go.Proofs.YtdkggnciamfcmaaGreatDoor
namespace M
theorem m_len (s : ByteArray) : s.data.toList.length = s.size := by rw [Array.length_toList]; rfl
theorem at_drop {s : ByteArray} {i : Nat} {a : UInt8} {t : List UInt8} (h : s.data.toList.drop i = a :: t) : i < s.size ∧ ch s i = a.toNat ∧ s.data.toList.drop (i + 1) = t := by
  have hl : i < s.data.toList.length := by
    rcases Nat.lt_or_ge i s.data.toList.length with h1 | h1
    · exact h1
    · rw [List.drop_eq_nil_of_le h1] at h; cases h
  have h2 := List.drop_eq_getElem_cons hl
  rw [h2] at h
  injection h with h3 h4
  refine ⟨by rw [← m_len]; exact hl, ?_, h4⟩
  unfold ch
  rw [List.getD, List.getElem?_eq_getElem hl, h3]; rfl
theorem take_drop {s : ByteArray} {i b : Nat} {a : UInt8} {t : List UInt8} (h : s.data.toList.drop i = a :: t) : take s i b = .ok a.toNat (i + 1) b := by
  obtain ⟨h1, h2, _⟩ := at_drop h
  rw [take_ok h1, h2]
theorem hexN_hexc : ∀ n, n < 16 → hexN (hexc n).toNat = (n : Int) := by decide
theorem hexD_drop {s : ByteArray} {i b n : Nat} {t : List UInt8} (h : s.data.toList.drop i = hexc n :: t) (hn : n < 16) : hexD s i b = .ok n (i + 1) b := by
  unfold hexD
  rw [take_drop h, Res.then_ok, hexN_hexc n hn, if_neg (by omega)]
  rfl
theorem drop_app {l a t : List UInt8} {i : Nat} (h : l.drop i = a ++ t) : l.drop (i + a.length) = t := by
  rw [← List.drop_drop, h, List.drop_left]
theorem letter_drop {s : ByteArray} {i b : Nat} {x : UInt8} {t : List UInt8} (h : s.data.toList.drop i = esc1 x.toNat ++ t) :
    ch s i ≠ 34 ∧ letter s (ch s i) (i + 1) b = .ok x.toNat (i + (esc1 x.toNat).length) b := by
  have hx := x.toNat_lt
  have hof : UInt8.ofNat x.toNat = x := by simp
  obtain ⟨c, hc⟩ : ∃ c, c = x.toNat := ⟨_, rfl⟩
  rw [← hc] at h hx hof ⊢
  have htn : (UInt8.ofNat c).toNat = c := by rw [hof, hc]
  unfold esc1 at h ⊢
  by_cases h1 : c = 34 ∨ c = 92
  · rw [if_pos h1] at h ⊢
    obtain ⟨_, e1, e2⟩ := at_drop (a := 92) (t := UInt8.ofNat c :: t) h
    rw [e1]
    refine ⟨by decide, ?_⟩
    have e3 : ((92 : UInt8).toNat) = 92 := rfl
    rw [e3]
    unfold letter
    rw [if_pos rfl]
    unfold esc
    rw [take_drop e2, Res.then_ok, htn, if_neg (by omega), if_neg (by omega), if_neg (by omega), if_pos (by omega)]
    rfl
  · rw [if_neg h1] at h ⊢
    by_cases h2 : c = 10
    · rw [if_pos h2] at h ⊢
      obtain ⟨_, e1, e2⟩ := at_drop (a := 92) (t := 110 :: t) h
      rw [e1]
      refine ⟨by decide, ?_⟩
      unfold letter
      rw [if_pos (by decide)]
      unfold esc
      rw [take_drop e2, Res.then_ok, if_pos (by decide), h2]
      rfl
    · rw [if_neg h2] at h ⊢
      by_cases h3 : c = 9
      · rw [if_pos h3] at h ⊢
        obtain ⟨_, e1, e2⟩ := at_drop (a := 92) (t := 116 :: t) h
        rw [e1]
        refine ⟨by decide, ?_⟩
        unfold letter
        rw [if_pos (by decide)]
        unfold esc
        rw [take_drop e2, Res.then_ok, if_neg (by decide), if_pos (by decide), h3]
        rfl
      · rw [if_neg h3] at h ⊢
        by_cases h4 : 32 ≤ c ∧ c ≤ 126
        · rw [if_pos h4] at h ⊢
          obtain ⟨_, e1, e2⟩ := at_drop (a := UInt8.ofNat c) (t := t) h
          rw [htn] at e1
          rw [e1]
          refine ⟨by omega, ?_⟩
          unfold letter
          rw [if_neg (by omega), if_pos (plain_yes h4)]
          rfl
        · rw [if_neg h4] at h ⊢
          obtain ⟨_, e1, e2⟩ := at_drop (a := 92) (t := 120 :: hexc (c / 16) :: hexc (c % 16) :: t) h
          obtain ⟨_, _, e3⟩ := at_drop e2
          obtain ⟨_, _, e4⟩ := at_drop e3
          rw [e1]
          refine ⟨by decide, ?_⟩
          unfold letter
          rw [if_pos (by decide)]
          unfold esc
          rw [take_drop e2, Res.then_ok, if_neg (by decide), if_neg (by decide), if_pos (by decide), hexD_drop e3 (by omega), Res.then_ok, hexD_drop e4 (by omega), Res.then_ok]
          rw [show 16 * (c / 16) + c % 16 = c by omega]
          rfl
theorem litL_back (s : ByteArray) : ∀ (l : List UInt8) (f i b : Nat) (acc rest : List UInt8), l.length < f → s.data.toList.drop i = escs l ++ 34 :: rest →
    litL s f acc (ch s i) (i + 1) b = .ok (acc ++ l) (i + (escs l).length + 1) b
  | l, 0, _, _, _, _, hf, _ => by omega
  | [], f + 1, i, b, acc, rest, hf, h => by
    rw [escs_nil, List.nil_append] at h
    obtain ⟨_, e1, _⟩ := at_drop h
    rw [litL, if_pos (by rw [e1]; rfl), escs_nil, List.append_nil]
    rfl
  | x :: l, f + 1, i, b, acc, rest, hf, h => by
    rw [escs_cons, List.append_assoc] at h
    obtain ⟨h1, h2⟩ := letter_drop (b := b) h
    have h3 := drop_app h
    rw [litL, if_neg h1, h2, Res.then_ok]
    obtain ⟨a, t, h4⟩ : ∃ a t, escs l ++ 34 :: rest = a :: t := by
      cases hq : escs l ++ 34 :: rest with
      | nil => simp at hq
      | cons a t => exact ⟨a, t, rfl⟩
    have h5 := at_drop (h3.trans h4)
    rw [take_drop (h3.trans h4), Res.then_ok, ← h5.2.1, litL_back s l f _ b _ rest (by simp at hf; omega) h3, escs_cons, List.length_append]
    have e1 : acc ++ [UInt8.ofNat x.toNat] ++ l = acc ++ x :: l := by simp
    have e2 : i + (esc1 x.toNat).length + (escs l).length + 1 = i + ((esc1 x.toNat).length + (escs l).length) + 1 := by omega
    rw [e1, e2]
/-- What Parse gives of a literal behind a blank. -/
theorem parse_lit (s : ByteArray) : parse (⟨#[32]⟩ ++ tstr (quote s.data.toList)) = if 4096 < s.size then (V.null, 1, 6) else (.mk 3 0 s [] [], 0, 0) := by
  obtain ⟨S, hS⟩ : ∃ S : ByteArray, S = ⟨#[32]⟩ ++ tstr (quote s.data.toList) := ⟨_, rfl⟩
  rw [← hS]
  have hD : S.data.toList = 32 :: 34 :: (escs s.data.toList ++ [34]) := by
    rw [hS, ByteArray.data_append, Array.toList_append]; rfl
  have hz : S.size = (escs s.data.toList).length + 3 := by
    rw [← m_len, hD]; simp only [List.length_cons, List.length_append, List.length_nil]
  have d0 : S.data.toList.drop 0 = 32 :: 34 :: (escs s.data.toList ++ [34]) := hD
  obtain ⟨_, c0, d1⟩ := at_drop d0
  obtain ⟨l1, c1, d2⟩ := at_drop d1
  have hs : skip S 0 = 1 := by
    rw [skip_yes (by omega) (by rw [c0]; rfl), skip_no (by rw [c1]; rfl)]
  have hge := escs_ge s.data.toList
  have hsz := m_len s
  unfold parse pv bgn vis
  rw [hs, take_drop d1, Res.then_ok]
  have hst : starts ((34 : UInt8).toNat) = true := by decide
  rw [if_neg (by rw [hst]; decide), if_neg (by decide), if_neg (by decide), Res.then_ok]
  unfold pbody
  rw [if_neg (by decide), if_neg (by decide), if_neg (by decide), if_pos (by decide)]
  unfold lit
  obtain ⟨a, t, h4⟩ : ∃ a t, escs s.data.toList ++ [34] = a :: t := by
    cases hq : escs s.data.toList ++ [34] with
    | nil => simp at hq
    | cons a t => exact ⟨a, t, rfl⟩
  have h5 := at_drop (d2.trans h4)
  rw [take_drop (d2.trans h4), Res.then_ok, ← h5.2.1, litL_back S s.data.toList _ _ _ _ [] (by omega) d2, Res.then_ok, List.nil_append, hsz]
  by_cases hb : 4096 < s.size
  · rw [if_pos hb, if_pos hb]; rfl
  · rw [if_neg hb, if_neg hb, Res.then_ok]
    unfold fin
    dsimp only
    rw [skip_end (by omega), if_neg (by omega)]
end M
end Go.Proofs.YtdkggnciamfcmaaGreatDoor

namespace Go.Proofs.YtdkggnciamfcmaaGreatDoor
set_option linter.unusedVariables false
open Go.RowKit
open M (V)
set_option maxRecDepth 100000

theorem tstr_size (l : List UInt8) : (tstr l).size = l.length := by unfold tstr; simp [ByteArray.size]

set_option maxHeartbeats 4000000 in
theorem literalsW (s : ByteArray) (w : World) (hs : s.size ≤ maxLen) (G : TGate w) :
    Calls Tryz.prog 6 #[.string s] w fun e w' => e = .returned (.bool true) ∧ Below w.heap.size w w' := by
  have hm := hs
  unfold maxLen at hm
  have HG := Lib.hid G
  clear G
  by_cases h : (6000 : Int) < (s.size : Int)
  · go_enter Tryz.func6, Tryz.ntmps6
    go_wp2_with fail
    refine (lives_any _ HG.out).mono ?_
    rintro e w1 ⟨rfl, hb⟩
    go_wp2_with fail
    go_ret
    exact ⟨rfl, hb⟩
  · obtain ⟨T, hT⟩ : ∃ T, T = tstr (M.quote s.data.toList) := ⟨_, rfl⟩
    have hTs : T.size ≤ 24002 := by
      rw [hT, tstr_size]
      have := M.quote_len s.data.toList
      rw [M.m_len] at this; omega
    have hz : ((⟨#[32]⟩ : ByteArray) ++ T).size ≤ 1000000000 := by
      rw [ByteArray.size_append]
      have : (⟨#[32]⟩ : ByteArray).size = 1 := rfl
      omega
    have hp := M.parse_lit s
    rw [← hT] at hp
    have HQ := Lib.hid (quote_any s w (by omega))
    rw [← hT] at HQ
    have HZ := Lib.hid hz
    obtain ⟨S, hS⟩ : ∃ S, S = (⟨#[32]⟩ : ByteArray) ++ T := ⟨_, rfl⟩
    rw [← hS] at hp hz HZ
    have HS := Lib.hid hS.symm
    clear hT hz hS
    by_cases hb : (4096 : Int) < (s.size : Int)
    · rw [if_pos (by omega)] at hp
      have HP := Lib.hid hp
      clear hp
      go_enter Tryz.func6, Tryz.ntmps6
      go_wp2_with fail
      refine (HQ.out).mono ?_
      rintro e w1 ⟨rfl, hb1⟩
      have G1 := Lib.hid (HG.out.below hb1)
      have HB1 := Lib.hid hb1
      clear hb1 HG
      go_wp2_with fail
      rw [HS.out]
      refine (parse_c HZ.out G1.out).mono ?_
      rintro e w2 ⟨v2, rfl, hv2, hb2⟩
      rw [HP.out] at hv2 ⊢
      obtain ⟨A2, n2, c2, B2, p2, e2, rfl⟩ := hv2.agg
      have G2 := Lib.hid (G1.out.below hb2)
      have HB2 := Lib.hid (HB1.out.trans (hb2.mono HB1.out.size))
      clear hv2 hb2 G1 HB1
      go_wp2_with fail
      refine (lives_any _ (G2.out.below (box_new w2 _))).mono ?_
      rintro e w3 ⟨rfl, hb3⟩
      have HB3 := Lib.hid (HB2.out.trans (((box_new w2 _).trans (hb3.mono (box_new w2 _).size)).mono HB2.out.size))
      clear hb3
      go_wp2_with fail
      go_ret
      exact ⟨rfl, HB3.out⟩
    · rw [if_neg (by omega)] at hp
      have HP := Lib.hid hp
      clear hp
      go_enter Tryz.func6, Tryz.ntmps6
      go_wp2_with fail
      refine (HQ.out).mono ?_
      rintro e w1 ⟨rfl, hb1⟩
      have G1 := Lib.hid (HG.out.below hb1)
      have HB1 := Lib.hid hb1
      clear hb1 HG
      go_wp2_with fail
      rw [HS.out]
      refine (parse_c HZ.out G1.out).mono ?_
      rintro e w2 ⟨v2, rfl, hv2, hb2⟩
      rw [HP.out] at hv2 ⊢
      obtain ⟨A2, n2, c2, B2, p2, e2, rfl⟩ := hv2.agg
      simp only [V.k, V.n, V.s]
      have G2 := Lib.hid (G1.out.below hb2)
      have HB2 := Lib.hid (HB1.out.trans (hb2.mono HB1.out.size))
      clear hv2 hb2 G1 HB1
      go_wp2_with fail
      refine (lives_any _ (G2.out.below (box_new w2 _))).mono ?_
      rintro e w3 ⟨rfl, hb3⟩
      have HB3 := Lib.hid (HB2.out.trans (((box_new w2 _).trans (hb3.mono (box_new w2 _).size)).mono HB2.out.size))
      clear hb3
      go_wp2_with fail
      go_ret
      exact ⟨rfl, HB3.out⟩
end Go.Proofs.YtdkggnciamfcmaaGreatDoor

namespace Go.Proofs.YtdkggnciamfcmaaGreatDoor
open Go.RowKit
set_option maxRecDepth 100000

theorem t_star : "*" ++ "errors.errorString" = "*errors.errorString" := by decide
theorem t_row (u : TypeId) (h : Tryz.prog.typeName? 3 u = some "*errors.errorString") : u = 125 :=
  typeName_ptr_named (nm := "errors.errorString") (by rw [t_star]; kernel_rfl) (by kernel_rfl) (by decide) u (by rw [t_star]; exact h)

/-- The rows' list. -/
def tLaid : List (String × DataW Unit) := [("math/bits.deBruijn32tab", Rows.laid_math_bits_deBruijn32tab), ("math/bits.deBruijn64tab", Rows.laid_math_bits_deBruijn64tab), ("internal/strconv.uint64pow10", Rows.laid_internal_strconv_uint64pow10), ("strconv.ErrRange", Rows.laid_strconv_ErrRange), ("strconv.ErrSyntax", Rows.laid_strconv_ErrSyntax)]

theorem five_of {rest : List (String × DataW Unit)} {W : World} (h : laidMet Tryz.prog (("math/bits.deBruijn32tab", Rows.laid_math_bits_deBruijn32tab) :: rest) W) : 5 ≤ W.heap.size := by
  have ht : Lib.TabIs Tryz.prog W "math/bits.deBruijn32tab" .u8 [0, 1, 28, 2, 29, 14, 24, 3, 30, 22, 20, 15, 25, 17, 4, 8, 31, 27, 13, 23, 21, 19, 16, 7, 26, 12, 18, 6, 11, 5, 10, 9] :=
    Lib.tabIs_of_head (rest := rest) (g := 4) (by kernel_rfl) (by kernel_rfl) Tryz.underlying128 Tryz.underlying5 (by kernel_rfl) (by kernel_rfl) h
  have h0 := World.var?_cell (g := 4) (by kernel_rfl) ht 0
  have hl := Lib.lt_of_cell (v := .int .u8 0) (by simpa using h0)
  exact hl

theorem gates_of {W : World} (h : laidMetH Tryz.prog tLaid W) : TGate W := by
  rw [MakeChecks.laidMetH_plain _ _ _ (by kernel_rfl)] at h
  have h5 := five_of h
  have h2 := h.tail.tail
  have htab : Lib.TabIs Tryz.prog W "internal/strconv.uint64pow10" .u64 Lib.pow10Tab :=
    Lib.tabIs_of_head (rest := [("strconv.ErrRange", Rows.laid_strconv_ErrRange), ("strconv.ErrSyntax", Rows.laid_strconv_ErrSyntax)]) (g := 0) (by kernel_rfl) (by kernel_rfl) Tryz.underlying114 Tryz.underlying88 (by kernel_rfl) (by kernel_rfl) h2
  obtain ⟨a1, s1, hv1, -, -, -⟩ := laid_sentinel (g := 3) h2.tail (by kernel_rfl) (by kernel_rfl) Tryz.underlying81 t_row Tryz.underlying125 Tryz.underlying127 rfl rfl Tryz.underlying9 (by kernel_rfl) (by kernel_rfl)
  obtain ⟨a2, s2, hv2, -, -, -⟩ := laid_sentinel (g := 2) h2.tail.tail (by kernel_rfl) (by kernel_rfl) Tryz.underlying81 t_row Tryz.underlying125 Tryz.underlying127 rfl rfl Tryz.underlying9 (by kernel_rfl) (by kernel_rfl)
  exact ⟨⟨⟨_, by have h0 := World.var?_cell (g := 2) (by kernel_rfl) hv2 0; simpa using h0, .inr ⟨_, _, rfl⟩⟩,
    ⟨_, by have h0 := World.var?_cell (g := 3) (by kernel_rfl) hv1 0; simpa using h0, .inr ⟨_, _, rfl⟩⟩⟩, htab, h5⟩
end Go.Proofs.YtdkggnciamfcmaaGreatDoor

namespace Go.Proofs.YtdkggnciamfcmaaGreatDoor
set_option linter.unusedVariables false
open M (V Res)
namespace M

theorem then_then {α β γ : Type} (r : Res α) (f : α → Nat → Nat → Res β) (g : β → Nat → Nat → Res γ) : (r.then f).then g = r.then (fun a j b => (f a j b).then g) := by cases r <;> rfl

/-! ### What a reading gives: where it ends -/
def Own {α : Type} (s : ByteArray) (i e : Nat) (r : Res α) : Prop := (∀ a j b, r = .ok a j b → i ≤ j ∧ j ≤ s.size) ∧ (∀ k, r = .no k 3 → e ≤ k ∧ k < s.size)
section
variable {α β : Type} {s : ByteArray} {i e j k b : Nat} {a : α} {r : Res α} {f : α → Nat → Nat → Res β}
theorem Own.ok (h1 : i ≤ j) (h2 : j ≤ s.size) : Own s i e (.ok a j b) := ⟨fun _ _ _ h => by injection h with _ e1 e2; subst e1; exact ⟨h1, h2⟩, fun _ h => (by cases h)⟩
theorem Own.no {x : Int} (hx : x ≠ 3) : Own s i e (.no k x : Res α) := ⟨fun _ _ _ h => (by cases h), fun _ h => by injection h with _ e2; exact absurd e2 hx⟩
theorem Own.bad (h1 : e ≤ k) (h2 : k < s.size) : Own s i e (.no k 3 : Res α) := ⟨fun _ _ _ h => (by cases h), fun _ h => by injection h with e1 _; subst e1; exact ⟨h1, h2⟩⟩
theorem Own.mono {i2 e2 : Nat} (h : Own s i2 e2 r) (h1 : i ≤ i2) (h2 : e ≤ e2) : Own s i e r := ⟨fun a j b hr => by have := h.1 a j b hr; omega, fun k hr => by have := h.2 k hr; omega⟩
theorem Own.then {i2 : Nat} (h : Own s i e r) (hf : ∀ a j b, i ≤ j → j ≤ s.size → Own s i2 e (f a j b)) : Own s i2 e (r.then f) := by
  cases r with
  | no k x => exact ⟨fun _ _ _ hh => (by cases hh), fun k2 hh => h.2 k2 (by simpa [Res.then_no] using hh)⟩
  | ok a j b =>
    obtain ⟨h1, h2⟩ := h.1 a j b rfl
    exact hf a j b h1 h2
theorem own_take {g : Nat → Nat → Nat → Res β} {i2 : Nat} (hg : i < s.size → Own s i2 e (g (ch s i) (i + 1) b)) : Own s i2 e ((take s i b).then g) := by
  by_cases h : i < s.size
  · rw [take_ok h, Res.then_ok]; exact hg h
  · rw [take_no h, Res.then_no]; exact Own.no (by decide)
theorem own_vis {g : Nat → Nat → Nat → Res β} (hi : i ≤ s.size) (hg : ∀ p, i ≤ p → p < s.size → Own s (p + 1) p (g (ch s p) (p + 1) b)) : Own s (i + 1) i ((vis s i b).then g) := by
  have h := skip_le hi
  unfold vis
  exact own_take fun h2 => (hg _ h.1 h2).mono (by omega) h.1
end

/-! ### Another text that begins alike -/
structure Ctx (s s' : ByteArray) (K : Nat) : Prop where
  le : K ≤ s.size
  le' : K ≤ s'.size
  eq : ∀ i, i < K → ch s i = ch s' i
def Tr {α : Type} (s' : ByteArray) (K : Nat) (st : Bool) (r r' : Res α) : Prop :=
  (∀ a j b, r = .ok a j b → (j < K ∨ (j = K ∧ s'.size = K)) → r' = r) ∧ (∀ k, r = .no k 3 → k < K → r' = r) ∧
  (s'.size = K → r = .no K 3 → r' = .no K 4 ∨ (st = false ∧ ∃ a b, r' = .ok a K b))
section
variable {α β : Type} {s s' : ByteArray} {K i j k b : Nat} {st st1 : Bool} {a : α} {r r' : Res α}
theorem Tr.ok : Tr s' K st (.ok a j b) (.ok a j b) := ⟨fun _ _ _ _ _ => rfl, fun _ h => (by cases h), fun _ h => (by cases h)⟩
theorem Tr.none {x : Int} (hx : x ≠ 3) : Tr s' K st (.no k x) r' := ⟨fun _ _ _ h => (by cases h), fun _ h => by injection h with _ e2; exact absurd e2 hx, fun _ h => by injection h with _ e2; exact absurd e2 hx⟩
theorem Tr.bad (h : k < K) : Tr s' K st (.no k 3 : Res α) (.no k 3) := ⟨fun _ _ _ h => (by cases h), fun _ _ _ => rfl, fun _ h2 => by injection h2 with e1 _; omega⟩
theorem Tr.weak (h : Tr s' K true r r') : Tr s' K st r r' := ⟨h.1, h.2.1, fun h1 h2 => by
  rcases h.2.2 h1 h2 with h3 | ⟨h3, _⟩
  · exact .inl h3
  · cases h3⟩
theorem Tr.then {f f' : α → Nat → Nat → Res β} (h : Tr s' K st1 r r') (ho : ∀ a j b, r = .ok a j b → Own s j j (f a j b)) (hf : ∀ a j b, r = .ok a j b → j ≤ K → Tr s' K st (f a j b) (f' a j b))
    (he : st1 = false → s'.size = K → ∀ a b, f' a K b = .no K 4 ∨ (st = false ∧ ∃ a2 b2, f' a K b = .ok a2 K b2)) : Tr s' K st (r.then f) (r'.then f') := by
  cases r with
  | no k x =>
    rw [Res.then_no]
    refine ⟨fun _ _ _ h => (by cases h), fun k2 h2 h3 => ?_, fun h1 h2 => ?_⟩
    · injection h2 with e1 e2
      subst e1 e2
      rw [h.2.1 _ rfl h3]; rfl
    · injection h2 with e1 e2
      subst e1 e2
      rcases h.2.2 h1 rfl with h3 | ⟨h3, a, b, h4⟩
      · rw [h3]; exact .inl rfl
      · rw [h4]; exact he h3 h1 a b
  | ok a j b =>
    rw [Res.then_ok]
    have o := ho a j b rfl
    have key : (j < K ∨ (j = K ∧ s'.size = K)) → r'.then f' = f' a j b := fun hc => by rw [h.1 a j b rfl hc]; rfl
    refine ⟨fun a2 j2 b2 h2 h3 => ?_, fun k h2 h3 => ?_, fun h1 h2 => ?_⟩
    · have := (o.1 a2 j2 b2 h2).1
      rw [key (by omega)]
      exact (hf a j b rfl (by omega)).1 a2 j2 b2 h2 h3
    · have := (o.2 k h2).1
      rw [key (by omega)]
      exact (hf a j b rfl (by omega)).2.1 k h2 h3
    · have := (o.2 K h2).1
      rw [key (by omega)]
      exact (hf a j b rfl (by omega)).2.2 h1 h2
theorem Tr.take (C : Ctx s s' K) {g g' : Nat → Nat → Nat → Res β} (ho : i < s.size → Own s (i + 1) i (g (ch s i) (i + 1) b)) (h : i < K → Tr s' K st (g (ch s i) (i + 1) b) (g' (ch s i) (i + 1) b)) :
    Tr s' K st ((take s i b).then g) ((take s' i b).then g') := by
  by_cases h1 : i < s.size
  · rw [take_ok h1, Res.then_ok]
    by_cases hK : i < K
    · rw [take_ok (Nat.lt_of_lt_of_le hK C.le'), Res.then_ok, ← C.eq i hK]
      exact h hK
    · have o := ho h1
      refine ⟨fun a j b h2 h3 => ?_, fun k h2 h3 => ?_, fun h3 h2 => ?_⟩
      · have := o.1 a j b h2; omega
      · have := o.2 k h2; omega
      · have := o.2 K h2
        obtain rfl : i = K := by omega
        rw [take_no (by omega), Res.then_no]; exact .inl rfl
  · rw [take_no h1, Res.then_no]; exact Tr.none (by decide)
end
theorem skip_tr {s s' : ByteArray} {K : Nat} (C : Ctx s s' K) : ∀ (n i : Nat), n = K - i → i ≤ K → (skip s i < K → skip s' i = skip s i) ∧ (K ≤ skip s i → K ≤ skip s' i)
  | 0, i, hn, hi => by
    have h1 := skip_le (s := s) (i := i) (by have := C.le; omega)
    have h2 := skip_le (s := s') (i := i) (by have := C.le'; omega)
    exact ⟨fun h => by omega, fun h => by omega⟩
  | n + 1, i, hn, hi => by
    have hK : i < K := by omega
    have e := C.eq i hK
    cases hb : blank (ch s i) with
    | true =>
      rw [skip_yes (Nat.lt_of_lt_of_le hK C.le) hb, skip_yes (Nat.lt_of_lt_of_le hK C.le') (by rw [← e]; exact hb)]
      exact skip_tr C n (i + 1) (by omega) (by omega)
    | false =>
      rw [skip_no hb, skip_no (by rw [← e]; exact hb)]
      exact ⟨fun _ => rfl, fun h => h⟩
theorem digs_tr {s s' : ByteArray} {K : Nat} (C : Ctx s s' K) : ∀ (n i : Nat), n = K - i → i ≤ K → (digs s i < K → digs s' i = digs s i) ∧ (K ≤ digs s i → K ≤ digs s' i)
  | 0, i, hn, hi => by
    have h1 := digs_le (s := s) (i := i) (by have := C.le; omega)
    have h2 := digs_le (s := s') (i := i) (by have := C.le'; omega)
    exact ⟨fun h => by omega, fun h => by omega⟩
  | n + 1, i, hn, hi => by
    have hK : i < K := by omega
    have e := C.eq i hK
    cases hb : digit (ch s i) with
    | true =>
      rw [digs_yes (Nat.lt_of_lt_of_le hK C.le) hb, digs_yes (Nat.lt_of_lt_of_le hK C.le') (by rw [← e]; exact hb)]
      exact digs_tr C n (i + 1) (by omega) (by omega)
    | false =>
      rw [digs_no hb, digs_no (by rw [← e]; exact hb)]
      exact ⟨fun _ => rfl, fun h => h⟩
section
variable {α β : Type} {s s' : ByteArray} {K i j k b : Nat} {st st1 : Bool}
theorem Tr.vis (C : Ctx s s' K) (hi : i ≤ K) {g g' : Nat → Nat → Nat → Res β} (ho : ∀ p, i ≤ p → p < s.size → Own s (p + 1) p (g (ch s p) (p + 1) b)) (h : ∀ p, i ≤ p → p < K → Tr s' K st (g (ch s p) (p + 1) b) (g' (ch s p) (p + 1) b)) :
    Tr s' K st ((M.vis s i b).then g) ((M.vis s' i b).then g') := by
  have hp := skip_le (s := s) (i := i) (by have := C.le; omega)
  have hp' := skip_le (s := s') (i := i) (by have := C.le'; omega)
  obtain ⟨t1, t2⟩ := skip_tr C (K - i) i rfl hi
  unfold M.vis
  by_cases hK : skip s i < K
  · rw [t1 hK]
    exact Tr.take C (fun h1 => ho _ hp.1 h1) (fun h1 => h _ hp.1 h1)
  · have hK' := t2 (by omega)
    by_cases h1 : skip s i < s.size
    · rw [take_ok h1, Res.then_ok]
      have o := ho _ hp.1 h1
      refine ⟨fun a j b h2 h3 => ?_, fun k h2 h3 => ?_, fun h3 h2 => ?_⟩
      · have := o.1 a j b h2; omega
      · have := o.2 k h2; omega
      · have e : skip s' i = K := by omega
        rw [e, take_no (by omega), Res.then_no]; exact .inl rfl
    · rw [take_no h1, Res.then_no]; exact Tr.none (by decide)
theorem vis_cut (h : s'.size = K) (g : Nat → Nat → Nat → Res β) : (M.vis s' K b).then g = .no K 4 := by
  unfold M.vis
  rw [skip_end (by omega), take_no (by omega), Res.then_no]

theorem vis_cut2 (h : s'.size = K) (cl : Nat) (F : Bool → Nat → Nat → Res β) : (next s' cl K b).then F = .no K 4 := by
  unfold next
  rw [vis_cut h, Res.then_no]

/-! ### The readers -/
theorem own_next (hi : i ≤ s.size) (cl : Nat) : Own s (i + 1) i (next s cl i b) := own_vis hi fun p h1 h2 => by
  show Own s (p + 1) p (if _ then _ else _)
  split
  · exact Own.ok (Nat.le_refl _) h2
  · split
    · exact Own.ok (Nat.le_refl _) h2
    · exact Own.bad (Nat.le_refl _) h2
theorem tr_next (C : Ctx s s' K) (hi : i ≤ K) (cl : Nat) : Tr s' K true (next s cl i b) (next s' cl i b) := Tr.vis C hi
  (fun p h1 h2 => by
    show Own s (p + 1) p (if _ then _ else _)
    split
    · exact Own.ok (Nat.le_refl _) h2
    · split
      · exact Own.ok (Nat.le_refl _) h2
      · exact Own.bad (Nat.le_refl _) h2)
  (fun p h1 h2 => by
    show Tr s' K true (if _ then _ else _) (if _ then _ else _)
    split
    · exact Tr.ok
    · split
      · exact Tr.ok
      · exact Tr.bad h2)
end
theorem own_word (s : ByteArray) : ∀ (l : List UInt8) (i b : Nat), i ≤ s.size → Own s i i (word s l i b)
  | [], i, b, hi => Own.ok (Nat.le_refl _) hi
  | c :: l, i, b, hi => by
    rw [word]
    refine own_take fun h => ?_
    unfold want
    split
    · exact (own_word s l (i + 1) b h).mono (by omega) (by omega)
    · exact Own.bad (Nat.le_refl _) h
theorem tr_word {s s' : ByteArray} {K : Nat} (C : Ctx s s' K) : ∀ (l : List UInt8) (i b : Nat), i ≤ K → Tr s' K true (word s l i b) (word s' l i b)
  | [], i, b, hi => Tr.ok
  | c :: l, i, b, hi => by
    rw [word, word]
    refine Tr.take C (fun h => ?_) (fun h => ?_)
    · unfold want
      split
      · exact (own_word s l (i + 1) b h).mono (by omega) (by omega)
      · exact Own.bad (Nat.le_refl _) h
    · unfold want
      split
      · exact tr_word C l (i + 1) b h
      · exact Tr.bad h
section
variable {s s' : ByteArray} {K i b : Nat}
theorem own_hexD : Own s (i + 1) i (hexD s i b) := own_take fun h => by
  show Own s (i + 1) i (if _ then _ else _)
  split
  · exact Own.bad (Nat.le_refl _) h
  · exact Own.ok (Nat.le_refl _) h
theorem tr_hexD (C : Ctx s s' K) : Tr s' K true (hexD s i b) (hexD s' i b) := Tr.take C
  (fun h => by
    show Own s (i + 1) i (if _ then _ else _)
    split
    · exact Own.bad (Nat.le_refl _) h
    · exact Own.ok (Nat.le_refl _) h)
  (fun h => by
    show Tr s' K true (if _ then _ else _) (if _ then _ else _)
    split
    · exact Tr.bad h
    · exact Tr.ok)
theorem own_escG (h : i < s.size) (c : Nat) : Own s (i + 1) i (if c = 110 then .ok 10 (i + 1) b else if c = 116 then .ok 9 (i + 1) b
    else if c = 120 then (hexD s (i + 1) b).then fun h k b => (hexD s k b).then fun l m b => .ok (16 * h + l) m b
    else if c = 34 ∨ c = 92 then .ok c (i + 1) b else .no (i + 1 - 1) 3) := by
  split
  · exact Own.ok (Nat.le_refl _) h
  split
  · exact Own.ok (Nat.le_refl _) h
  split
  · have hh : ∀ x k b, i + 2 ≤ k → k ≤ s.size → Own s (i + 1) i ((hexD s k b).then fun l m b => (.ok (16 * x + l) m b : Res Nat)) := fun x k b h1 h2 => ((own_hexD (i := k)).then (i2 := k) fun y m b h3 h4 => Own.ok (by omega) h4).mono (by omega) (by omega)
    exact ((own_hexD (i := i + 1)).mono (i := i + 2) (e := i) (by omega) (by omega)).then fun x k b h1 h2 => hh x k b h1 h2
  split
  · exact Own.ok (Nat.le_refl _) h
  · exact Own.bad (Nat.le_refl _) h
theorem own_esc : Own s (i + 1) i (esc s i b) := own_take fun h => own_escG h _
theorem tr_esc (C : Ctx s s' K) : Tr s' K true (esc s i b) (esc s' i b) := Tr.take C (fun h => own_escG h _)
  (fun h => by
    show Tr s' K true (if _ then _ else _) (if _ then _ else _)
    split
    · exact Tr.ok
    split
    · exact Tr.ok
    split
    · exact (tr_hexD C).then (s := s) (fun x k b hr => own_hexD.then fun y m b h3 h4 => Own.ok (by omega) h4) (fun x k b hr hk => (tr_hexD C).then (s := s) (fun y m b hr2 => Own.ok (Nat.le_refl _) (own_hexD.1 _ _ _ hr2).2) (fun y m b _ _ => Tr.ok) (fun h => by cases h)) (fun h => by cases h)
    split
    · exact Tr.ok
    · exact Tr.bad h)
end
theorem own_litL (s : ByteArray) : ∀ (f : Nat) (acc : List UInt8) (p b : Nat), p < s.size → Own s (p + 1) p (litL s f acc (ch s p) (p + 1) b)
  | 0, acc, p, b, hp => by rw [litL]; exact Own.no (by decide)
  | f + 1, acc, p, b, hp => by
    have hk : ∀ x j b, p + 1 ≤ j → j ≤ s.size → Own s (p + 1) p ((take s j b).then fun d k b => litL s f (acc ++ [UInt8.ofNat x]) d k b) := fun x j b h1 h2 =>
      (own_take (i2 := j + 1) (e := j) fun h => own_litL s f _ j b h).mono (by omega) (by omega)
    rw [litL]
    split
    · exact Own.ok (Nat.le_refl _) hp
    unfold letter
    split
    · exact ((own_esc (i := p + 1)).mono (i := p + 1) (e := p) (by omega) (by omega)).then fun x j b h1 h2 => hk x j b h1 h2
    split
    · rw [Res.then_ok]; exact hk _ _ _ (Nat.le_refl _) hp
    · exact Own.bad (Nat.le_refl _) hp
theorem tr_litL {s s' : ByteArray} {K : Nat} (C : Ctx s s' K) : ∀ (f f' : Nat) (acc : List UInt8) (p b : Nat), p < K → K ≤ f' + p → Tr s' K true (litL s f acc (ch s p) (p + 1) b) (litL s' f' acc (ch s p) (p + 1) b)
  | 0, f', acc, p, b, hp, hf => by rw [litL]; exact Tr.none (by decide)
  | f + 1, 0, acc, p, b, hp, hf => by omega
  | f + 1, f' + 1, acc, p, b, hp, hf => by
    have ho : ∀ x j b, j ≤ s.size → Own s j j ((take s j b).then fun d k b => litL s f (acc ++ [UInt8.ofNat x]) d k b) := fun x j b h2 =>
      (own_take (i2 := j + 1) (e := j) fun h => own_litL s f _ j b h).mono (by omega) (by omega)
    have hk : ∀ x j b, p + 1 ≤ j → Tr s' K true ((take s j b).then fun d k b => litL s f (acc ++ [UInt8.ofNat x]) d k b) ((take s' j b).then fun d k b => litL s' f' (acc ++ [UInt8.ofNat x]) d k b) := fun x j b h1 =>
      Tr.take C (fun h => own_litL s f _ j b h) (fun h => tr_litL C f f' _ j b h (by omega))
    rw [litL, litL]
    split
    · exact Tr.ok
    unfold letter
    split
    · exact (tr_esc C).then (s := s) (fun x j b hr => ho x j b (own_esc.1 _ _ _ hr).2) (fun x j b hr _ => hk x j b (by have := (own_esc.1 _ _ _ hr).1; omega)) (fun h => by cases h)
    split
    · rw [Res.then_ok, Res.then_ok]; exact hk _ _ _ (Nat.le_refl _)
    · exact Tr.bad hp
section
variable {s s' : ByteArray} {K i b : Nat}
theorem own_litG (h : i < s.size) (f : Nat) : Own s (i + 1) i ((litL s f [] (ch s i) (i + 1) b).then fun l k b => if 4096 < l.length then (.no (i - 1) 6 : Res ByteArray) else .ok ⟨l.toArray⟩ k b) :=
  (own_litL s f [] i b h).then fun l k b h1 h2 => by
    split
    · exact Own.no (by decide)
    · exact Own.ok h1 h2
theorem own_lit : Own s (i + 1) i (lit s i b) := own_take fun h => own_litG h _
theorem tr_lit (C : Ctx s s' K) : Tr s' K true (lit s i b) (lit s' i b) := Tr.take C (fun h => own_litG h _)
  (fun h => (tr_litL C _ _ [] i b h (by have := C.le'; omega)).then (s := s) (fun l k b hr => by
    split
    · exact Own.no (by decide)
    · exact Own.ok (Nat.le_refl _) ((own_litL s _ [] i _ (Nat.lt_of_lt_of_le h C.le)).1 _ _ _ hr).2) (fun l k b _ _ => by
    split
    · exact Tr.none (by decide)
    · exact Tr.ok) (fun h => by cases h))
theorem own_lead (hi : i ≤ s.size) (c : Nat) : Own s i i (lead s c i b) := by
  unfold lead
  split
  · refine own_take fun h => ?_
    split
    · exact Own.bad (Nat.le_refl _) h
    · exact Own.ok (by omega) h
  · exact Own.ok (Nat.le_refl _) hi
theorem tr_lead (C : Ctx s s' K) (c : Nat) : Tr s' K true (lead s c i b) (lead s' c i b) := by
  unfold lead
  split
  · refine Tr.take C (fun h => ?_) (fun h => ?_)
    · split
      · exact Own.bad (Nat.le_refl _) h
      · exact Own.ok (Nat.le_refl _) h
    · split
      · exact Tr.bad h
      · exact Tr.ok
  · exact Tr.ok
theorem own_tail {k d j : Nat} (hj : j ≤ s.size) : Own s j j (tail s k d j b) := by
  have := digs_le hj
  unfold tail
  split
  · exact Own.bad (Nat.le_refl _) (by omega)
  · split
    · exact Own.ok this.1 this.2
    · exact Own.no (by decide)
theorem ch_ext {x y : ByteArray} {j : Nat} (hx : j ≤ x.size) (hy : j ≤ y.size) (h : ∀ i, i < j → ch x i = ch y i) (k : Nat) : (x.extract k j).data.toList = (y.extract k j).data.toList := by
  have e : ∀ z : ByteArray, (z.extract k j).data.toList = (z.data.toList.take j).drop k := fun z => by
    rw [ByteArray.data_extract, Array.toList_extract]
    simp [List.drop_take]
  rw [e, e]
  congr 1
  have lx : x.data.toList.length = x.size := by rw [Array.length_toList]; rfl
  have ly : y.data.toList.length = y.size := by rw [Array.length_toList]; rfl
  apply List.ext_getElem
  · rw [List.length_take, List.length_take]; omega
  · intro n h1 h2
    rw [List.getElem_take, List.getElem_take]
    have hn : n < j := by rw [List.length_take] at h1; omega
    have h3 := h n hn
    unfold ch at h3
    rw [List.getD, List.getD, List.getElem?_eq_getElem (by omega), List.getElem?_eq_getElem (by omega)] at h3
    exact UInt8.toNat_inj.1 h3
theorem num_ext {x y : ByteArray} {j : Nat} (hx : j ≤ x.size) (hy : j ≤ y.size) (h : ∀ i, i < j → ch x i = ch y i) (k : Nat) : num x k j = num y k j := by
  unfold num; rw [ch_ext hx hy h k]
theorem num_zero {x : ByteArray} {k : Nat} (hk : k < x.size) (h : ch x k = 48) : num x k (k + 1) = some 0 := by
  have e : (x.extract k (k + 1)).data.toList = [48] := by
    have lx : x.data.toList.length = x.size := by rw [Array.length_toList]; rfl
    have e1 : (x.extract k (k + 1)).data.toList = (x.data.toList.take (k + 1)).drop k := by
      rw [ByteArray.data_extract, Array.toList_extract]
      simp [List.drop_take]
    unfold ch at h
    rw [List.getD, List.getElem?_eq_getElem (by omega)] at h
    have h2 : x.data.toList[k] = 48 := UInt8.toNat_inj.1 (by simpa using h)
    rw [e1, List.take_succ_eq_append_getElem (by omega), List.drop_append_of_le_length (by rw [List.length_take]; omega), List.drop_eq_nil_of_le (by rw [List.length_take]; omega), h2]
    rfl
  unfold num
  rw [e]
  rfl
theorem tr_tail (C : Ctx s s' K) {k d j : Nat} (hj : j ≤ K) (hz : d = 48 → ∃ v, num s' k j = some v) : Tr s' K false (tail s k d j b) (tail s' k d j b) := by
  have hs := C.le
  have hs' := C.le'
  have hd := digs_le (s := s) (i := j) (by omega)
  have hd' := digs_le (s := s') (i := j) (by omega)
  obtain ⟨t1, t2⟩ := digs_tr C (K - j) j rfl hj
  unfold tail
  by_cases h1 : d = 48 ∧ j < s.size ∧ digit (ch s j) = true
  · rw [if_pos h1]
    by_cases hK : j < K
    · rw [if_pos ⟨h1.1, by omega, by rw [← C.eq j hK]; exact h1.2.2⟩]
      exact Tr.bad hK
    · refine ⟨fun _ _ _ h => (by cases h), fun _ h h3 => (by injection h with e1 _; omega), fun h3 _ => .inr ⟨rfl, ?_⟩⟩
      have ej : j = K := by omega
      rw [if_neg (by omega), digs_end (by omega)]
      obtain ⟨v, hv⟩ := hz h1.1
      rw [hv]
      exact ⟨v, b, by rw [ej]⟩
  · rw [if_neg h1]
    cases hn : num s k (digs s j) with
    | none => exact Tr.none (by decide)
    | some v =>
      refine ⟨fun a j2 b2 h h3 => ?_, fun _ h => (by cases h), fun _ h => (by cases h)⟩
      injection h with e1 e2 e3
      have e4 : digs s' j = digs s j := by
        rcases Nat.lt_or_ge (digs s j) K with h5 | h5
        · exact t1 h5
        · have := t2 h5; omega
      have h6 : ¬ (d = 48 ∧ j < s'.size ∧ digit (ch s' j) = true) := fun h7 => by
        have hK : j < K := by omega
        exact h1 ⟨h7.1, by omega, by rw [C.eq j hK]; exact h7.2.2⟩
      rw [if_neg h6, e4, ← num_ext (x := s) (j := digs s j) (by omega) (by omega) (fun i hi => C.eq i (by omega)) k, hn]
theorem own_int (hi : i ≤ s.size) (c : Nat) : Own s i i (int s c i b) := (own_lead hi c).then fun d j b h1 h2 => (own_tail h2).mono h1 h1
theorem tr_int (C : Ctx s s' K) {p : Nat} (hp : p < K) : Tr s' K false (int s (ch s p) (p + 1) b) (int s' (ch s p) (p + 1) b) :=
  (tr_lead C _).then (s := s) (fun d j b hr => own_tail ((own_lead (Nat.lt_of_lt_of_le hp C.le) _).1 _ _ _ hr).2)
    (fun d j b hr hj => tr_tail C hj (fun hd => by
      unfold lead at hr
      split at hr
      · obtain ⟨q, hq⟩ : ∃ q, q = M.take s (p + 1) b := ⟨_, rfl⟩
        exfalso
        revert hr
        cases hq2 : take s (p + 1) _ with
        | no k e => intro hr; cases hr
        | ok d2 j2 b2 =>
          rw [Res.then_ok]
          split
          · intro hr; cases hr
          · rename_i hne
            intro hr
            injection hr with e1 _ _
            omega
      · injection hr with e1 e2 _
        subst e2
        refine ⟨0, num_zero (Nat.lt_of_lt_of_le hp C.le') ?_⟩
        rw [show p + 1 - 1 = p by omega, ← C.eq p hp]; omega)) (fun h => by cases h)
end
/-! ### Lists, maps, values -/
def OwnP (s : ByteArray) (p : Nat → Nat → Res V) : Prop := ∀ i b, i ≤ s.size → Own s (i + 1) i (p i b)
def TrP (s' : ByteArray) (K : Nat) (p p' : Nat → Nat → Res V) : Prop := ∀ i b, i ≤ K → Tr s' K false (p i b) (p' i b)
section
variable {s s' : ByteArray} {K i b : Nat} {p p' : Nat → Nat → Res V}
theorem own_pl0 (hp : OwnP s p) : ∀ (k : Nat) (acc : List V) (m : Bool) (i b : Nat), i ≤ s.size → Own s i i (pl s p k acc m i b)
  | 0, acc, false, i, b, hi => Own.ok (Nat.le_refl _) hi
  | k + 1, acc, false, i, b, hi => Own.ok (Nat.le_refl _) hi
  | 0, acc, true, i, b, hi => Own.no (by decide)
  | k + 1, acc, true, i, b, hi => by
    rw [pl]
    exact (hp i b hi).then fun t j b h1 h2 => ((own_next h2 _).then (i2 := j) fun m j2 b h3 h4 => (own_pl0 hp k _ m j2 b h4).mono (by omega) (by omega)).mono (by omega) (by omega)
theorem own_pl1 (hp : OwnP s p) (k : Nat) (acc : List V) (hi : i ≤ s.size) : Own s (i + 1) i (pl s p k acc true i b) := by
  cases k with
  | zero => exact Own.no (by decide)
  | succ k =>
    rw [pl]
    exact (hp i b hi).then fun t j b h1 h2 => ((own_next h2 _).then (i2 := j) fun m j2 b h3 h4 => (own_pl0 hp k _ m j2 b h4).mono (by omega) (by omega)).mono (by omega) (by omega)
theorem tr_pl (C : Ctx s s' K) (hp : OwnP s p) (tp : TrP s' K p p') : ∀ (k k' : Nat) (acc : List V) (m : Bool) (i b : Nat), i ≤ K → K + 1 ≤ k' + i → Tr s' K true (pl s p k acc m i b) (pl s' p' k' acc m i b)
  | 0, 0, acc, false, i, b, hi, hk => Tr.ok
  | 0, k' + 1, acc, false, i, b, hi, hk => Tr.ok
  | k + 1, 0, acc, false, i, b, hi, hk => Tr.ok
  | k + 1, k' + 1, acc, false, i, b, hi, hk => Tr.ok
  | 0, k', acc, true, i, b, hi, hk => Tr.none (by decide)
  | k + 1, 0, acc, true, i, b, hi, hk => by omega
  | k + 1, k' + 1, acc, true, i, b, hi, hk => by
    rw [pl, pl]
    have hsz := C.le
    refine (tp i b hi).then (s := s) (fun t j b hr => ?_) (fun t j b hr hj => ?_) (fun _ hs t b => .inl (vis_cut2 hs _ _))
    · have h2 := ((hp i _ (by omega)).1 _ _ _ hr).2
      exact (own_next h2 _).then (i2 := j) fun m j2 b h3 h4 => (own_pl0 hp k _ m j2 b h4).mono (by omega) (by omega)
    · have h1 := (hp i _ (by omega)).1 _ _ _ hr
      refine (tr_next C hj _).then (s := s) (fun m j2 b hr2 => own_pl0 hp k _ m j2 b ((own_next h1.2 _).1 _ _ _ hr2).2) (fun m j2 b hr2 hj2 => ?_) (fun h => by cases h)
      have h3 := ((own_next h1.2 _).1 _ _ _ hr2).1
      exact tr_pl C hp tp k k' _ m j2 b hj2 (by omega)
theorem own_listG (hp : OwnP s p) {q : Nat} (hq : q < s.size) (cl : Nat) : Own s (q + 1) q (((if ch s q = cl then (.ok false (q + 1) b : Res Bool) else .ok true (q + 1 - 1) b)).then fun m j b => (pl s p (s.size + 1 - j) [] m j b).then fun l j b => (.ok (.mk 4 0 ByteArray.empty l []) j b : Res V)) := by
  split
  · rw [Res.then_ok]
    exact ((own_pl0 hp _ _ _ _ _ hq).then (i2 := q + 1) fun l j b h1 h2 => Own.ok h1 h2).mono (by omega) (by omega)
  · rw [Res.then_ok, show q + 1 - 1 = q by omega]
    exact (own_pl1 hp _ _ (by omega)).then fun l j b h1 h2 => Own.ok h1 h2
theorem plist_eq : plist s p i b = (vis s i b).then fun c j b => ((if c = 93 then (.ok false j b : Res Bool) else .ok true (j - 1) b)).then fun m j b => (pl s p (s.size + 1 - j) [] m j b).then fun l j b => (.ok (.mk 4 0 ByteArray.empty l []) j b : Res V) := by
  unfold plist first
  rw [then_then]
theorem own_plist (hp : OwnP s p) (hi : i ≤ s.size) : Own s (i + 1) i (plist s p i b) := by
  rw [plist_eq]
  exact own_vis hi fun q h1 h2 => own_listG hp h2 93
theorem tr_plist (C : Ctx s s' K) (hp : OwnP s p) (tp : TrP s' K p p') (hi : i ≤ K) : Tr s' K true (plist s p i b) (plist s' p' i b) := by
  rw [plist_eq, plist_eq]
  have hsz := C.le'
  refine Tr.vis C hi (fun q h1 h2 => own_listG hp h2 93) (fun q h1 h2 => ?_)
  have hq := Nat.lt_of_lt_of_le h2 C.le
  split
  · rw [Res.then_ok, Res.then_ok]
    exact (tr_pl C hp tp _ _ _ _ _ _ h2 (by omega)).then (s := s) (fun l j b hr => Own.ok (Nat.le_refl _) ((own_pl0 hp _ _ _ _ _ hq).1 _ _ _ hr).2) (fun l j b _ _ => Tr.ok) (fun h => by cases h)
  · rw [Res.then_ok, Res.then_ok, show q + 1 - 1 = q by omega]
    exact (tr_pl C hp tp _ _ _ _ _ _ (by omega) (by omega)).then (s := s) (fun l j b hr => Own.ok (Nat.le_refl _) ((own_pl0 hp _ _ _ _ _ (by omega)).1 _ _ _ hr).2) (fun l j b _ _ => Tr.ok) (fun h => by cases h)
theorem own_nkeyG {q : Nat} (hq : q < s.size) (ks : List ByteArray) (c : Nat) : Own s (q + 1) q ((want 34 c (q + 1) b).then fun _ j b => (lit s j b).then fun k j2 b => if plc ks k < ks.length ∧ (ks.getD (plc ks k) ByteArray.empty).toList = k.toList then (.no (j - 1) 9 : Res ByteArray) else .ok k j2 b) := by
  unfold want
  split
  · rw [Res.then_ok]
    exact (own_lit.then (i2 := q + 1) fun k j b h1 h2 => by
      split
      · exact Own.no (by decide)
      · exact Own.ok (by omega) h2).mono (by omega) (by omega)
  · exact Own.bad (Nat.le_refl _) hq
theorem own_nkey (hi : i ≤ s.size) (ks : List ByteArray) : Own s (i + 1) i (nkey s ks i b) := own_vis hi fun q h1 h2 => own_nkeyG h2 ks _
theorem tr_nkey (C : Ctx s s' K) (hi : i ≤ K) (ks : List ByteArray) : Tr s' K true (nkey s ks i b) (nkey s' ks i b) := Tr.vis C hi (fun q h1 h2 => own_nkeyG h2 ks _)
  (fun q h1 h2 => by
    show Tr s' K true ((want 34 _ (q + 1) b).then _) ((want 34 _ (q + 1) b).then _)
    unfold want
    split
    · rw [Res.then_ok, Res.then_ok]
      exact (tr_lit C).then (s := s) (fun k j b hr => by
        split
        · exact Own.no (by decide)
        · exact Own.ok (Nat.le_refl _) (own_lit.1 _ _ _ hr).2) (fun k j b _ _ => by
        split
        · exact Tr.none (by decide)
        · exact Tr.ok) (fun h => by cases h)
    · exact Tr.bad h2)
/-- Colon, value and what follows. -/
def colon (s : ByteArray) (p : Nat → Nat → Res V) (F : V → Bool → Nat → Nat → Res (List ByteArray × List V)) (j b : Nat) : Res (List ByteArray × List V) := (vis s j b).then fun c j b => (want 58 c j b).then fun _ j b => (p j b).then fun t j b => (next s 125 j b).then fun m j b => F t m j b
theorem own_colonG (hp : OwnP s p) {F : V → Bool → Nat → Nat → Res (List ByteArray × List V)} (hF : ∀ t m j b, j ≤ s.size → Own s j j (F t m j b)) {q : Nat} (hq : q < s.size) (c : Nat) : Own s (q + 1) q ((want 58 c (q + 1) b).then fun _ j b => (p j b).then fun t j b => (next s 125 j b).then fun m j b => F t m j b) := by
  unfold want
  split
  · rw [Res.then_ok]
    exact ((hp (q + 1) b hq).then (i2 := q + 1) fun t j b h1 h2 => ((own_next h2 _).then (i2 := j) fun m j2 b h3 h4 => (hF t m j2 b h4).mono (by omega) (by omega)).mono (by omega) (by omega)).mono (by omega) (by omega)
  · exact Own.bad (Nat.le_refl _) hq
theorem own_colon (hp : OwnP s p) {F : V → Bool → Nat → Nat → Res (List ByteArray × List V)} (hF : ∀ t m j b, j ≤ s.size → Own s j j (F t m j b)) (hi : i ≤ s.size) : Own s (i + 1) i (colon s p F i b) := own_vis hi fun q h1 h2 => own_colonG hp hF h2 _
theorem tr_colon (C : Ctx s s' K) (hp : OwnP s p) (tp : TrP s' K p p') {F F' : V → Bool → Nat → Nat → Res (List ByteArray × List V)} (hF : ∀ t m j b, j ≤ s.size → Own s j j (F t m j b)) (tF : ∀ t m j b, i < j → j ≤ K → Tr s' K true (F t m j b) (F' t m j b)) (hi : i ≤ K) : Tr s' K true (colon s p F i b) (colon s' p' F' i b) := by
  have hsz := C.le
  refine Tr.vis C hi (fun q h1 h2 => own_colonG hp hF h2 _) (fun q h1 h2 => ?_)
  show Tr s' K true ((want 58 _ (q + 1) b).then _) ((want 58 _ (q + 1) b).then _)
  unfold want
  split
  · rw [Res.then_ok, Res.then_ok]
    refine (tp (q + 1) b h2).then (s := s) (fun t j b hr => ?_) (fun t j b hr hj => ?_) (fun _ hs t b => .inl (vis_cut2 hs _ _))
    · have h3 := ((hp (q + 1) _ (by omega)).1 _ _ _ hr).2
      exact (own_next h3 _).then (i2 := j) fun m j2 b h4 h5 => (hF t m j2 b h5).mono (by omega) (by omega)
    · have h3 := (hp (q + 1) _ (by omega)).1 _ _ _ hr
      refine (tr_next C hj _).then (s := s) (fun m j2 b hr2 => hF t m j2 b ((own_next h3.2 _).1 _ _ _ hr2).2) (fun m j2 b hr2 hj2 => ?_) (fun h => by cases h)
      have h4 := ((own_next h3.2 _).1 _ _ _ hr2).1
      exact tF t m j2 b (by omega) hj2
  · exact Tr.bad h2
theorem pm_eq (k : Nat) (ks : List ByteArray) (its : List V) : pm s p (k + 1) ks its true i b = (nkey s ks i b).then fun key j b => colon s p (fun t m j b => pm s p k (insAt (plc ks key) key ks) (insAt (plc ks key) t its) m j b) j b := rfl
theorem own_pm0 (hp : OwnP s p) : ∀ (k : Nat) (ks : List ByteArray) (its : List V) (m : Bool) (i b : Nat), i ≤ s.size → Own s i i (pm s p k ks its m i b)
  | 0, _, _, false, i, b, hi => Own.ok (Nat.le_refl _) hi
  | k + 1, _, _, false, i, b, hi => Own.ok (Nat.le_refl _) hi
  | 0, _, _, true, i, b, hi => Own.no (by decide)
  | k + 1, ks, its, true, i, b, hi => by
    rw [pm_eq]
    exact (own_nkey hi ks).then fun key j b h1 h2 => (own_colon hp (fun t m j b h => own_pm0 hp k _ _ m j b h) h2).mono (by omega) (by omega)
theorem own_pm1 (hp : OwnP s p) (k : Nat) (ks : List ByteArray) (its : List V) (hi : i ≤ s.size) : Own s (i + 1) i (pm s p k ks its true i b) := by
  cases k with
  | zero => exact Own.no (by decide)
  | succ k =>
    rw [pm_eq]
    exact (own_nkey hi ks).then fun key j b h1 h2 => (own_colon hp (fun t m j b h => own_pm0 hp k _ _ m j b h) h2).mono (by omega) (by omega)
theorem tr_pm (C : Ctx s s' K) (hp : OwnP s p) (tp : TrP s' K p p') : ∀ (k k' : Nat) (ks : List ByteArray) (its : List V) (m : Bool) (i b : Nat), i ≤ K → K + 1 ≤ k' + i → Tr s' K true (pm s p k ks its m i b) (pm s' p' k' ks its m i b)
  | 0, 0, _, _, false, i, b, hi, hk => Tr.ok
  | 0, k' + 1, _, _, false, i, b, hi, hk => Tr.ok
  | k + 1, 0, _, _, false, i, b, hi, hk => Tr.ok
  | k + 1, k' + 1, _, _, false, i, b, hi, hk => Tr.ok
  | 0, k', _, _, true, i, b, hi, hk => Tr.none (by decide)
  | k + 1, 0, _, _, true, i, b, hi, hk => by omega
  | k + 1, k' + 1, ks, its, true, i, b, hi, hk => by
    have hsz := C.le
    rw [pm_eq, pm_eq]
    refine (tr_nkey C hi ks).then (s := s) (fun key j b hr => ?_) (fun key j b hr hj => ?_) (fun h => by cases h)
    · exact (own_colon hp (fun t m j b h => own_pm0 hp k _ _ m j b h) ((own_nkey (by omega) ks).1 _ _ _ hr).2).mono (by omega) (by omega)
    · have h1 := (own_nkey (by omega) ks).1 _ _ _ hr
      exact tr_colon C hp tp (fun t m j b h => own_pm0 hp k _ _ m j b h) (fun t m j2 b h2 h3 => tr_pm C hp tp k k' _ _ m j2 b h3 (by omega)) hj
theorem own_mapG (hp : OwnP s p) {q : Nat} (hq : q < s.size) (cl : Nat) : Own s (q + 1) q (((if ch s q = cl then (.ok false (q + 1) b : Res Bool) else .ok true (q + 1 - 1) b)).then fun m j b => (pm s p (s.size + 1 - j) [] [] m j b).then fun r j b => (.ok (.mk 5 0 ByteArray.empty r.2 r.1) j b : Res V)) := by
  split
  · rw [Res.then_ok]
    exact ((own_pm0 hp _ _ _ _ _ _ hq).then (i2 := q + 1) fun l j b h1 h2 => Own.ok h1 h2).mono (by omega) (by omega)
  · rw [Res.then_ok, show q + 1 - 1 = q by omega]
    exact (own_pm1 hp _ _ _ (by omega)).then fun l j b h1 h2 => Own.ok h1 h2
theorem ppairs_eq : ppairs s p i b = (vis s i b).then fun c j b => ((if c = 125 then (.ok false j b : Res Bool) else .ok true (j - 1) b)).then fun m j b => (pm s p (s.size + 1 - j) [] [] m j b).then fun r j b => (.ok (.mk 5 0 ByteArray.empty r.2 r.1) j b : Res V) := by
  unfold ppairs first
  rw [then_then]
theorem own_ppairs (hp : OwnP s p) (hi : i ≤ s.size) : Own s (i + 1) i (ppairs s p i b) := by
  rw [ppairs_eq]
  exact own_vis hi fun q h1 h2 => own_mapG hp h2 125
theorem tr_ppairs (C : Ctx s s' K) (hp : OwnP s p) (tp : TrP s' K p p') (hi : i ≤ K) : Tr s' K true (ppairs s p i b) (ppairs s' p' i b) := by
  rw [ppairs_eq, ppairs_eq]
  have hsz := C.le'
  refine Tr.vis C hi (fun q h1 h2 => own_mapG hp h2 125) (fun q h1 h2 => ?_)
  have hq := Nat.lt_of_lt_of_le h2 C.le
  split
  · rw [Res.then_ok, Res.then_ok]
    exact (tr_pm C hp tp _ _ _ _ _ _ _ h2 (by omega)).then (s := s) (fun l j b hr => Own.ok (Nat.le_refl _) ((own_pm0 hp _ _ _ _ _ _ hq).1 _ _ _ hr).2) (fun l j b _ _ => Tr.ok) (fun h => by cases h)
  · rw [Res.then_ok, Res.then_ok, show q + 1 - 1 = q by omega]
    exact (tr_pm C hp tp _ _ _ _ _ _ _ (by omega) (by omega)).then (s := s) (fun l j b hr => Own.ok (Nat.le_refl _) ((own_pm0 hp _ _ _ _ _ _ (by omega)).1 _ _ _ hr).2) (fun l j b _ _ => Tr.ok) (fun h => by cases h)
theorem own_wordV (t : V) (l : List UInt8) (hi : i ≤ s.size) : Own s i i ((word s l i b).then fun _ j b => (.ok t j b : Res V)) := (own_word s l i b hi).then fun _ j b h1 h2 => Own.ok h1 h2
theorem tr_wordV (C : Ctx s s' K) (t : V) (l : List UInt8) (hi : i ≤ K) : Tr s' K false ((word s l i b).then fun _ j b => (.ok t j b : Res V)) ((word s' l i b).then fun _ j b => (.ok t j b : Res V)) :=
  (tr_word C l i b hi).then (s := s) (fun _ j b hr => Own.ok (Nat.le_refl _) ((own_word s l i _ (Nat.le_trans hi C.le)).1 _ _ _ hr).2) (fun _ j b _ _ => Tr.ok) (fun h => by cases h)
theorem own_pbody (hp : OwnP s p) (hi : i ≤ s.size) (c : Nat) : Own s i i (pbody s p c i b) := by
  unfold pbody
  split
  · exact own_wordV _ _ hi
  split
  · exact own_wordV _ _ hi
  split
  · exact own_wordV _ _ hi
  split
  · exact (own_lit.mono (i := i) (e := i) (by omega) (Nat.le_refl _)).then fun x j b h1 h2 => Own.ok h1 h2
  split
  · exact (own_plist hp hi).mono (by omega) (Nat.le_refl _)
  split
  · exact (own_ppairs hp hi).mono (by omega) (Nat.le_refl _)
  · exact (own_int hi c).then fun n j b h1 h2 => Own.ok h1 h2
theorem tr_pbody (C : Ctx s s' K) (hp : OwnP s p) (tp : TrP s' K p p') {q : Nat} (hq : q < K) : Tr s' K false (pbody s p (ch s q) (q + 1) b) (pbody s' p' (ch s q) (q + 1) b) := by
  have hz := Nat.lt_of_lt_of_le hq C.le
  unfold pbody
  split
  · exact tr_wordV C _ _ hq
  split
  · exact tr_wordV C _ _ hq
  split
  · exact tr_wordV C _ _ hq
  split
  · exact (tr_lit C).then (s := s) (fun x j b hr => Own.ok (Nat.le_refl _) (own_lit.1 _ _ _ hr).2) (fun _ j b _ _ => Tr.ok) (fun h => by cases h)
  split
  · exact (tr_plist C hp tp hq).weak
  split
  · exact (tr_ppairs C hp tp hq).weak
  · exact (tr_int C hq).then (s := s) (fun x j b hr => Own.ok (Nat.le_refl _) ((own_int hz _).1 _ _ _ hr).2) (fun _ j b _ _ => Tr.ok) (fun _ _ n b => .inr ⟨rfl, _, _, rfl⟩)
end
theorem bgn_then (s : ByteArray) (d i b : Nat) (G : Nat → Nat → Nat → Res V) : (bgn s d i b).then G = (vis s i b).then fun c j b => (if starts c = false then (.no (j - 1) 3 : Res Nat) else if 16 < d then .no (j - 1) 7 else if b = 1000 then .no (j - 1) 6 else .ok c j (b + 1)).then G := by
  unfold bgn; rw [then_then]
theorem own_bgnG {s : ByteArray} {d q b : Nat} (hq : q < s.size) {G : Nat → Nat → Nat → Res V} (hG : ∀ b, Own s (q + 1) (q + 1) (G (ch s q) (q + 1) b)) : Own s (q + 1) q ((if starts (ch s q) = false then (.no (q + 1 - 1) 3 : Res Nat) else if 16 < d then .no (q + 1 - 1) 7 else if b = 1000 then .no (q + 1 - 1) 6 else .ok (ch s q) (q + 1) (b + 1)).then G) := by
  split
  · exact Own.bad (Nat.le_refl _) hq
  split
  · exact Own.no (by decide)
  split
  · exact Own.no (by decide)
  · exact (hG _).mono (Nat.le_refl _) (by omega)
theorem own_pv (s : ByteArray) : ∀ f, OwnP s (pv f s)
  | 0, i, b, hi => by
    rw [pv, bgn_then]
    exact own_vis hi fun q h1 h2 => own_bgnG h2 fun b => Own.no (by decide)
  | f + 1, i, b, hi => by
    rw [pv, bgn_then]
    exact own_vis hi fun q h1 h2 => own_bgnG h2 fun b => own_pbody (own_pv s f) h2 _
theorem tr_pv {s s' : ByteArray} {K : Nat} (C : Ctx s s' K) : ∀ f, TrP s' K (pv f s) (pv f s')
  | 0, i, b, hi => by
    rw [pv, pv, bgn_then, bgn_then]
    refine Tr.vis C hi (fun q h1 h2 => own_bgnG h2 fun b => Own.no (by decide)) (fun q h1 h2 => ?_)
    split
    · exact Tr.bad h2
    split
    · exact Tr.none (by decide)
    split
    · exact Tr.none (by decide)
    · exact Tr.none (by decide)
  | f + 1, i, b, hi => by
    rw [pv, pv, bgn_then, bgn_then]
    refine Tr.vis C hi (fun q h1 h2 => own_bgnG h2 fun b => own_pbody (own_pv s f) h2 _) (fun q h1 h2 => ?_)
    split
    · exact Tr.bad h2
    split
    · exact Tr.none (by decide)
    split
    · exact Tr.none (by decide)
    · exact tr_pbody C (own_pv s f) (tr_pv C f) h2

/-! ### Parse -/
theorem parse_form {s : ByteArray} {t : V} {k : Nat} (h : parse s = (t, k, 3)) : k < s.size ∧ t = V.null ∧ (∀ s', Ctx s s' (k + 1) → parse s' = (V.null, k, 3)) ∧
    (∀ s', Ctx s s' k → s'.size = k → (∃ t', parse s' = (t', 0, 0)) ∨ parse s' = (V.null, k, 4)) := by
  unfold parse at h
  obtain ⟨q, hq⟩ : ∃ q, q = pv 16 s 0 0 := ⟨_, rfl⟩
  rw [← hq] at h
  have ho := own_pv s 16 0 0 (Nat.zero_le _)
  rw [← hq] at ho
  unfold fin at h
  cases q with
  | no k2 e =>
    simp only [Prod.mk.injEq] at h
    obtain ⟨rfl, rfl, rfl⟩ := h
    have h1 := ho.2 _ rfl
    refine ⟨h1.2, rfl, fun s' C => ?_, fun s' C hs => ?_⟩
    · have ht := tr_pv C 16 0 0 (Nat.zero_le _)
      rw [← hq] at ht
      unfold parse
      rw [ht.2.1 _ rfl (by omega)]; rfl
    · have ht := tr_pv C 16 0 0 (Nat.zero_le _)
      rw [← hq] at ht
      unfold parse
      rcases ht.2.2 hs rfl with h3 | ⟨_, a, b, h3⟩
      · rw [h3]; exact .inr rfl
      · rw [h3]
        unfold fin
        dsimp only
        rw [skip_end (by omega), if_neg (by omega)]
        exact .inl ⟨_, rfl⟩
  | ok t2 j b =>
    dsimp only at h
    have h1 := ho.1 _ _ _ rfl
    split at h
    · rename_i h2
      simp only [Prod.mk.injEq] at h
      obtain ⟨rfl, rfl, _⟩ := h
      have hsk := skip_le h1.2
      refine ⟨h2, rfl, fun s' C => ?_, fun s' C hs => ?_⟩
      · have ht := tr_pv C 16 0 0 (Nat.zero_le _)
        rw [← hq] at ht
        have hj : j < skip s j + 1 := by omega
        unfold parse
        rw [ht.1 _ _ _ rfl (.inl hj)]
        unfold fin
        dsimp only
        have h3 := (skip_tr C _ j rfl (by omega)).1 (by omega)
        have h4 := C.le'
        rw [h3, if_pos (by omega)]
      · have ht := tr_pv C 16 0 0 (Nat.zero_le _)
        rw [← hq] at ht
        unfold parse
        rw [ht.1 _ _ _ rfl (by omega)]
        unfold fin
        dsimp only
        have h3 := (skip_tr C _ j rfl (by omega)).2 (by omega)
        have h4 := skip_le (s := s') (i := j) (by omega)
        rw [if_neg (by omega)]
        exact .inl ⟨_, rfl⟩
    · simp only [Prod.mk.injEq] at h
      obtain ⟨_, _, h3⟩ := h
      cases h3
end M
end Go.Proofs.YtdkggnciamfcmaaGreatDoor

namespace Go.Proofs.YtdkggnciamfcmaaGreatDoor
set_option linter.unusedVariables false
open Go.RowKit
open M (V)
set_option maxRecDepth 100000

namespace M
theorem ctx_of {s S : ByteArray} {K : Nat} {r : List UInt8} (hK : K ≤ s.size) (h : S.data.toList = s.data.toList.take K ++ r) : Ctx s S K := by
  have l1 := m_len s
  have l2 := m_len S
  have l3 : S.size = K + r.length := by rw [← l2, h, List.length_append, List.length_take]; omega
  refine ⟨hK, by omega, fun i hi => ?_⟩
  unfold ch
  rw [h, List.getD, List.getD, List.getElem?_append_left (by rw [List.length_take]; omega), List.getElem?_take, if_pos hi]
theorem ext_list (s : ByteArray) (K : Nat) : (s.extract 0 K).data.toList = s.data.toList.take K := by
  rw [ByteArray.data_extract, Array.toList_extract]
  simp
theorem cut_one {s : ByteArray} {K : Nat} (t : ByteArray) (hK : K ≤ s.size) : Ctx s (s.extract 0 K ++ t) K := ctx_of (r := t.data.toList) hK (by rw [ByteArray.data_append, Array.toList_append, ext_list])
theorem cut_two {s : ByteArray} {K : Nat} (hK : K ≤ s.size) : Ctx s (s.extract 0 K) K ∧ (s.extract 0 K).size = K := by
  refine ⟨ctx_of (r := []) hK (by rw [ext_list, List.append_nil]), ?_⟩
  rw [← m_len, ext_list, List.length_take, m_len]; omega
end M

set_option maxHeartbeats 4000000 in
theorem firstW (s t : ByteArray) (w : World) (hs : s.size ≤ maxLen) (ht : t.size ≤ maxLen) (G : TGate w) :
    Calls Tryz.prog 8 #[.string s, .string t] w fun e w' => e = .returned (.bool true) ∧ Below w.heap.size w w' := by
  have hm := hs
  have hm2 := ht
  unfold maxLen at hm hm2
  have HG := Lib.hid G
  clear G
  by_cases h : (2000 : Int) < (s.size : Int)
  · go_enter Tryz.func8, Tryz.ntmps8
    go_wp2_with fail
    refine (lives_any _ HG.out).mono ?_
    rintro e w1 ⟨rfl, hb⟩
    go_wp2_with fail
    go_ret
    exact ⟨rfl, hb⟩
  by_cases h2 : (2000 : Int) < (t.size : Int)
  · go_enter Tryz.func8, Tryz.ntmps8
    go_wp2_with fail
    refine (lives_any _ HG.out).mono ?_
    rintro e w1 ⟨rfl, hb⟩
    go_wp2_with fail
    go_ret
    exact ⟨rfl, hb⟩
  have HC1 := Lib.hid (parse_c (w := w) (s := s) (by omega) HG.out)
  obtain ⟨⟨t1, k, e⟩, hp⟩ : ∃ r, M.parse s = r := ⟨_, rfl⟩
  rw [hp] at HC1
  by_cases he : e = 3
  · subst he
    obtain ⟨hk, hnull, hA, hB⟩ := M.parse_form hp
    subst hnull
    have c1 := M.cut_one t (show k + 1 ≤ s.size by omega)
    have hA1 := hA _ c1
    obtain ⟨c2, c3⟩ := M.cut_two (show k ≤ s.size by omega)
    have hB1 := hB _ c2 c3
    obtain ⟨S1, hS1⟩ : ∃ S1, s.extract 0 (k + 1) ++ t = S1 := ⟨_, rfl⟩
    obtain ⟨S2, hS2⟩ : ∃ S2, s.extract 0 k = S2 := ⟨_, rfl⟩
    have hz1 : S1.size ≤ 1000000000 := by
      rw [← hS1, ByteArray.size_append, (M.cut_two (show k + 1 ≤ s.size by omega)).2]; omega
    rw [hS1] at hA1
    rw [hS2] at hB1 c3
    have hz2 : S2.size ≤ 1000000000 := by omega
    have HS1 := Lib.hid hS1; have HS2 := Lib.hid hS2
    have HA := Lib.hid hA1
    have HZ1 := Lib.hid hz1; have HZ2 := Lib.hid hz2
    have hk0 : ¬ (k : Int) < 0 := by omega
    have hk1 : ¬ (s.size : Int) ≤ (k : Int) := by omega
    have hk2 : (k : Int) + 1 ≤ (s.size : Int) := by omega
    have hk3 : (k : Int) ≤ 2000 := by omega
    clear hp hA hB c1 c2 c3 hA1 hS1 hS2 hz1 hz2
    rcases hB1 with ⟨t', hB2⟩ | hB2
    all_goals
      have HB0 := Lib.hid hB2
      clear hB2
      go_enter Tryz.func8, Tryz.ntmps8
      go_wp2_with fail
      refine (HC1.out).mono ?_
      rintro e w1 ⟨v1, rfl, hv1, hb1⟩
      obtain ⟨A1, n1, d1, B1, p1, e1, rfl⟩ := hv1.agg
      have G1 := Lib.hid (HG.out.below hb1)
      have HB1 := Lib.hid hb1
      clear hv1 hb1
      go_wp2_with fail
      rw [HS1.out]
      refine (parse_c HZ1.out (G1.out.below (box_new w1 _))).mono ?_
      rintro e w2 ⟨v2, rfl, hv2, hb2⟩
      rw [HA.out] at hv2 ⊢
      obtain ⟨A2, n2, d2, B2, p2, e2, rfl⟩ := hv2.agg
      have hb2' := (box_new w1 _).trans (hb2.mono (box_new w1 _).size)
      have G2 := Lib.hid (G1.out.below hb2')
      have HB2 := Lib.hid (HB1.out.trans (hb2'.mono HB1.out.size))
      clear hv2 hb2 hb2' G1 HB1
      go_wp2_with fail
      rw [HS2.out]
      refine (parse_c HZ2.out (G2.out.below (box_new w2 _))).mono ?_
      rintro e w3 ⟨v3, rfl, hv3, hb3⟩
      rw [HB0.out] at hv3 ⊢
      obtain ⟨A3, n3, d3, B3, p3, e3, rfl⟩ := hv3.agg
      have hb3' := (box_new w2 _).trans (hb3.mono (box_new w2 _).size)
      have G3 := Lib.hid (G2.out.below hb3')
      have HB3 := Lib.hid (HB2.out.trans (hb3'.mono HB2.out.size))
      clear hv3 hb3 hb3' G2 HB2
      go_wp2_with fail
      refine (lives_any _ (G3.out.below (box_new w3 _))).mono ?_
      rintro e w4 ⟨rfl, hb4⟩
      have HB4 := Lib.hid (HB3.out.trans (((box_new w3 _).trans (hb4.mono (box_new w3 _).size)).mono HB3.out.size))
      clear hb4
      go_wp2_with fail
      go_ret
      exact ⟨rfl, HB4.out⟩
  · have hne : (e != 3) = true := by simpa using he
    go_enter Tryz.func8, Tryz.ntmps8
    go_wp2_with fail
    refine (HC1.out).mono ?_
    rintro e' w1 ⟨v1, rfl, hv1, hb1⟩
    obtain ⟨A1, n1, d1, B1, p1, e1, rfl⟩ := hv1.agg
    have G1 := Lib.hid (HG.out.below hb1)
    have HB1 := Lib.hid hb1
    clear hv1 hb1 he
    go_wp2_with fail
    refine (lives_any _ (G1.out.below (box_new w1 _))).mono ?_
    rintro e2 w4 ⟨rfl, hb4⟩
    have HB4 := Lib.hid (HB1.out.trans (((box_new w1 _).trans (hb4.mono (box_new w1 _).size)).mono HB1.out.size))
    clear hb4
    go_wp2_with fail
    go_ret
    exact ⟨rfl, HB4.out⟩
end Go.Proofs.YtdkggnciamfcmaaGreatDoor
