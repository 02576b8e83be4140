/-
  Several texts in one: TIns TCpy TInsB TInsC TInsD TInsE TRowB TFwd TKey TCodS TCodX TCodR TCodY TLit TLawA TTie QMath TBack TFew TLawC.
-/
import Derived.Test.YtdkggnciamfcmaaGreatDoorTRow
import Derived.Laws.CopyRow
import Derived.Laws.CopyOwn
import Derived.Lib.Overlaps
import Derived.Laws.Externs
import Derived.Lib.AppendZerosOnto
import Derived.Lib.AppendZeros
import Derived.Test.YtdkggnciamfcmaaGreatDoorTCodG
import Derived.Test.YtdkggnciamfcmaaGreatDoorTCodH
import Derived.Test.YtdkggnciamfcmaaGreatDoorTCodW
import Derived.Test.YtdkggnciamfcmaaGreatDoorTCodQ
import Derived.Test.YtdkggnciamfcmaaGreatDoorTPrn
import Derived.Test.YtdkggnciamfcmaaGreatDoorTCodC
import Derived.Test.YtdkggnciamfcmaaGreatDoorRows
import Derived.Stop.LaidErr
import Derived.Lib.LaidTab
import Derived.LaidMore
import Derived.MakeChecks
import Derived.Lib.AtoiAll
import Derived.RowKit
import Derived.Lib.ItoaNum
import Derived.Lib.Strings
import Derived.Lib.IndexMore
import Derived.Lib.ParseIntBTie
import Derived.Test.YtdkggnciamfcmaaGreatDoorVRefD
import Derived.Test.YtdkggnciamfcmaaGreatDoorVRefC
namespace Go.Proofs.YtdkggnciamfcmaaGreatDoor
set_option linter.unusedVariables false
open Go.RowKit
open M (V)

/-- What an insertion leaves. -/
def Insd (base : Nat) (e : TypeId) (sz : Nat) (v : Value) (n : Nat) (ys : List Value) (w : World) (r : Ending) (w' : World) : Prop := ∃ g1 cap, r = .returned (.slice (some ⟨g1, 0, none⟩) (n + 1) cap) ∧ w'.ownsRow base e sz (.slice (some ⟨g1, 0, none⟩) (n + 1) cap) (n + 1) ys ∧ w.grownBy w' v.ownBlock ∧ (v.ownBlock = some g1 ∨ w.heap.size ≤ g1) ∧ g1 < w'.heap.size

set_option maxRecDepth 100000 in
set_option maxHeartbeats 2000000 in
theorem insv_end {base n g : Nat} {v : Value} {xs : List Value} {w : World} {k i : Int} {t : ByteArray} {A B : Option Addr} {m c p e : Nat} {T : TypeId} (hown : w.ownsRow base 25 5 v n xs)
    (hg : w.heap[g]? = some (.cells #[.int .i64 k, .int .i64 i, .string t, .slice A m c, .slice B p e] T (0, 0))) (hn : n ≤ 1000000) (hbase : base ≤ w.heap.size) :
    Calls Tryz.prog 82 #[v, .int .i64 (n : Int), .slice (some ⟨g, 0, none⟩) 1 1] w (Insd base 25 5 v n (xs ++ [.int .i64 k, .int .i64 i, .string t, .slice A m c, .slice B p e]) w) := by
  have HO := Lib.hid hown
  rcases hown.2 with ⟨rfl, rfl⟩ | ⟨g0, cap, cur, rfl, h1, h2, h3, h4, h5, h6⟩
  · clear hown
    go_enter Tryz.func82, Tryz.ntmps82
    go_wp2_with (at_builtin; refine wpList_push_val rfl (.tmp 23) (.tmp 24) rfl base 0 g _ xs k i t A B m c p e _ _ rfl HO.out rfl hg hn hbase ?_)
    intro g1 cp w1 ho hgr hr hlt
    go_wp2_with fail
    go_ret
    exact ⟨g1, cp, rfl, ho, hgr, hr, hlt⟩
  · have h4' : cap ≤ 9223372036854775807 := by unfold maxLen at h4; omega
    have hc : (n : Int) ≤ (cap : Int) := by omega
    clear hown h1 h2 h5 h6 h4
    go_enter Tryz.func82, Tryz.ntmps82
    go_wp2_with (at_builtin; refine wpList_push_val rfl (.tmp 23) (.tmp 24) rfl base n g _ xs k i t A B m c p e _ _ rfl HO.out rfl hg hn hbase ?_)
    all_goals (
      intro g1 cp w1 ho hgr hr hlt
      go_wp2_with fail
      go_ret
      exact ⟨g1, cp, rfl, ho, hgr, hr, hlt⟩)
set_option maxRecDepth 100000 in
set_option maxHeartbeats 2000000 in
theorem insk_end {base n g : Nat} {v : Value} {xs : List Value} {w : World} {k : ByteArray} {T : TypeId} (hown : w.ownsRow base 9 1 v n xs)
    (hg : w.heap[g]? = some (.cells #[.string k] T (0, 0))) (hn : n ≤ 1000000) (hbase : base ≤ w.heap.size) :
    Calls Tryz.prog 81 #[v, .int .i64 (n : Int), .slice (some ⟨g, 0, none⟩) 1 1] w (Insd base 9 1 v n (xs ++ [.string k]) w) := by
  have HO := Lib.hid hown
  rcases hown.2 with ⟨rfl, rfl⟩ | ⟨g0, cap, cur, rfl, h1, h2, h3, h4, h5, h6⟩
  · clear hown
    go_enter Tryz.func81, Tryz.ntmps81
    go_wp2_with (at_builtin; refine wpList_push_key rfl (.tmp 23) (.tmp 24) rfl base 0 g _ xs k _ _ rfl HO.out rfl hg hn hbase ?_)
    intro g1 cp w1 ho hgr hr hlt
    go_wp2_with fail
    go_ret
    exact ⟨g1, cp, rfl, ho, hgr, hr, hlt⟩
  · have h4' : cap ≤ 9223372036854775807 := by unfold maxLen at h4; omega
    have hc : (n : Int) ≤ (cap : Int) := by omega
    clear hown h1 h2 h5 h6 h4
    go_enter Tryz.func81, Tryz.ntmps81
    go_wp2_with (at_builtin; refine wpList_push_key rfl (.tmp 23) (.tmp 24) rfl base n g _ xs k _ _ rfl HO.out rfl hg hn hbase ?_)
    all_goals (
      intro g1 cp w1 ho hgr hr hlt
      go_wp2_with fail
      go_ret
      exact ⟨g1, cp, rfl, ho, hgr, hr, hlt⟩)
end Go.Proofs.YtdkggnciamfcmaaGreatDoor

namespace Go.Proofs.YtdkggnciamfcmaaGreatDoor
set_option linter.unusedVariables false
open Go.RowKit

theorem run_copy_rowN {P : Program} (w : World) (dT sT ty elem : TypeId) (g o dLen dCap : Nat) (a : Addr) (sLen sCap : Nat) (cur : Array Value) (t : TypeId) (cs : List Value) (sz m : Nat)
    (hu : P.underlying dT = some (.slice elem)) (hs : (P.info? elem).map (·.size) = some sz) (hm : m = Nat.min sLen dLen)
    (hg : w.heap[g]? = some (.cells cur t (0, 0))) (hn : cs.length = m * sz)
    (hsrc : ∀ j v, cs[j]? = some v → w.cell? (a.add j) = some v) (hfit : o + cs.length ≤ cur.size) (h1 : ∀ v ∈ cs, v.oneCell' = true) :
    (Builtin.copy_ #[dT, sT] ty #[.slice (some ⟨g, o, none⟩) dLen dCap, .slice (some a) sLen sCap]).run P w =
      .ok (goInt m) (w.setRow g (cur.toList.take o ++ cs ++ cur.toList.drop (o + cs.length)).toArray) := by
  have hl := run_loadCells_list (P := P) w a cs hsrc
  have hst := run_storeCells_at P g o t cs 0 cur w hg (by simpa using hfit) h1
  cases hq : P.info? elem with
  | none => simp [hq] at hs
  | some i =>
    have hi : i.size = sz := by simpa [hq] using hs
    simp [Builtin.copy_, run_underlying hu, Builtin.lenOf, Builtin.firstCells, sizeOf, typeInfo, hq, hi, ← hm, ← hn, hl, hst]
theorem wpList_copy_rowN {P : Program} {w : World} {ops : Array Oper} {rest : List Oper} {o : Oper} {a : Act} {Q : Exit → Act → World → Prop} (hgd : o.guard = none) (d s : Operand) (dT sT : TypeId)
    (ho : o.op = .call { callee := .builtin .copy, args := #[d, s], argTypes := #[dT, sT] }) (elem : TypeId) (sz m : Nat) (hu : P.underlying dT = some (.slice elem)) (hsz : (P.info? elem).map (·.size) = some sz)
    (g off dLen dCap : Nat) (ad : Addr) (sLen sCap : Nat) (hd : a.eval d = .slice (some ⟨g, off, none⟩) dLen dCap) (hs : a.eval s = .slice (some ad) sLen sCap) (hm : m = Nat.min sLen dLen)
    (cur : Array Value) (t : TypeId) (hg : w.heap[g]? = some (.cells cur t (0, 0))) (cs : List Value) (hn : cs.length = m * sz)
    (hsrc : ∀ j v, cs[j]? = some v → w.cell? (ad.add j) = some v) (hfit : off + cs.length ≤ cur.size) (h1 : ∀ v ∈ cs, v.oneCell' = true)
    (h : wpList P ops Q rest (a.put o.dst (goInt m)) (w.setRow g (cur.toList.take off ++ cs ++ cur.toList.drop (off + cs.length)).toArray)) : wpList P ops Q (o :: rest) a w := by
  refine wpList_plain hgd fun K hK => ?_
  have hrun := run_copy_rowN (P := P) w dT sT o.type elem g off dLen dCap ad sLen sCap cur t cs sz m hu hsz hm hg hn hsrc hfit h1
  unfold Oper.wp
  simp only [execOp, ho, resolve, invoke, builtin, hd, hs, Sem.run_bind, Sem.run_pure, Result.andThen_ok, List.map_toArray, List.map_cons, List.map_nil, hrun]
  exact hK _ _ h
theorem step_copy_rowN {P : Program} {ops : Array Oper} {o : Oper} {a : Act} {w : World} {K : Act → World → Prop} {Q : Exit → Act → World → Prop} {E : Prop} (hgd : o.guard = none) (d s : Operand) (dT sT : TypeId)
    (ho : o.op = .call { callee := .builtin .copy, args := #[d, s], argTypes := #[dT, sT] }) (elem : TypeId) (sz m : Nat) (hu : P.underlying dT = some (.slice elem)) (hsz : (P.info? elem).map (·.size) = some sz)
    (g off dLen dCap : Nat) (ad : Addr) (sLen sCap : Nat) (hd : a.eval d = .slice (some ⟨g, off, none⟩) dLen dCap) (hs : a.eval s = .slice (some ad) sLen sCap) (hm : m = Nat.min sLen dLen)
    (cur : Array Value) (t : TypeId) (hg : w.heap[g]? = some (.cells cur t (0, 0))) (cs : List Value) (hn : cs.length = m * sz)
    (hsrc : ∀ j v, cs[j]? = some v → w.cell? (ad.add j) = some v) (hfit : off + cs.length ≤ cur.size) (h1 : ∀ v ∈ cs, v.oneCell' = true)
    (h : K (a.put o.dst (goInt m)) (w.setRow g (cur.toList.take off ++ cs ++ cur.toList.drop (off + cs.length)).toArray)) :
    if Region.wanted o (yielded ops a.tmps) = true then Oper.wp P o a w K Q else E := by
  have hw : Region.wanted o (yielded ops a.tmps) = true := by simp [Region.wanted, hgd]
  rw [if_pos hw]
  have hrun := run_copy_rowN (P := P) w dT sT o.type elem g off dLen dCap ad sLen sCap cur t cs sz m hu hsz hm hg hn hsrc hfit h1
  unfold Oper.wp
  simp only [execOp, ho, resolve, invoke, builtin, hd, hs, Sem.run_bind, Sem.run_pure, Result.andThen_ok, List.map_toArray, List.map_cons, List.map_nil, hrun]
  exact h
end Go.Proofs.YtdkggnciamfcmaaGreatDoor

namespace Go.Proofs.YtdkggnciamfcmaaGreatDoor
set_option linter.unusedVariables false
open Go.RowKit
open M (V)

theorem ins_row {α : Type} (L new : List α) (a c : Nat) (h : a + new.length + c ≤ L.length) (cs row1 row2 : List α) (h1 : cs = (L.drop a).take c) (h2 : row1 = L.take (a + new.length) ++ cs ++ L.drop (a + new.length + cs.length)) (h3 : row2 = row1.take a ++ new ++ row1.drop (a + new.length)) :
    row2.length = L.length ∧ row2.take (a + new.length + c) = (L.take (a + c)).take a ++ new ++ (L.take (a + c)).drop a := by
  have hcl : cs.length = c := by rw [h1, List.length_take, List.length_drop]; omega
  have e1 : row1.take a = L.take a := by
    rw [h2, List.append_assoc, List.take_append_of_le_length (by rw [List.length_take]; omega), List.take_take, Nat.min_eq_left (by omega)]
  have e2 : row1.drop (a + new.length) = cs ++ L.drop (a + new.length + cs.length) := by
    rw [h2, List.append_assoc, List.drop_append_of_le_length (by rw [List.length_take]; omega), List.drop_take, Nat.sub_self]; simp
  have e3 : (L.take (a + c)).drop a = cs := by rw [List.drop_take, h1]; congr 1; omega
  have e4 : (L.take (a + c)).take a = L.take a := by rw [List.take_take, Nat.min_eq_left (by omega)]
  rw [h3, e1, e2, e3, e4]
  refine ⟨by simp [hcl]; omega, ?_⟩
  have hl : (L.take a ++ new ++ cs).length = a + new.length + c := by simp [hcl]; omega
  rw [← List.append_assoc, List.take_append_of_le_length (by omega), List.take_of_length_le (by omega)]

set_option maxRecDepth 100000 in
set_option maxHeartbeats 2000000 in
theorem insv_shift {base n g g0 cap p : Nat} {cur : Array Value} {w : World} {new : Array Value} {T : TypeId} (hp : p < n) (hroom : n + 1 ≤ cap) (hcap : cap ≤ maxLen) (hn : n ≤ 1000000)
    (h2 : w.heap[g0]? = some (.cells cur 25 (0, 0))) (hsz : cur.size = cap * 5) (hne : g ≠ g0)
    (hg : w.heap[g]? = some (.cells new T (0, 0))) (hnew : new.size = 5) (h1n : ∀ v ∈ new.toList, v.oneCell' = true) (h1c : ∀ v ∈ cur.toList.take (n * 5), v.oneCell' = true) :
    Calls Tryz.prog 82 #[.slice (some ⟨g0, 0, none⟩) n cap, .int .i64 (p : Int), .slice (some ⟨g, 0, none⟩) 1 1] w fun e w' => e = .returned (.slice (some ⟨g0, 0, none⟩) (n + 1) cap) ∧
      ∃ row2, w'.heap[g0]? = some (.cells row2 25 (0, 0)) ∧ row2.size = cap * 5 ∧ row2.toList.take ((n + 1) * 5) = (cur.toList.take (n * 5)).take (p * 5) ++ new.toList ++ (cur.toList.take (n * 5)).drop (p * 5) ∧ w.grownBy w' (some g0) := by
  have h4' : cap ≤ 9223372036854775807 := by unfold maxLen at hcap; omega
  have hov : ∀ bo lb cb, (callFunc 101 #[.slice (some ⟨g, 0, none⟩) 1 1, .slice (some ⟨g0, bo, none⟩) lb cb]).run Tryz.prog w = .ok (.value (.bool false)) w := fun bo lb cb => by
    have hsa : w.shape? g = some (T, new.size) := by simp [World.shape?, hg]
    have hsb : w.shape? g0 = some (25, cur.size) := by simp [World.shape?, h2]
    rw [run_callFunc_extern Tryz.func101 (by kernel_rfl) (by kernel_rfl) (by kernel_rfl) (e := Extern.SlicesOverlaps.overlaps #[22, 22] #[4]) (by kernel_rfl),
      Lib.run_overlaps_apart w 22 4 25 Tryz.underlying22 5 (fun _ => by kernel_rfl) ⟨g, 0, none⟩ ⟨g0, bo, none⟩ 1 1 lb cb hne T 25 new.size cur.size hsa hsb (by omega) (frozen_of_row _ _ _ _ _ hg) (frozen_of_row _ _ _ _ _ hg)]
    rfl
  have e1 : ((p : Int) == (n : Int)) = false := by rw [beq_eq_false_iff_ne]; omega
  have e2 : (p : Int) ≤ (n : Int) := by omega
  go_enter Tryz.func82, Tryz.ntmps82
  go_wp2_with fail
  obtain ⟨cs, hcs⟩ : ∃ cs, cs = (cur.toList.drop (p * 5)).take ((n - p) * 5) := ⟨_, rfl⟩
  have hcl : cs.length = (n - p) * 5 := by rw [hcs, List.length_take, List.length_drop, Array.length_toList]; omega
  obtain ⟨i2, hi0, hz0, hz1, hz2⟩ := info_parts val_info
  have hw1 : IntKind.i64.wrap ((p : Int) + 1) = (p : Int) + 1 := IntWalk.i64_in _ (by omega)
  have hb1 : (0 : Int) ≤ (p : Int) + 1 := by omega
  have htn : ((p : Int) + 1).toNat = p + 1 := by omega
  have hb2 : ¬ (cap = p + 1) := by omega
  have hb3 : (p : Int) ≤ (n : Int) + 1 := by omega
  have hb4 : ¬ (cap = p) := by omega
  have hb5 : (p : Int) + 1 ≤ (n : Int) + 1 := by omega
  have hcm : ∀ v, v ∈ cs → v ∈ cur.toList.take (n * 5) := fun v hv => by
    rw [hcs, show (n - p) * 5 = n * 5 - p * 5 by omega, ← List.drop_take] at hv
    exact List.mem_of_mem_drop hv
  obtain ⟨row1, hrow1⟩ : ∃ row1, row1 = (cur.toList.take ((p + 1) * 5) ++ cs ++ cur.toList.drop ((p + 1) * 5 + cs.length)).toArray := ⟨_, rfl⟩
  have hcs1 : ∀ j v, cs[j]? = some v → w.drew.cell? ((⟨g0, p * 5, none⟩ : Addr).add j) = some v := fun j v hj => by
    rw [hcs] at hj
    have hjl : j < (n - p) * 5 := by
      have := (List.getElem?_eq_some_iff.1 hj).1
      rw [List.length_take] at this; omega
    rw [List.getElem?_take_of_lt hjl, List.getElem?_drop] at hj
    have hj1 := hj
    rw [Addr.add_lit, show w.drew.cell? ⟨g0, p * 5 + j, none⟩ = w.cell? ⟨g0, p * 5 + j, none⟩ from rfl, cell_of_row w g0 _ _ _ _ h2]
    simpa using hj1
  have hcp1 : ∀ ty, (Builtin.copy_ #[22, 22] ty #[.slice (some ⟨g0, (p + 1) * 5, none⟩) (n - p) (cap - (p + 1)), .slice (some ⟨g0, p * 5, none⟩) (n + 1 - p) (cap - p)]).run Tryz.prog w.drew = .ok (goInt (n - p : Nat)) (w.drew.setRow g0 row1) := fun ty => by
    rw [hrow1]
    exact run_copy_rowN w.drew _ _ ty 25 g0 ((p + 1) * 5) (n - p) _ ⟨g0, p * 5, none⟩ (n + 1 - p) _ cur _ cs 5 (n - p) Tryz.underlying22 (by rw [hi0]; simp [hz1]) (by simp only [Nat.min_def]; split <;> omega) h2 hcl hcs1 (by omega) (fun v hv => h1c v (hcm v hv))
  have hr1 : (w.drew.setRow g0 row1).heap[g0]? = some (.cells row1 25 (0, 0)) := setRow_heap w.drew g0 _ _ _ _ h2
  have hg1 : (w.drew.setRow g0 row1).heap[g]? = some (.cells new T (0, 0)) := (setRow_other w.drew g0 g row1 hne).trans hg
  have hsz1 : row1.size = cap * 5 := by rw [hrow1]; simp [hcl]; omega
  obtain ⟨row2, hrow2⟩ : ∃ row2, row2 = (row1.toList.take (p * 5) ++ new.toList ++ row1.toList.drop (p * 5 + new.toList.length)).toArray := ⟨_, rfl⟩
  have hcp2 : ∀ ty dc, (Builtin.copy_ #[22, 22] ty #[.slice (some ⟨g0, p * 5, none⟩) (n + 1 - p) dc, .slice (some ⟨g, 0, none⟩) 1 1]).run Tryz.prog (w.drew.setRow g0 row1) = .ok (goInt (1 : Nat)) ((w.drew.setRow g0 row1).setRow g0 row2) := fun ty dc => by
    rw [hrow2]
    exact run_copy_rowN (w.drew.setRow g0 row1) _ _ ty 25 g0 (p * 5) (n + 1 - p) _ ⟨g, 0, none⟩ 1 _ row1 _ new.toList 5 1 Tryz.underlying22 (by rw [hi0]; simp [hz1]) (by simp only [Nat.min_def]; split <;> omega) hr1 (by rw [Array.length_toList]; omega)
      (fun j v hj => by rw [Addr.add_lit, Nat.zero_add, cell_of_row _ g _ _ _ _ hg1]; simpa using hj) (by rw [Array.length_toList]; omega) h1n
  have hfin := ins_row cur.toList new.toList (p * 5) ((n - p) * 5) (by simp only [Array.length_toList]; omega) cs row1.toList row2.toList hcs (by rw [hrow1]; simp only [Array.length_toList, hnew]; rw [show p * 5 + 5 = (p + 1) * 5 by omega]) (by rw [hrow2])
  simp only [Array.length_toList, hnew] at hfin
  rw [show p * 5 + 5 + (n - p) * 5 = (n + 1) * 5 by omega, show p * 5 + (n - p) * 5 = n * 5 by omega, hsz] at hfin
  have HFIN := Lib.hid hfin
  have hr2 : ((w.drew.setRow g0 row1).setRow g0 row2).heap[g0]? = some (.cells row2 25 (0, 0)) := setRow_heap _ g0 _ _ _ _ hr1
  have HR3 := Lib.hid hr2
  have hgr : w.grownBy ((w.drew.setRow g0 row1).setRow g0 row2) (some g0) := ⟨rfl, rfl, rfl, by simp [World.setRow], fun k _ hk => (setRow_other _ g0 k row2 (by intro e; exact hk (by rw [e]))).trans (setRow_other w.drew g0 k row1 (by intro e; exact hk (by rw [e])))⟩
  have HGR := Lib.hid hgr
  clear hcm hrow1 hrow2 hcs hcs1 hfin hr2 hgr hr1 hg1
  go_region_with (fail)
  all_goals go_wp2_with fail
  all_goals go_ret
  all_goals exact ⟨rfl, row2, HR3.out, HFIN.out.1, HFIN.out.2, HGR.out⟩
end Go.Proofs.YtdkggnciamfcmaaGreatDoor

namespace Go.Proofs.YtdkggnciamfcmaaGreatDoor
set_option linter.unusedVariables false
open Go.RowKit
open M (V)

theorem ins_new {α : Type} (L new R cs row1 row2 : List α) (a c : Nat) (ha : a ≤ L.length) (hcl : cs.length = c) (h : a + new.length + c ≤ R.length) (h0 : R.take a = L.take a) (h2 : row1 = R.take a ++ new ++ R.drop (a + new.length)) (h3 : row2 = row1.take (a + new.length) ++ cs ++ row1.drop (a + new.length + cs.length)) :
    row2.length = R.length ∧ row2.take (a + new.length + c) = L.take a ++ new ++ cs := by
  have e1 : row1.take (a + new.length) = L.take a ++ new := by
    rw [h2, h0, List.take_append_of_le_length (by simp; omega), List.take_of_length_le (by simp; omega)]
  have l1 : row1.length = R.length := by rw [h2]; simp; omega
  rw [h3, e1]
  refine ⟨by simp [l1]; omega, ?_⟩
  rw [List.take_append_of_le_length (by simp; omega), List.take_of_length_le (by simp; omega)]

set_option maxRecDepth 100000 in
set_option maxHeartbeats 2000000 in
theorem insv_grow {n g g0 cap p : Nat} {cur : Array Value} {w : World} {new : Array Value} {T : TypeId} (hp : p < n) (hnc : n ≤ cap) (hroom : cap < n + 1) (hcap : cap ≤ maxLen) (hn : n ≤ 1000000)
    (h2 : w.heap[g0]? = some (.cells cur 25 (0, 0))) (hsz : cur.size = cap * 5) (hne : g ≠ g0)
    (hg : w.heap[g]? = some (.cells new T (0, 0))) (hnew : new.size = 5) (h1n : ∀ v ∈ new.toList, v.oneCell' = true) (h1c : ∀ v ∈ cur.toList.take (n * 5), v.oneCell' = true) :
    Calls Tryz.prog 82 #[.slice (some ⟨g0, 0, none⟩) n cap, .int .i64 (p : Int), .slice (some ⟨g, 0, none⟩) 1 1] w fun e w' => ∃ G row2, e = .returned (.slice (some ⟨w.heap.size, 0, none⟩) (n + 1) G) ∧
      w'.heap[w.heap.size]? = some (.cells row2 25 (0, 0)) ∧ n + 1 ≤ G ∧ G ≤ maxLen ∧ row2.size = G * 5 ∧ row2.toList.take ((n + 1) * 5) = (cur.toList.take (n * 5)).take (p * 5) ++ new.toList ++ (cur.toList.take (n * 5)).drop (p * 5) ∧ w.grownBy w' none := by
  obtain rfl : cap = n := by omega
  have h4' : cap ≤ 9223372036854775807 := by unfold maxLen at hcap; omega
  have e1 : ((p : Int) == (cap : Int)) = false := by rw [beq_eq_false_iff_ne]; omega
  have e2 : (p : Int) ≤ (cap : Int) := by omega
  have e3 : (cap : Int) < (cap : Int) + 1 := by omega
  obtain ⟨i2, hi0, hz0, hz1, hz2⟩ := info_parts val_info
  have hkk : (cap : Int) + 1 - (p : Int) = ((cap + 1 - p : Nat) : Int) := by omega
  have hik : p + (cap + 1 - p) = cap + 1 := by omega
  have hold : (Builtin.firstCells i2.size p (.slice (some ⟨g0, 0, none⟩) p cap)).run Tryz.prog w.drew = .ok (cur.toList.take (p * 5)).toArray w.drew := by
    rw [hz1]
    exact run_firstCells_some w.drew 5 p ⟨g0, 0, none⟩ p cap (cur.toList.take (p * 5)) (by rw [List.length_take, Array.length_toList]; omega) (fun j v hj => by
      rw [Addr.add_lit, Nat.zero_add, show w.drew.cell? ⟨g0, j, none⟩ = w.cell? ⟨g0, j, none⟩ from rfl, cell_of_row w g0 _ _ _ _ h2]
      rw [List.getElem?_take] at hj
      split at hj
      · simpa using hj
      · cases hj)
  obtain ⟨G, hG⟩ : ∃ G, G = grownCap w (cap + 1) cap 25 := ⟨_, rfl⟩
  have hGn : cap + 1 ≤ G := by rw [hG]; exact grownCap_ge w _ _ _
  have hGm : G ≤ maxLen := by rw [hG]; exact grownCap_le_maxLen w (cap + 1) cap 25 (by unfold maxLen; omega)
  obtain ⟨ROW, hROW⟩ : ∃ ROW : Array Value, ROW = (cur.toList.take (p * 5)).toArray ++ Builtin.zeroCells (Value.agg #[.int .i64 0, .int .i64 0, .string ByteArray.empty, .slice none 0 0, .slice none 0 0]).cells (cap + 1 - p) ++ Builtin.zeroCells (Value.agg #[.int .i64 0, .int .i64 0, .string ByteArray.empty, .slice none 0 0, .slice none 0 0]).cells (G - (cap + 1)) := ⟨_, rfl⟩
  have hRl : ROW.size = G * 5 := by
    rw [hROW]
    simp [Builtin.zeroCells, Value.cells]
    omega
  have hR0 : ROW.toList.take (p * 5) = cur.toList.take (p * 5) := by
    rw [hROW]; simp only [Array.toList_append, List.append_assoc]
    rw [List.take_append_of_le_length (by simp; omega), List.take_of_length_le (by simp; omega)]
  have hrz : ∀ ty, (Builtin.append_ #[22, 3] ty #[.slice (some ⟨g0, 0, none⟩) p cap, .int .i64 ((cap : Int) + 1 - (p : Int))]).run Tryz.prog w =
      .ok (.slice (some ⟨w.heap.size, 0, none⟩) (cap + 1) G) (w.drew.alloc (.cells ROW 25)) := fun ty => by
    have h := Lib.run_append_grow_zeros (P := Tryz.prog) w 22 3 ty 25 i2 _ .i64 .i64 Tryz.underlying22 Tryz.underlying3 hi0 hz0 (some ⟨g0, 0, none⟩) p cap (cur.toList.take (p * 5)) hold (cap + 1 - p) (by omega) (by omega) (by omega) (by omega) (by rw [hz2]; omega) (by rw [hz2, hik]; exact growslice_fits hroom (by omega))
    rw [hik, ← hG] at h
    rw [hkk, hROW]
    exact h
  have hbw : g0 < w.heap.size := row_lt h2
  have hvw : g < w.heap.size := row_lt hg
  obtain ⟨cs, hcs⟩ : ∃ cs, cs = (cur.toList.drop (p * 5)).take ((cap - p) * 5) := ⟨_, rfl⟩
  have hcl : cs.length = (cap - p) * 5 := by rw [hcs, List.length_take, List.length_drop, Array.length_toList]; omega
  have hcm : ∀ v, v ∈ cs → v ∈ cur.toList.take (cap * 5) := fun v hv => by
    rw [hcs, show (cap - p) * 5 = cap * 5 - p * 5 by omega, ← List.drop_take] at hv
    exact List.mem_of_mem_drop hv
  obtain ⟨row1, hrow1⟩ : ∃ row1, row1 = (ROW.toList.take (p * 5) ++ new.toList ++ ROW.toList.drop (p * 5 + new.toList.length)).toArray := ⟨_, rfl⟩
  have hsz1 : row1.size = G * 5 := by rw [hrow1]; simp; omega
  obtain ⟨row2, hrow2⟩ : ∃ row2, row2 = (row1.toList.take ((p + 1) * 5) ++ cs ++ row1.toList.drop ((p + 1) * 5 + cs.length)).toArray := ⟨_, rfl⟩
  have hcpA : ∀ (W : World), W.heap[w.heap.size]? = some (.cells ROW 25 (0, 0)) → W.heap[g]? = some (.cells new T (0, 0)) → ∀ ty dc, (Builtin.copy_ #[22, 22] ty #[.slice (some ⟨w.heap.size, p * 5, none⟩) (cap + 1 - p) dc, .slice (some ⟨g, 0, none⟩) 1 1]).run Tryz.prog W = .ok (goInt (1 : Nat)) (W.setRow w.heap.size row1) := fun W k1 k2 ty dc => by
    rw [hrow1]
    exact run_copy_rowN W _ _ ty 25 w.heap.size (p * 5) (cap + 1 - p) _ ⟨g, 0, none⟩ 1 _ ROW _ new.toList 5 1 Tryz.underlying22 (by rw [hi0]; simp [hz1]) (by simp only [Nat.min_def]; split <;> omega) k1 (by rw [Array.length_toList]; omega)
      (fun j v hj => by rw [Addr.add_lit, Nat.zero_add, cell_of_row _ g _ _ _ _ k2]; simpa using hj) (by rw [Array.length_toList]; omega) h1n
  have hcpB : ∀ (W : World), W.heap[w.heap.size]? = some (.cells row1 25 (0, 0)) → W.heap[g0]? = some (.cells cur 25 (0, 0)) → ∀ ty dc sc, (Builtin.copy_ #[22, 22] ty #[.slice (some ⟨w.heap.size, (p + 1) * 5, none⟩) (cap - p) dc, .slice (some ⟨g0, p * 5, none⟩) (cap - p) sc]).run Tryz.prog W = .ok (goInt (cap - p : Nat)) (W.setRow w.heap.size row2) := fun W k1 k2 ty dc sc => by
    rw [hrow2]
    exact run_copy_rowN W _ _ ty 25 w.heap.size ((p + 1) * 5) (cap - p) _ ⟨g0, p * 5, none⟩ (cap - p) _ row1 _ cs 5 (cap - p) Tryz.underlying22 (by rw [hi0]; simp [hz1]) (by simp only [Nat.min_def]; split <;> omega) k1 hcl
      (fun j v hj => by
        have hjl : j < (cap - p) * 5 := by
          have := (List.getElem?_eq_some_iff.1 hj).1
          omega
        rw [hcs, List.getElem?_take_of_lt hjl, List.getElem?_drop] at hj
        rw [Addr.add_lit, cell_of_row _ g0 _ _ _ _ k2]
        simpa using hj) (by omega) (fun v hv => h1c v (hcm v hv))
  have wa0 : (w.drew.alloc (.cells ROW 25)).heap[w.heap.size]? = some (.cells ROW 25 (0, 0)) := heap_alloc_new w.drew _
  have wag : (w.drew.alloc (.cells ROW 25)).heap[g]? = some (.cells new T (0, 0)) := (Below.heap_alloc w.drew _ _ hvw).trans hg
  have wac : (w.drew.alloc (.cells ROW 25)).heap[g0]? = some (.cells cur 25 (0, 0)) := (Below.heap_alloc w.drew _ _ hbw).trans h2
  have hfin := ins_new cur.toList new.toList ROW.toList cs row1.toList row2.toList (p * 5) ((cap - p) * 5) (by simp only [Array.length_toList]; omega) hcl (by simp only [Array.length_toList]; omega) hR0 (by rw [hrow1]) (by rw [hrow2]; simp only [Array.length_toList, hnew]; rw [show p * 5 + 5 = (p + 1) * 5 by omega])
  simp only [Array.length_toList, hnew] at hfin
  have hx1 : (cur.toList.take (cap * 5)).take (p * 5) = cur.toList.take (p * 5) := by rw [List.take_take, Nat.min_eq_left (by omega)]
  have hx2 : (cur.toList.take (cap * 5)).drop (p * 5) = cs := by rw [List.drop_take, hcs]; congr 1; omega
  rw [show p * 5 + 5 + (cap - p) * 5 = (cap + 1) * 5 by omega, hRl, ← hx1, ← hx2] at hfin
  have HFIN := Lib.hid hfin
  have hga : w.grownBy (w.drew.alloc (.cells ROW 25)) none := grown_drew_alloc w _
  have hG63 : G ≤ 9223372036854775807 := by unfold maxLen at hGm; omega
  have hGp : ¬ (G = p) := by omega
  have hGq : ¬ (G = p + 1) := by omega
  have hcp : ¬ (cap = p) := by omega
  have hw1 : IntKind.i64.wrap ((p : Int) + 1) = (p : Int) + 1 := IntWalk.i64_in _ (by omega)
  have hb1 : (0 : Int) ≤ (p : Int) + 1 := by omega
  have htn : ((p : Int) + 1).toNat = p + 1 := by omega
  have hb5 : (p : Int) + 1 ≤ (cap : Int) + 1 := by omega
  have HGM := Lib.hid hGm; have HGN := Lib.hid hGn
  obtain ⟨W1, hW1⟩ : ∃ W1, W1 = w.drew.alloc (.cells ROW 25) := ⟨_, rfl⟩
  rw [← hW1] at hrz wa0 wag wac hga
  have hA := hcpA W1 wa0 wag
  have hr1 : (W1.setRow w.heap.size row1).heap[w.heap.size]? = some (.cells row1 25 (0, 0)) := setRow_heap W1 _ _ _ _ _ wa0
  have hc1 : (W1.setRow w.heap.size row1).drew.heap[g0]? = some (.cells cur 25 (0, 0)) := (setRow_other W1 _ g0 row1 (by omega)).trans wac
  have hB := hcpB (W1.setRow w.heap.size row1).drew hr1 hc1
  have hr2 : ((W1.setRow w.heap.size row1).drew.setRow w.heap.size row2).heap[w.heap.size]? = some (.cells row2 25 (0, 0)) := setRow_heap _ _ _ _ _ _ hr1
  have hz1' := hga.size
  have hgr : w.grownBy ((W1.setRow w.heap.size row1).drew.setRow w.heap.size row2) none := ⟨hga.os, hga.tape, hga.output, by simpa [World.setRow] using hga.size, fun k hk hk2 => (setRow_other _ _ k row2 (by omega)).trans ((setRow_other W1 _ k row1 (by omega)).trans (hga.block k hk hk2))⟩
  have HR2 := Lib.hid hr2; have HGR := Lib.hid hgr
  clear hcm hcpA hcpB hROW hG hrow1 hrow2 hcs hfin hx1 hx2 hold hkk hik hR0 hGm hW1 wa0 wag wac hga hr1 hc1 hr2 hgr
  go_enter Tryz.func82, Tryz.ntmps82
  go_wp2_with (at_builtin; refine Lib.wpList_append_run _ rfl _ _ _ _ rfl _ _ rfl rfl _ _ (hrz _) ?_)
  go_region_with (fail)
  all_goals go_wp2_with fail
  all_goals go_ret
  all_goals exact ⟨G, row2, rfl, HR2.out, HGN.out, HGM.out, HFIN.out.1, HFIN.out.2, HGR.out⟩
end Go.Proofs.YtdkggnciamfcmaaGreatDoor

namespace Go.Proofs.YtdkggnciamfcmaaGreatDoor
set_option linter.unusedVariables false
open Go.RowKit
open M (V)

set_option maxRecDepth 100000 in
set_option maxHeartbeats 2000000 in
theorem insk_shift {base n g g0 cap p : Nat} {cur : Array Value} {w : World} {new : Array Value} {T : TypeId} (hp : p < n) (hroom : n + 1 ≤ cap) (hcap : cap ≤ maxLen) (hn : n ≤ 1000000)
    (h2 : w.heap[g0]? = some (.cells cur 9 (0, 0))) (hsz : cur.size = cap) (hne : g ≠ g0)
    (hg : w.heap[g]? = some (.cells new T (0, 0))) (hnew : new.size = 1) (h1n : ∀ v ∈ new.toList, v.oneCell' = true) (h1c : ∀ v ∈ cur.toList.take (n), v.oneCell' = true) :
    Calls Tryz.prog 81 #[.slice (some ⟨g0, 0, none⟩) n cap, .int .i64 (p : Int), .slice (some ⟨g, 0, none⟩) 1 1] w fun e w' => e = .returned (.slice (some ⟨g0, 0, none⟩) (n + 1) cap) ∧
      ∃ row2, w'.heap[g0]? = some (.cells row2 9 (0, 0)) ∧ row2.size = cap ∧ row2.toList.take ((n + 1)) = (cur.toList.take (n)).take (p) ++ new.toList ++ (cur.toList.take (n)).drop (p) ∧ w.grownBy w' (some g0) := by
  have h4' : cap ≤ 9223372036854775807 := by unfold maxLen at hcap; omega
  have hov : ∀ bo lb cb, (callFunc 99 #[.slice (some ⟨g, 0, none⟩) 1 1, .slice (some ⟨g0, bo, none⟩) lb cb]).run Tryz.prog w = .ok (.value (.bool false)) w := fun bo lb cb => by
    have hsa : w.shape? g = some (T, new.size) := by simp [World.shape?, hg]
    have hsb : w.shape? g0 = some (9, cur.size) := by simp [World.shape?, h2]
    rw [run_callFunc_extern Tryz.func99 (by kernel_rfl) (by kernel_rfl) (by kernel_rfl) (e := Extern.SlicesOverlaps.overlaps #[23, 23] #[4]) (by kernel_rfl),
      Lib.run_overlaps_apart w 23 4 9 Tryz.underlying23 1 (fun _ => by kernel_rfl) ⟨g, 0, none⟩ ⟨g0, bo, none⟩ 1 1 lb cb hne T 9 new.size cur.size hsa hsb (by omega) (frozen_of_row _ _ _ _ _ hg) (frozen_of_row _ _ _ _ _ hg)]
    rfl
  have e1 : ((p : Int) == (n : Int)) = false := by rw [beq_eq_false_iff_ne]; omega
  have e2 : (p : Int) ≤ (n : Int) := by omega
  go_enter Tryz.func81, Tryz.ntmps81
  go_wp2_with fail
  obtain ⟨cs, hcs⟩ : ∃ cs, cs = (cur.toList.drop (p)).take ((n - p)) := ⟨_, rfl⟩
  have hcl : cs.length = (n - p) := by rw [hcs, List.length_take, List.length_drop, Array.length_toList]; omega
  obtain ⟨i2, hi0, hz0, hz1, hz2⟩ := info_parts str_info
  have hw1 : IntKind.i64.wrap ((p : Int) + 1) = (p : Int) + 1 := IntWalk.i64_in _ (by omega)
  have hb1 : (0 : Int) ≤ (p : Int) + 1 := by omega
  have htn : ((p : Int) + 1).toNat = p + 1 := by omega
  have hb2 : ¬ (cap = p + 1) := by omega
  have hb3 : (p : Int) ≤ (n : Int) + 1 := by omega
  have hb4 : ¬ (cap = p) := by omega
  have hb5 : (p : Int) + 1 ≤ (n : Int) + 1 := by omega
  have hcm : ∀ v, v ∈ cs → v ∈ cur.toList.take n := fun v hv => by
    rw [hcs, ← List.drop_take] at hv
    exact List.mem_of_mem_drop hv
  obtain ⟨row1, hrow1⟩ : ∃ row1, row1 = (cur.toList.take ((p + 1)) ++ cs ++ cur.toList.drop ((p + 1) + cs.length)).toArray := ⟨_, rfl⟩
  have hcs1 : ∀ j v, cs[j]? = some v → w.drew.cell? ((⟨g0, p, none⟩ : Addr).add j) = some v := fun j v hj => by
    rw [hcs] at hj
    have hjl : j < (n - p) := by
      have := (List.getElem?_eq_some_iff.1 hj).1
      rw [List.length_take] at this; omega
    rw [List.getElem?_take_of_lt hjl, List.getElem?_drop] at hj
    have hj1 := hj
    rw [Addr.add_lit, show w.drew.cell? ⟨g0, p + j, none⟩ = w.cell? ⟨g0, p + j, none⟩ from rfl, cell_of_row w g0 _ _ _ _ h2]
    simpa using hj1
  have hcp1 : ∀ ty, (Builtin.copy_ #[23, 23] ty #[.slice (some ⟨g0, (p + 1), none⟩) (n - p) (cap - (p + 1)), .slice (some ⟨g0, p, none⟩) (n + 1 - p) (cap - p)]).run Tryz.prog w.drew = .ok (goInt (n - p : Nat)) (w.drew.setRow g0 row1) := fun ty => by
    rw [hrow1]
    exact run_copy_rowN w.drew _ _ ty 9 g0 ((p + 1)) (n - p) _ ⟨g0, p, none⟩ (n + 1 - p) _ cur _ cs 1 (n - p) Tryz.underlying23 (by rw [hi0]; simp [hz1]) (by simp only [Nat.min_def]; split <;> omega) h2 (by omega) hcs1 (by omega) (fun v hv => h1c v (hcm v hv))
  have hr1 : (w.drew.setRow g0 row1).heap[g0]? = some (.cells row1 9 (0, 0)) := setRow_heap w.drew g0 _ _ _ _ h2
  have hg1 : (w.drew.setRow g0 row1).heap[g]? = some (.cells new T (0, 0)) := (setRow_other w.drew g0 g row1 hne).trans hg
  have hsz1 : row1.size = cap := by rw [hrow1]; simp [hcl]; omega
  obtain ⟨row2, hrow2⟩ : ∃ row2, row2 = (row1.toList.take (p) ++ new.toList ++ row1.toList.drop (p + new.toList.length)).toArray := ⟨_, rfl⟩
  have hcp2 : ∀ ty dc, (Builtin.copy_ #[23, 23] ty #[.slice (some ⟨g0, p, none⟩) (n + 1 - p) dc, .slice (some ⟨g, 0, none⟩) 1 1]).run Tryz.prog (w.drew.setRow g0 row1) = .ok (goInt (1 : Nat)) ((w.drew.setRow g0 row1).setRow g0 row2) := fun ty dc => by
    rw [hrow2]
    exact run_copy_rowN (w.drew.setRow g0 row1) _ _ ty 9 g0 (p) (n + 1 - p) _ ⟨g, 0, none⟩ 1 _ row1 _ new.toList 1 1 Tryz.underlying23 (by rw [hi0]; simp [hz1]) (by simp only [Nat.min_def]; split <;> omega) hr1 (by rw [Array.length_toList]; omega)
      (fun j v hj => by rw [Addr.add_lit, Nat.zero_add, cell_of_row _ g _ _ _ _ hg1]; simpa using hj) (by rw [Array.length_toList]; omega) h1n
  have hfin := ins_row cur.toList new.toList (p) ((n - p)) (by simp only [Array.length_toList]; omega) cs row1.toList row2.toList hcs (by rw [hrow1]; simp only [Array.length_toList, hnew]) (by rw [hrow2])
  simp only [Array.length_toList, hnew] at hfin
  rw [show p + 1 + (n - p) = (n + 1) by omega, show p + (n - p) = n by omega, hsz] at hfin
  have HFIN := Lib.hid hfin
  have hr2 : ((w.drew.setRow g0 row1).setRow g0 row2).heap[g0]? = some (.cells row2 9 (0, 0)) := setRow_heap _ g0 _ _ _ _ hr1
  have HR3 := Lib.hid hr2
  have hgr : w.grownBy ((w.drew.setRow g0 row1).setRow g0 row2) (some g0) := ⟨rfl, rfl, rfl, by simp [World.setRow], fun k _ hk => (setRow_other _ g0 k row2 (by intro e; exact hk (by rw [e]))).trans (setRow_other w.drew g0 k row1 (by intro e; exact hk (by rw [e])))⟩
  have HGR := Lib.hid hgr
  clear hcm hrow1 hrow2 hcs hcs1 hfin hr2 hgr hr1 hg1
  go_region_with (fail)
  all_goals go_wp2_with fail
  all_goals go_ret
  all_goals exact ⟨rfl, row2, HR3.out, HFIN.out.1, HFIN.out.2, HGR.out⟩
set_option maxRecDepth 100000 in
set_option maxHeartbeats 2000000 in
theorem insk_grow {n g g0 cap p : Nat} {cur : Array Value} {w : World} {new : Array Value} {T : TypeId} (hp : p < n) (hnc : n ≤ cap) (hroom : cap < n + 1) (hcap : cap ≤ maxLen) (hn : n ≤ 1000000)
    (h2 : w.heap[g0]? = some (.cells cur 9 (0, 0))) (hsz : cur.size = cap) (hne : g ≠ g0)
    (hg : w.heap[g]? = some (.cells new T (0, 0))) (hnew : new.size = 1) (h1n : ∀ v ∈ new.toList, v.oneCell' = true) (h1c : ∀ v ∈ cur.toList.take (n), v.oneCell' = true) :
    Calls Tryz.prog 81 #[.slice (some ⟨g0, 0, none⟩) n cap, .int .i64 (p : Int), .slice (some ⟨g, 0, none⟩) 1 1] w fun e w' => ∃ G row2, e = .returned (.slice (some ⟨w.heap.size, 0, none⟩) (n + 1) G) ∧
      w'.heap[w.heap.size]? = some (.cells row2 9 (0, 0)) ∧ n + 1 ≤ G ∧ G ≤ maxLen ∧ row2.size = G ∧ row2.toList.take ((n + 1)) = (cur.toList.take (n)).take (p) ++ new.toList ++ (cur.toList.take (n)).drop (p) ∧ w.grownBy w' none := by
  obtain rfl : cap = n := by omega
  have h4' : cap ≤ 9223372036854775807 := by unfold maxLen at hcap; omega
  have e1 : ((p : Int) == (cap : Int)) = false := by rw [beq_eq_false_iff_ne]; omega
  have e2 : (p : Int) ≤ (cap : Int) := by omega
  have e3 : (cap : Int) < (cap : Int) + 1 := by omega
  obtain ⟨i2, hi0, hz0, hz1, hz2⟩ := info_parts str_info
  have hkk : (cap : Int) + 1 - (p : Int) = ((cap + 1 - p : Nat) : Int) := by omega
  have hik : p + (cap + 1 - p) = cap + 1 := by omega
  have hold : (Builtin.firstCells i2.size p (.slice (some ⟨g0, 0, none⟩) p cap)).run Tryz.prog w.drew = .ok (cur.toList.take (p)).toArray w.drew := by
    rw [hz1]
    exact run_firstCells_some w.drew 1 p ⟨g0, 0, none⟩ p cap (cur.toList.take (p)) (by rw [List.length_take, Array.length_toList]; omega) (fun j v hj => by
      rw [Addr.add_lit, Nat.zero_add, show w.drew.cell? ⟨g0, j, none⟩ = w.cell? ⟨g0, j, none⟩ from rfl, cell_of_row w g0 _ _ _ _ h2]
      rw [List.getElem?_take] at hj
      split at hj
      · simpa using hj
      · cases hj)
  obtain ⟨G, hG⟩ : ∃ G, G = grownCap w (cap + 1) cap 9 := ⟨_, rfl⟩
  have hGn : cap + 1 ≤ G := by rw [hG]; exact grownCap_ge w _ _ _
  have hGm : G ≤ maxLen := by rw [hG]; exact grownCap_le_maxLen w (cap + 1) cap 9 (by unfold maxLen; omega)
  obtain ⟨ROW, hROW⟩ : ∃ ROW : Array Value, ROW = (cur.toList.take (p)).toArray ++ Builtin.zeroCells (Value.string ByteArray.empty).cells (cap + 1 - p) ++ Builtin.zeroCells (Value.string ByteArray.empty).cells (G - (cap + 1)) := ⟨_, rfl⟩
  have hRl : ROW.size = G := by
    rw [hROW]
    simp [Builtin.zeroCells, Value.cells]
    omega
  have hR0 : ROW.toList.take (p) = cur.toList.take (p) := by
    rw [hROW]; simp only [Array.toList_append, List.append_assoc]
    rw [List.take_append_of_le_length (by simp; omega), List.take_of_length_le (by simp; omega)]
  have hrz : ∀ ty, (Builtin.append_ #[23, 3] ty #[.slice (some ⟨g0, 0, none⟩) p cap, .int .i64 ((cap : Int) + 1 - (p : Int))]).run Tryz.prog w =
      .ok (.slice (some ⟨w.heap.size, 0, none⟩) (cap + 1) G) (w.drew.alloc (.cells ROW 9)) := fun ty => by
    have h := Lib.run_append_grow_zeros (P := Tryz.prog) w 23 3 ty 9 i2 _ .i64 .i64 Tryz.underlying23 Tryz.underlying3 hi0 hz0 (some ⟨g0, 0, none⟩) p cap (cur.toList.take (p)) hold (cap + 1 - p) (by omega) (by omega) (by omega) (by omega) (by rw [hz2]; omega) (by rw [hz2, hik]; exact growslice_fits hroom (by omega))
    rw [hik, ← hG] at h
    rw [hkk, hROW]
    exact h
  have hbw : g0 < w.heap.size := row_lt h2
  have hvw : g < w.heap.size := row_lt hg
  obtain ⟨cs, hcs⟩ : ∃ cs, cs = (cur.toList.drop (p)).take ((cap - p)) := ⟨_, rfl⟩
  have hcl : cs.length = (cap - p) := by rw [hcs, List.length_take, List.length_drop, Array.length_toList]; omega
  have hcm : ∀ v, v ∈ cs → v ∈ cur.toList.take cap := fun v hv => by
    rw [hcs, ← List.drop_take] at hv
    exact List.mem_of_mem_drop hv
  obtain ⟨row1, hrow1⟩ : ∃ row1, row1 = (ROW.toList.take (p) ++ new.toList ++ ROW.toList.drop (p + new.toList.length)).toArray := ⟨_, rfl⟩
  have hsz1 : row1.size = G := by rw [hrow1]; simp; omega
  obtain ⟨row2, hrow2⟩ : ∃ row2, row2 = (row1.toList.take ((p + 1)) ++ cs ++ row1.toList.drop ((p + 1) + cs.length)).toArray := ⟨_, rfl⟩
  have hcpA : ∀ (W : World), W.heap[w.heap.size]? = some (.cells ROW 9 (0, 0)) → W.heap[g]? = some (.cells new T (0, 0)) → ∀ ty dc, (Builtin.copy_ #[23, 23] ty #[.slice (some ⟨w.heap.size, p, none⟩) (cap + 1 - p) dc, .slice (some ⟨g, 0, none⟩) 1 1]).run Tryz.prog W = .ok (goInt (1 : Nat)) (W.setRow w.heap.size row1) := fun W k1 k2 ty dc => by
    rw [hrow1]
    exact run_copy_rowN W _ _ ty 9 w.heap.size (p) (cap + 1 - p) _ ⟨g, 0, none⟩ 1 _ ROW _ new.toList 1 1 Tryz.underlying23 (by rw [hi0]; simp [hz1]) (by simp only [Nat.min_def]; split <;> omega) k1 (by rw [Array.length_toList]; omega)
      (fun j v hj => by rw [Addr.add_lit, Nat.zero_add, cell_of_row _ g _ _ _ _ k2]; simpa using hj) (by rw [Array.length_toList]; omega) h1n
  have hcpB : ∀ (W : World), W.heap[w.heap.size]? = some (.cells row1 9 (0, 0)) → W.heap[g0]? = some (.cells cur 9 (0, 0)) → ∀ ty dc sc, (Builtin.copy_ #[23, 23] ty #[.slice (some ⟨w.heap.size, (p + 1), none⟩) (cap - p) dc, .slice (some ⟨g0, p, none⟩) (cap - p) sc]).run Tryz.prog W = .ok (goInt (cap - p : Nat)) (W.setRow w.heap.size row2) := fun W k1 k2 ty dc sc => by
    rw [hrow2]
    exact run_copy_rowN W _ _ ty 9 w.heap.size ((p + 1)) (cap - p) _ ⟨g0, p, none⟩ (cap - p) _ row1 _ cs 1 (cap - p) Tryz.underlying23 (by rw [hi0]; simp [hz1]) (by simp only [Nat.min_def]; split <;> omega) k1 (by omega)
      (fun j v hj => by
        have hjl : j < (cap - p) := by
          have := (List.getElem?_eq_some_iff.1 hj).1
          omega
        rw [hcs, List.getElem?_take_of_lt hjl, List.getElem?_drop] at hj
        rw [Addr.add_lit, cell_of_row _ g0 _ _ _ _ k2]
        simpa using hj) (by omega) (fun v hv => h1c v (hcm v hv))
  have wa0 : (w.drew.alloc (.cells ROW 9)).heap[w.heap.size]? = some (.cells ROW 9 (0, 0)) := heap_alloc_new w.drew _
  have wag : (w.drew.alloc (.cells ROW 9)).heap[g]? = some (.cells new T (0, 0)) := (Below.heap_alloc w.drew _ _ hvw).trans hg
  have wac : (w.drew.alloc (.cells ROW 9)).heap[g0]? = some (.cells cur 9 (0, 0)) := (Below.heap_alloc w.drew _ _ hbw).trans h2
  have hfin := ins_new cur.toList new.toList ROW.toList cs row1.toList row2.toList (p) ((cap - p)) (by simp only [Array.length_toList]; omega) hcl (by simp only [Array.length_toList]; omega) hR0 (by rw [hrow1]) (by rw [hrow2]; simp only [Array.length_toList, hnew])
  simp only [Array.length_toList, hnew] at hfin
  have hx1 : (cur.toList.take (cap)).take (p) = cur.toList.take (p) := by rw [List.take_take, Nat.min_eq_left (by omega)]
  have hx2 : (cur.toList.take (cap)).drop (p) = cs := by rw [List.drop_take, hcs]
  rw [show p + 1 + (cap - p) = (cap + 1) by omega, hRl, ← hx1, ← hx2] at hfin
  have HFIN := Lib.hid hfin
  have hga : w.grownBy (w.drew.alloc (.cells ROW 9)) none := grown_drew_alloc w _
  have hG63 : G ≤ 9223372036854775807 := by unfold maxLen at hGm; omega
  have hGp : ¬ (G = p) := by omega
  have hGq : ¬ (G = p + 1) := by omega
  have hcp : ¬ (cap = p) := by omega
  have hw1 : IntKind.i64.wrap ((p : Int) + 1) = (p : Int) + 1 := IntWalk.i64_in _ (by omega)
  have hb1 : (0 : Int) ≤ (p : Int) + 1 := by omega
  have htn : ((p : Int) + 1).toNat = p + 1 := by omega
  have hb5 : (p : Int) + 1 ≤ (cap : Int) + 1 := by omega
  have HGM := Lib.hid hGm; have HGN := Lib.hid hGn
  obtain ⟨W1, hW1⟩ : ∃ W1, W1 = w.drew.alloc (.cells ROW 9) := ⟨_, rfl⟩
  rw [← hW1] at hrz wa0 wag wac hga
  have hA := hcpA W1 wa0 wag
  have hr1 : (W1.setRow w.heap.size row1).heap[w.heap.size]? = some (.cells row1 9 (0, 0)) := setRow_heap W1 _ _ _ _ _ wa0
  have hc1 : (W1.setRow w.heap.size row1).drew.heap[g0]? = some (.cells cur 9 (0, 0)) := (setRow_other W1 _ g0 row1 (by omega)).trans wac
  have hB := hcpB (W1.setRow w.heap.size row1).drew hr1 hc1
  have hr2 : ((W1.setRow w.heap.size row1).drew.setRow w.heap.size row2).heap[w.heap.size]? = some (.cells row2 9 (0, 0)) := setRow_heap _ _ _ _ _ _ hr1
  have hz1' := hga.size
  have hgr : w.grownBy ((W1.setRow w.heap.size row1).drew.setRow w.heap.size row2) none := ⟨hga.os, hga.tape, hga.output, by simpa [World.setRow] using hga.size, fun k hk hk2 => (setRow_other _ _ k row2 (by omega)).trans ((setRow_other W1 _ k row1 (by omega)).trans (hga.block k hk hk2))⟩
  have HR2 := Lib.hid hr2; have HGR := Lib.hid hgr
  clear hcm hcpA hcpB hROW hG hrow1 hrow2 hcs hfin hx1 hx2 hold hkk hik hR0 hGm hW1 wa0 wag wac hga hr1 hc1 hr2 hgr
  go_enter Tryz.func81, Tryz.ntmps81
  go_wp2_with (at_builtin; refine Lib.wpList_append_run _ rfl _ _ _ _ rfl _ _ rfl rfl _ _ (hrz _) ?_)
  go_region_with (fail)
  all_goals go_wp2_with fail
  all_goals go_ret
  all_goals exact ⟨G, row2, rfl, HR2.out, HGN.out, HGM.out, HFIN.out.1, HFIN.out.2, HGR.out⟩
end Go.Proofs.YtdkggnciamfcmaaGreatDoor

namespace Go.Proofs.YtdkggnciamfcmaaGreatDoor
set_option linter.unusedVariables false
open Go.RowKit
open M (V)

theorem insv_any {base n g q : Nat} {v : Value} {xs : List Value} {w : World} {k i : Int} {t : ByteArray} {A B : Option Addr} {m c p e : Nat} {T : TypeId} (hq : q ≤ n) (hown : w.ownsRow base 25 5 v n xs) (h1x : ∀ u ∈ xs, u.oneCell' = true)
    (hg : w.heap[g]? = some (.cells #[.int .i64 k, .int .i64 i, .string t, .slice A m c, .slice B p e] T (0, 0))) (hne : v.ownBlock ≠ some g) (hn : n ≤ 1000000) (hbase : base ≤ w.heap.size) :
    Calls Tryz.prog 82 #[v, .int .i64 (q : Int), .slice (some ⟨g, 0, none⟩) 1 1] w (Insd base 25 5 v n (xs.take (q * 5) ++ [.int .i64 k, .int .i64 i, .string t, .slice A m c, .slice B p e] ++ xs.drop (q * 5)) w) := by
  have hl := hown.1
  rcases Nat.eq_or_lt_of_le hq with rfl | hlt
  · rw [List.take_of_length_le (by omega), List.drop_eq_nil_of_le (by omega), List.append_nil]
    exact insv_end hown hg hn hbase
  rcases hown.2 with ⟨rfl, rfl⟩ | ⟨g0, cap, cur, rfl, h1, h2, h3, h4, h5, h6⟩
  · omega
  have hg0 : g ≠ g0 := fun e => hne (by rw [e]; rfl)
  have hone : ∀ u ∈ (#[.int .i64 k, .int .i64 i, .string t, .slice A m c, .slice B p e] : Array Value).toList, u.oneCell' = true := fun u hu => by
    simp only [List.mem_cons, List.not_mem_nil, or_false] at hu
    rcases hu with rfl | rfl | rfl | rfl | rfl <;> rfl
  have hlen : ∀ row2 : Array Value, row2.toList.take ((n + 1) * 5) = (cur.toList.take (n * 5)).take (q * 5) ++ [Value.int .i64 k, Value.int .i64 i, Value.string t, Value.slice A m c, Value.slice B p e] ++ (cur.toList.take (n * 5)).drop (q * 5) → (xs.take (q * 5) ++ [Value.int .i64 k, Value.int .i64 i, Value.string t, Value.slice A m c, Value.slice B p e] ++ xs.drop (q * 5)).length = (n + 1) * 5 ∧ row2.toList.take ((n + 1) * 5) = xs.take (q * 5) ++ [Value.int .i64 k, Value.int .i64 i, Value.string t, Value.slice A m c, Value.slice B p e] ++ xs.drop (q * 5) := fun row2 h => by
    rw [h6] at h
    exact ⟨by simp; omega, h⟩
  by_cases hroom : n + 1 ≤ cap
  · refine (insv_shift (base := base) hlt hroom h4 hn h2 h5 hg0 hg rfl hone (by rw [h6]; exact h1x)).mono ?_
    rintro r w' ⟨rfl, row2, k1, k2, k3, k4⟩
    obtain ⟨k5, k6⟩ := hlen row2 k3
    exact ⟨g0, cap, rfl, ⟨k5, .inr ⟨g0, cap, row2, rfl, h1, k1, hroom, h4, k2, k6⟩⟩, k4, .inl rfl, row_lt k1⟩
  · refine (insv_grow hlt h3 (by omega) h4 hn h2 h5 hg0 hg rfl hone (by rw [h6]; exact h1x)).mono ?_
    rintro r w' ⟨G, row2, rfl, k1, k2, k3, k4, k5, k6⟩
    obtain ⟨k7, k8⟩ := hlen row2 k5
    exact ⟨w.heap.size, G, rfl, ⟨k7, .inr ⟨w.heap.size, G, row2, rfl, hbase, k1, k2, k3, k4, k8⟩⟩, ⟨k6.os, k6.tape, k6.output, k6.size, fun j hj _ => k6.block j hj (by simp)⟩, .inr (Nat.le_refl _), row_lt k1⟩

theorem insk_any {base n g q : Nat} {v : Value} {xs : List Value} {w : World} {k : ByteArray} {T : TypeId} (hq : q ≤ n) (hown : w.ownsRow base 9 1 v n xs) (h1x : ∀ u ∈ xs, u.oneCell' = true)
    (hg : w.heap[g]? = some (.cells #[.string k] T (0, 0))) (hne : v.ownBlock ≠ some g) (hn : n ≤ 1000000) (hbase : base ≤ w.heap.size) :
    Calls Tryz.prog 81 #[v, .int .i64 (q : Int), .slice (some ⟨g, 0, none⟩) 1 1] w (Insd base 9 1 v n (xs.take q ++ [.string k] ++ xs.drop q) w) := by
  have hl := hown.1
  rcases Nat.eq_or_lt_of_le hq with rfl | hlt
  · rw [List.take_of_length_le (by omega), List.drop_eq_nil_of_le (by omega), List.append_nil]
    exact insk_end hown hg hn hbase
  rcases hown.2 with ⟨rfl, rfl⟩ | ⟨g0, cap, cur, rfl, h1, h2, h3, h4, h5, h6⟩
  · omega
  have hg0 : g ≠ g0 := fun e => hne (by rw [e]; rfl)
  have hone : ∀ u ∈ (#[.string k] : Array Value).toList, u.oneCell' = true := fun u hu => by
    obtain rfl := List.mem_singleton.1 hu; rfl
  rw [Nat.mul_one] at h6
  have hlen : ∀ row2 : Array Value, row2.toList.take (n + 1) = (cur.toList.take n).take q ++ [Value.string k] ++ (cur.toList.take n).drop q → (xs.take q ++ [Value.string k] ++ xs.drop q).length = (n + 1) * 1 ∧ row2.toList.take ((n + 1) * 1) = xs.take q ++ [Value.string k] ++ xs.drop q := fun row2 h => by
    rw [h6] at h
    exact ⟨by simp; omega, by rw [Nat.mul_one]; exact h⟩
  by_cases hroom : n + 1 ≤ cap
  · refine (insk_shift (base := base) hlt hroom h4 hn h2 (by omega) hg0 hg rfl hone (by rw [h6]; exact h1x)).mono ?_
    rintro r w' ⟨rfl, row2, k1, k2, k3, k4⟩
    obtain ⟨k5, k6⟩ := hlen row2 k3
    exact ⟨g0, cap, rfl, ⟨k5, .inr ⟨g0, cap, row2, rfl, h1, k1, hroom, h4, by omega, k6⟩⟩, k4, .inl rfl, row_lt k1⟩
  · refine (insk_grow hlt h3 (by omega) h4 hn h2 (by omega) hg0 hg rfl hone (by rw [h6]; exact h1x)).mono ?_
    rintro r w' ⟨G, row2, rfl, k1, k2, k3, k4, k5, k6⟩
    obtain ⟨k7, k8⟩ := hlen row2 k5
    exact ⟨w.heap.size, G, rfl, ⟨k7, .inr ⟨w.heap.size, G, row2, rfl, hbase, k1, k2, k3, by omega, k8⟩⟩, ⟨k6.os, k6.tape, k6.output, k6.size, fun j hj _ => k6.block j hj (by simp)⟩, .inr (Nat.le_refl _), row_lt k1⟩
end Go.Proofs.YtdkggnciamfcmaaGreatDoor

namespace Go.Proofs.YtdkggnciamfcmaaGreatDoor
set_option linter.unusedVariables false
open Go.RowKit
open M (V insAt)

section
variable {w w1 w2 w3 : World} {base M d l B g cap : Nat} {u0 u1 u2 vI vK : Value} {cI : List Value} {ks : List ByteArray} {its : List V} {T : TypeId} {o : Obj}
/-- One more key, anywhere. -/
theorem Grw.keyAt {ks2 : List ByteArray} (hk2 : ks2.length = ks.length + 1) (h : Grw w1 base M d u0 u1 u2 vI vK cI ks its T) (hf : Frm w1.heap.size l B w1 w2) (hl : l < M) (hB : B ≤ M)
    (h1 : w3.ownsRow base 9 1 (.slice (some ⟨g, 0, none⟩) (ks.length + 1) cap) (ks.length + 1) (ks2.map Value.string)) (h2 : (w2.alloc o).grownBy w3 vK.ownBlock)
    (h3 : vK.ownBlock = some g ∨ w2.heap.size + 1 ≤ g) :
    Grw (w3.setCell ⟨M, 4, none⟩ (.slice (some ⟨g, 0, none⟩) (ks.length + 1) cap)) base M d u0 u1 u2 vI (.slice (some ⟨g, 0, none⟩) (ks.length + 1) cap) cI ks2 its T := by
  have hG := h.frm hf hl hB
  have hlow := h.low
  have hhigh := h.high
  have hs1 := hf.size
  have hs2 := h2.size
  simp only [World.size_alloc] at hs2
  have hg1 : w2.grownBy w3 vK.ownBlock := (World.grownBy_alloc w2 o vK.ownBlock).trans h2
  have hM3 : w3.heap[M]? = some (.cells #[u0, u1, u2, vI, vK] T (0, 0)) := (hg1.block M (by omega) h.ne2).trans hG.box
  have hset : w3.grownBy (w3.setCell ⟨M, 4, none⟩ (.slice (some ⟨g, 0, none⟩) (ks.length + 1) cap)) (some M) := ⟨rfl, rfl, rfl, by simp [World.setCell], fun k _ hk => heap_setCell_other w3 ⟨M, 4, none⟩ k _ (by intro e; exact hk (by rw [e]))⟩
  have hlt := fun k e => World.ownsRow.lt h.os k e
  have hgM : g ≠ M := by rcases h3 with e | e
                         · have := (hlt _ e).1; omega
                         · omega
  refine ⟨heap_setCell_same _ _ 4 _ _ _ hM3, ?_, ?_, ?_, hlow, by rw [set_size]; omega⟩
  · have e3 := World.ownsRow.kept hG.ov hg1 (own_other (w' := w2) hG.ov hG.os (by decide))
    exact World.ownsRow.kept e3 hset (.inr (fun e => by have := (World.ownsRow.lt e3 _ e).1; omega))
  · exact World.ownsRow.kept (show OS w3 base _ ks2 by unfold OS; rw [hk2]; exact h1) hset (.inr (fun e => hgM (by injection e)))
  · intro q hq
    obtain ⟨a, b, e1, e2, e3, e4, e5⟩ := hG.el q hq
    refine ⟨a, b, e1, by rw [set_size]; omega, e3, fun k' hk' => ?_, ?_⟩
    · injection hk' with hk'
      have hk' : g = k' := hk'
      subst hk'
      rcases h3 with e | e
      · exact e4 _ e
      · exact .inr (by omega)
    · refine e5.kept fun k' k1 k2 => ?_
      rw [heap_setCell_other _ _ _ _ (show k' ≠ M by omega)]
      exact hg1.block k' (by omega) (fun e => by rcases e4 k' e.symm with h | h <;> omega)
/-- One more item, anywhere. -/
theorem Grw.itemAt {q0 : Nat} (hq0 : q0 ≤ its.length) {k i : Int} {s : ByteArray} {x y : Value} {t : V} (h : Grw w1 base M d u0 u1 u2 vI vK cI ks its T) (hf : Frm w1.heap.size l B w1 w2) (hl : l < M) (hB : B ≤ M)
    (hv : VB w2 w1.heap.size w2.heap.size d (.agg #[.int .i64 k, .int .i64 i, .string s, x, y]) t)
    (h1 : w3.ownsRow base 25 5 (.slice (some ⟨g, 0, none⟩) (its.length + 1) cap) (its.length + 1) (cI.take (q0 * 5) ++ [.int .i64 k, .int .i64 i, .string s, x, y] ++ cI.drop (q0 * 5))) (h2 : (w2.alloc o).grownBy w3 vI.ownBlock)
    (h3 : vI.ownBlock = some g ∨ w2.heap.size + 1 ≤ g) :
    Grw (w3.setCell ⟨M, 3, none⟩ (.slice (some ⟨g, 0, none⟩) (its.length + 1) cap)) base M d u0 u1 u2 (.slice (some ⟨g, 0, none⟩) (its.length + 1) cap) vK (cI.take (q0 * 5) ++ [.int .i64 k, .int .i64 i, .string s, x, y] ++ cI.drop (q0 * 5)) ks (insAt q0 t its) T := by
  have hG := h.frm hf hl hB
  have hlow := h.low
  have hhigh := h.high
  have hs1 := hf.size
  have hs2 := h2.size
  simp only [World.size_alloc] at hs2
  have hg1 : w2.grownBy w3 vI.ownBlock := (World.grownBy_alloc w2 o vI.ownBlock).trans h2
  have hM3 : w3.heap[M]? = some (.cells #[u0, u1, u2, vI, vK] T (0, 0)) := (hg1.block M (by omega) h.ne1).trans hG.box
  have hset : w3.grownBy (w3.setCell ⟨M, 3, none⟩ (.slice (some ⟨g, 0, none⟩) (its.length + 1) cap)) (some M) := ⟨rfl, rfl, rfl, by simp [World.setCell], fun k _ hk => heap_setCell_other w3 ⟨M, 3, none⟩ k _ (by intro e; exact hk (by rw [e]))⟩
  have hgM : g ≠ M := by rcases h3 with e | e
                         · have := (h.ov.lt _ e).1; omega
                         · omega
  have hgs : base ≤ g := by rcases h3 with e | e
                            · exact (h.ov.lt _ e).1
                            · omega
  have hlen : (insAt q0 t its).length = its.length + 1 := by simp [insAt]; omega
  refine ⟨heap_setCell_same _ _ 3 _ _ _ hM3, by rw [hlen]; exact World.ownsRow.kept h1 hset (.inr (fun e => hgM (by injection e))), ?_, ?_, hlow, by rw [set_size]; omega⟩
  · have e3 := World.ownsRow.kept hG.os hg1 (own_other (w' := w2) hG.os hG.ov (by decide))
    exact World.ownsRow.kept e3 hset (.inr (fun e => by have := (World.ownsRow.lt e3 _ e).1; omega))
  · intro q hq
    rw [hlen] at hq
    have hcl : cI.length = its.length * 5 := h.ov.1
    have gl : ∀ r, r < 5 → (cI.take (q0 * 5) ++ [Value.int .i64 k, .int .i64 i, .string s, x, y] ++ cI.drop (q0 * 5)).toArray[q0 * 5 + r]? = [Value.int .i64 k, .int .i64 i, .string s, x, y][r]? := fun r hr => by
      have hlt : (cI.take (q0 * 5)).length = q0 * 5 := by rw [List.length_take]; omega
      simp only [List.getElem?_toArray]
      rw [List.getElem?_append_left (by simp; omega), List.getElem?_append_right (by omega), hlt]
      congr 1; omega
    have lo : ∀ z, z < q0 * 5 → (cI.take (q0 * 5) ++ [Value.int .i64 k, .int .i64 i, .string s, x, y] ++ cI.drop (q0 * 5)).toArray[z]? = cI.toArray[z]? := fun z hz => by
      simp only [List.getElem?_toArray]
      rw [List.append_assoc, List.getElem?_append_left (by rw [List.length_take]; omega), List.getElem?_take_of_lt hz]
    have hi : ∀ z, q0 * 5 ≤ z → (cI.take (q0 * 5) ++ [Value.int .i64 k, .int .i64 i, .string s, x, y] ++ cI.drop (q0 * 5)).toArray[z + 5]? = cI.toArray[z]? := fun z hz => by
      simp only [List.getElem?_toArray]
      rw [List.getElem?_append_right (by simp; omega), List.getElem?_drop]
      congr 1; simp; omega
    have old : ∀ q1, q1 < its.length → (∀ r, r < 5 → (cI.take (q0 * 5) ++ [Value.int .i64 k, .int .i64 i, .string s, x, y] ++ cI.drop (q0 * 5)).toArray[q * 5 + r]? = cI.toArray[q1 * 5 + r]?) → (insAt q0 t its).getD q default = its.getD q1 default →
        ElemB (w3.setCell ⟨M, 3, none⟩ (.slice (some ⟨g, 0, none⟩) (its.length + 1) cap)) base d (Value.slice (some ⟨g, 0, none⟩) (its.length + 1) cap).ownBlock vK.ownBlock (cI.take (q0 * 5) ++ [Value.int .i64 k, .int .i64 i, .string s, x, y] ++ cI.drop (q0 * 5)).toArray q ((insAt q0 t its).getD q default) := fun q1 hq1 hr hd => by
      obtain ⟨a, b, e1, e2, e3, e4, e5⟩ := hG.el q1 hq1
      rw [hd]
      refine ⟨a, b, e1, by rw [set_size]; omega, fun k' hk' => ?_, e4, ?_⟩
      · injection hk' with hk'
        have hk' : g = k' := hk'
        subst hk'
        rcases h3 with e | e
        · exact e3 _ e
        · exact .inr (by omega)
      · have e6 := e5.kept (w' := w3.setCell ⟨M, 3, none⟩ (.slice (some ⟨g, 0, none⟩) (its.length + 1) cap)) fun k' k1 k2 => (by
          rw [heap_setCell_other _ _ _ _ (show k' ≠ M by omega)]
          exact hg1.block k' (by omega) (fun e => by rcases e3 k' e.symm with h | h <;> omega))
        obtain ⟨k0, i0, s0, x0, y0, c0, c1, c2, c3, c4, hv0⟩ := e6
        exact ⟨k0, i0, s0, x0, y0, (hr 0 (by omega)).trans c0, (hr 1 (by omega)).trans c1, (hr 2 (by omega)).trans c2, (hr 3 (by omega)).trans c3, (hr 4 (by omega)).trans c4, hv0⟩
    have hgd : ∀ z, (insAt q0 t its).getD z default = if z < q0 then its.getD z default else if z = q0 then t else its.getD (z - 1) default := fun z => by
      have hlt : (its.take q0).length = q0 := by rw [List.length_take]; omega
      unfold insAt
      rcases Nat.lt_trichotomy z q0 with hz | hz | hz
      · rw [if_pos hz]
        simp only [List.getD]
        rw [List.getElem?_append_left (by omega), List.getElem?_take_of_lt hz]
      · subst hz
        rw [if_neg (by omega), if_pos rfl]
        simp only [List.getD]
        rw [List.getElem?_append_right (by omega), hlt, Nat.sub_self]; rfl
      · rw [if_neg (by omega), if_neg (by omega)]
        simp only [List.getD]
        rw [List.getElem?_append_right (by omega), hlt, show z - q0 = (z - 1 - q0) + 1 by omega, List.getElem?_cons_succ, List.getElem?_drop]
        congr 2; omega
    rcases Nat.lt_trichotomy q q0 with hql | hql | hql
    · exact old q (by omega) (fun r hr => lo _ (by omega)) (by rw [hgd, if_pos hql])
    · subst hql
      rw [hgd, if_neg (by omega), if_pos rfl]
      refine ⟨w1.heap.size, w2.heap.size, hhigh, by rw [set_size]; omega, fun k' hk' => ?_, fun k' hk' => .inl (World.ownsRow.lt h.os _ hk').2, k, i, s, x, y, gl 0 (by omega), gl 1 (by omega), gl 2 (by omega), gl 3 (by omega), gl 4 (by omega), ?_⟩
      · injection hk' with hk'
        have hk' : g = k' := hk'
        subst hk'
        rcases h3 with e | e
        · exact .inl (h.ov.lt _ e).2
        · exact .inr (by omega)
      · refine hv.kept fun b b1 b2 => ?_
        rw [heap_setCell_other _ _ _ _ (show b ≠ M by omega)]
        exact hg1.block b (by omega) (fun e => by have := (h.ov.lt _ e.symm).2; omega)
    · exact old (q - 1) (by omega) (fun r hr => by rw [show q * 5 + r = ((q - 1) * 5 + r) + 5 by omega]; exact hi _ (by omega)) (by rw [hgd, if_neg (by omega), if_neg (by omega)])
end
end Go.Proofs.YtdkggnciamfcmaaGreatDoor

namespace Go.Proofs.YtdkggnciamfcmaaGreatDoor
set_option linter.unusedVariables false
open M (V Res)
namespace M

def Fwd {α : Type} (s : ByteArray) (i b : Nat) (r : Res α) : Prop := ∀ a j b', r = .ok a j b' → i ≤ j ∧ j ≤ s.size ∧ b ≤ b'
theorem Fwd.no {α : Type} {s : ByteArray} {i b k : Nat} {e : Int} : Fwd s i b (.no k e : Res α) := fun _ _ _ h => by cases h
theorem Fwd.ok {α : Type} {s : ByteArray} {i b j b' : Nat} {a : α} (h1 : i ≤ j) (h2 : j ≤ s.size) (h3 : b ≤ b') : Fwd s i b (.ok a j b') := fun _ _ _ h => by injection h with _ e1 e2; subst e1 e2; exact ⟨h1, h2, h3⟩
theorem Fwd.then {α β : Type} {s : ByteArray} {i b : Nat} {r : Res α} {f : α → Nat → Nat → Res β} (h : Fwd s i b r) (hf : ∀ a j b', i ≤ j → j ≤ s.size → b ≤ b' → Fwd s j b' (f a j b')) : Fwd s i b (r.then f) := by
  cases r with
  | no k e => exact Fwd.no
  | ok a j b' =>
    obtain ⟨h1, h2, h3⟩ := h a j b' rfl
    intro a2 j2 b2 h4
    obtain ⟨g1, g2, g3⟩ := hf a j b' h1 h2 h3 a2 j2 b2 h4
    exact ⟨by omega, g2, by omega⟩
section
variable {s : ByteArray} {i b : Nat} (hi : i ≤ s.size)
theorem fwd_take : Fwd s i b (take s i b) := fun a j b' h => by
  obtain ⟨h1, h2, h3, h4⟩ := take_inv h.symm
  omega
include hi in
theorem fwd_vis : Fwd s i b (vis s i b) := fun a j b' h => by
  obtain ⟨h1, h2, h3, h4⟩ := vis_inv h.symm
  have := skip_le hi
  omega
include hi in
theorem fwd_want (x c : Nat) : Fwd s i b (want x c i b) := by
  unfold want; split
  · exact Fwd.ok (Nat.le_refl _) hi (Nat.le_refl _)
  · exact Fwd.no
include hi in
theorem fwd_first (c : Nat) : Fwd s i b (first s c i b) := fun a j b' h => by
  have := first_inv hi h.symm
  omega
include hi in
theorem fwd_next (c : Nat) : Fwd s i b (next s c i b) := fun a j b' h => by
  have := next_inv hi h.symm
  omega
end
theorem fwd_word (s : ByteArray) : ∀ (l : List UInt8) (i b : Nat), i ≤ s.size → Fwd s i b (word s l i b)
  | [], i, b, hi => Fwd.ok (Nat.le_refl _) hi (Nat.le_refl _)
  | c :: l, i, b, hi => by
    rw [word]
    exact fwd_take.then fun a j b' h1 h2 h3 => (fwd_want h2 _ _).then fun _ j b _ h2 _ => fwd_word s l j b h2
theorem fwd_letter {s : ByteArray} {c i b : Nat} (hi : i ≤ s.size) (hc : c < 256) : Fwd s i b (letter s c i b) := fun a j b' h => by
  have := letter_inv hi hc h.symm
  omega
theorem fwd_litL (s : ByteArray) : ∀ (f : Nat) (acc : List UInt8) (c i b : Nat), i ≤ s.size → c < 256 → Fwd s i b (litL s f acc c i b)
  | 0, _, _, _, _, _, _ => Fwd.no
  | f + 1, acc, c, i, b, hi, hc => by
    rw [litL]
    split
    · exact Fwd.ok (Nat.le_refl _) hi (Nat.le_refl _)
    · refine (fwd_letter hi hc).then fun x j b' h1 h2 h3 => ?_
      obtain ⟨q, hq⟩ : ∃ q, q = take s j b' := ⟨_, rfl⟩
      rw [← hq]
      cases q with
      | no k e => exact Fwd.no
      | ok d k b2 =>
        obtain ⟨g1, g2, g3, g4⟩ := take_inv hq
        rw [Res.then_ok]
        have := fwd_litL s f (acc ++ [UInt8.ofNat x]) d k b2 (by omega) (by rw [g2]; exact ch_lt s j)
        intro a j2 b3 h4
        have := this a j2 b3 h4
        omega
theorem fwd_lit {s : ByteArray} {i b : Nat} : Fwd s i b (lit s i b) := by
  unfold lit
  obtain ⟨q, hq⟩ : ∃ q, q = take s i b := ⟨_, rfl⟩
  rw [← hq]
  cases q with
  | no k e => exact Fwd.no
  | ok d k b2 =>
    obtain ⟨g1, g2, g3, g4⟩ := take_inv hq
    rw [Res.then_ok]
    have hh : Fwd s i b (litL s (s.size + 1 - k) [] d k b2) := fun a j b' h => by
      have := fwd_litL s (s.size + 1 - k) [] d k b2 (by omega) (by rw [g2]; exact ch_lt s i) a j b' h
      omega
    refine hh.then fun l k b h1 h2 h3 => ?_
    split
    · exact Fwd.no
    · exact Fwd.ok (Nat.le_refl _) h2 (Nat.le_refl _)
theorem fwd_int {s : ByteArray} {c i b : Nat} (hi : i ≤ s.size) : Fwd s i b (int s c i b) := by
  unfold int
  have hl : Fwd s i b (lead s c i b) := by
    unfold lead
    split
    · refine fwd_take.then fun d j b h1 h2 h3 => ?_
      split
      · exact Fwd.no
      · exact Fwd.ok (Nat.le_refl _) h2 (Nat.le_refl _)
    · exact Fwd.ok (Nat.le_refl _) hi (Nat.le_refl _)
  refine hl.then fun d j b' h1 h2 h3 => ?_
  unfold tail
  have := digs_le h2
  split
  · exact Fwd.no
  · split
    · exact Fwd.ok (by omega) (by omega) (Nat.le_refl _)
    · exact Fwd.no
theorem fwd_pl {s : ByteArray} {p : Nat → Nat → Res V} (hp : ∀ i b, i ≤ s.size → Fwd s i b (p i b)) : ∀ (k : Nat) (acc : List V) (m : Bool) (i b : Nat), i ≤ s.size → Fwd s i b (pl s p k acc m i b)
  | 0, acc, false, i, b, hi => Fwd.ok (Nat.le_refl _) hi (Nat.le_refl _)
  | k + 1, acc, false, i, b, hi => Fwd.ok (Nat.le_refl _) hi (Nat.le_refl _)
  | 0, acc, true, i, b, hi => Fwd.no
  | k + 1, acc, true, i, b, hi => (hp i b hi).then fun t j b' _ h2 _ => (fwd_next h2 _).then fun m j b _ h2 _ => fwd_pl hp k _ m j b h2
theorem fwd_plist {s : ByteArray} {p : Nat → Nat → Res V} (hp : ∀ i b, i ≤ s.size → Fwd s i b (p i b)) {i b : Nat} (hi : i ≤ s.size) : Fwd s i b (plist s p i b) :=
  (fwd_first hi _).then fun m j b _ h2 _ => (fwd_pl hp _ _ m j b h2).then fun l j b _ h2 _ => Fwd.ok (Nat.le_refl _) h2 (Nat.le_refl _)
theorem fwd_nkey {s : ByteArray} {ks : List ByteArray} {i b : Nat} (hi : i ≤ s.size) : Fwd s i b (nkey s ks i b) :=
  (fwd_vis hi).then fun c j b _ h2 _ => (fwd_want h2 _ _).then fun _ j b _ h2 _ => fwd_lit.then fun k j2 b _ h2 _ => by
    split
    · exact Fwd.no
    · exact Fwd.ok (Nat.le_refl _) h2 (Nat.le_refl _)
theorem fwd_pm {s : ByteArray} {p : Nat → Nat → Res V} (hp : ∀ i b, i ≤ s.size → Fwd s i b (p i b)) : ∀ (k : Nat) (ks : List ByteArray) (its : List V) (m : Bool) (i b : Nat), i ≤ s.size → Fwd s i b (pm s p k ks its m i b)
  | 0, _, _, false, i, b, hi => Fwd.ok (Nat.le_refl _) hi (Nat.le_refl _)
  | k + 1, _, _, false, i, b, hi => Fwd.ok (Nat.le_refl _) hi (Nat.le_refl _)
  | 0, _, _, true, i, b, hi => Fwd.no
  | k + 1, _, _, true, i, b, hi => (fwd_nkey hi).then fun key j b _ h2 _ => (fwd_vis h2).then fun c j b _ h2 _ => (fwd_want h2 _ _).then fun _ j b _ h2 _ => (hp j b h2).then fun t j b' _ h2 _ => (fwd_next h2 _).then fun m j b _ h2 _ => fwd_pm hp k _ _ m j b h2
theorem fwd_ppairs {s : ByteArray} {p : Nat → Nat → Res V} (hp : ∀ i b, i ≤ s.size → Fwd s i b (p i b)) {i b : Nat} (hi : i ≤ s.size) : Fwd s i b (ppairs s p i b) :=
  (fwd_first hi _).then fun m j b _ h2 _ => (fwd_pm hp _ _ _ m j b h2).then fun l j b _ h2 _ => Fwd.ok (Nat.le_refl _) h2 (Nat.le_refl _)
theorem fwd_pbody {s : ByteArray} {p : Nat → Nat → Res V} (hp : ∀ i b, i ≤ s.size → Fwd s i b (p i b)) {c i b : Nat} (hi : i ≤ s.size) : Fwd s i b (pbody s p c i b) := by
  have hw : ∀ (l : List UInt8) (t : V), Fwd s i b ((word s l i b).then fun _ j b => (.ok t j b : Res V)) := fun l t => (fwd_word s l i b hi).then fun _ j b _ h2 _ => Fwd.ok (Nat.le_refl _) h2 (Nat.le_refl _)
  unfold pbody
  split
  · exact hw _ _
  split
  · exact hw _ _
  split
  · exact hw _ _
  split
  · exact fwd_lit.then fun _ j b _ h2 _ => Fwd.ok (Nat.le_refl _) h2 (Nat.le_refl _)
  split
  · exact fwd_plist hp hi
  split
  · exact fwd_ppairs hp hi
  · exact (fwd_int hi).then fun _ j b _ h2 _ => Fwd.ok (Nat.le_refl _) h2 (Nat.le_refl _)
theorem pv_on : ∀ (f : Nat) (s : ByteArray) (i b j b' : Nat) (t : V), i ≤ s.size → Res.ok t j b' = pv f s i b → i < j ∧ j ≤ s.size ∧ b < b'
  | 0, s, i, b, j, b', t, hi, h => by
    unfold pv at h
    obtain ⟨q, hq⟩ : ∃ q, q = bgn s 17 i b := ⟨_, rfl⟩
    rw [← hq] at h
    cases q with
    | no k e => cases h
    | ok c k b2 => cases h
  | f + 1, s, i, b, j, b', t, hi, h => by
    unfold pv at h
    obtain ⟨q, hq⟩ : ∃ q, q = bgn s (16 - f) i b := ⟨_, rfl⟩
    rw [← hq] at h
    cases q with
    | no k e => cases h
    | ok c k b2 =>
      obtain ⟨h1, h2, h3, h4, h5⟩ := bgn_inv hq
      have h6 := skip_le hi
      rw [Res.then_ok] at h
      have hp : ∀ i b, i ≤ s.size → Fwd s i b (pv f s i b) := fun i b hi a j b' hh => by
        have := pv_on f s i b j b' a hi hh.symm
        omega
      have := fwd_pbody hp (c := c) (b := b2) (show k ≤ s.size by omega) t j b' h.symm
      omega
end M
theorem steps_pv (f : Nat) : stepsOn (M.pv f) := fun s i b j b' t hi h => M.pv_on f s i b j b' t hi h
end Go.Proofs.YtdkggnciamfcmaaGreatDoor

namespace Go.Proofs.YtdkggnciamfcmaaGreatDoor
set_option linter.unusedVariables false
open M (V Res)
namespace M
open Go.Op (bytesLess)

theorem rise_none : Rise [] := fun i hi => absurd hi (by simp)
theorem insAt_len {α : Type} {p : Nat} {x : α} {l : List α} (h : p ≤ l.length) : (insAt p x l).length = l.length + 1 := by unfold insAt; simp; omega
theorem insAt_getD {α : Type} {d x : α} {q0 : Nat} {l : List α} (hq : q0 ≤ l.length) (z : Nat) : (insAt q0 x l).getD z d = if z < q0 then l.getD z d else if z = q0 then x else l.getD (z - 1) d := by
  have hlt : (l.take q0).length = q0 := by rw [List.length_take]; omega
  unfold insAt
  rcases Nat.lt_trichotomy z q0 with hz | hz | hz
  · rw [if_pos hz]
    simp only [List.getD]
    rw [List.getElem?_append_left (by omega), List.getElem?_take_of_lt hz]
  · subst hz
    rw [if_neg (by omega), if_pos rfl]
    simp only [List.getD]
    rw [List.getElem?_append_right (by omega), hlt, Nat.sub_self]; rfl
  · rw [if_neg (by omega), if_neg (by omega)]
    simp only [List.getD]
    rw [List.getElem?_append_right (by omega), hlt, show z - q0 = (z - 1 - q0) + 1 by omega, List.getElem?_cons_succ, List.getElem?_drop]
    congr 2; omega
theorem plc_le (ks : List ByteArray) (key : ByteArray) : plc ks key ≤ ks.length := by unfold plc; exact (List.takeWhile_sublist _).length_le
theorem plc_cons (k : ByteArray) (ks : List ByteArray) (key : ByteArray) : plc (k :: ks) key = if bytesLess k.toList key.toList = true then plc ks key + 1 else 0 := by
  unfold plc
  split
  · rename_i h; rw [List.takeWhile_cons_of_pos (by simpa using h), List.length_cons]
  · rename_i h; rw [List.takeWhile_cons_of_neg (by simpa using h)]; rfl
theorem plc_lt {key : ByteArray} : ∀ (ks : List ByteArray) (q : Nat), q < plc ks key → bytesLess (ks.getD q ByteArray.empty).toList key.toList = true
  | [], q, h => by simp [plc] at h
  | k :: ks, q, h => by
    rw [plc_cons] at h
    split at h
    · rename_i hk
      cases q with
      | zero => exact hk
      | succ q => simpa using plc_lt ks q (by omega)
    · omega
theorem plc_stop {key : ByteArray} : ∀ (ks : List ByteArray), plc ks key < ks.length → bytesLess (ks.getD (plc ks key) ByteArray.empty).toList key.toList = false
  | [], h => by simp at h
  | k :: ks, h => by
    rw [plc_cons] at h ⊢
    split at h
    · rename_i hk
      rw [if_pos hk]
      simpa using plc_stop ks (by simpa using h)
    · rename_i hk
      rw [if_neg hk]
      simpa using hk
theorem rise_ins {ks : List ByteArray} {key : ByteArray} (hr : Rise ks) (hn : ¬ (plc ks key < ks.length ∧ (ks.getD (plc ks key) ByteArray.empty).toList = key.toList)) : Rise (insAt (plc ks key) key ks) := by
  have hle := plc_le ks key
  intro i hi
  rw [insAt_len hle] at hi
  rw [insAt_getD hle, insAt_getD hle]
  rcases Nat.lt_trichotomy (i + 1) (plc ks key) with h | h | h
  · rw [if_pos (by omega), if_pos h]; exact hr i (by omega)
  · rw [if_pos (by omega), if_neg (by omega), if_pos h]
    exact plc_lt ks i (by omega)
  · rw [if_neg (show ¬ i + 1 < plc ks key by omega), if_neg (show ¬ i + 1 = plc ks key by omega)]
    rcases Nat.eq_or_lt_of_le (show plc ks key ≤ i by omega) with e | e
    · rw [if_neg (by omega), if_pos e.symm, ← e, Nat.add_sub_cancel]
      have h1 := plc_stop (key := key) ks (by omega)
      have h2 := less_flip_no h1
      rw [Bool.or_eq_true] at h2
      rcases h2 with h2 | h2
      · exact h2
      · exact absurd ⟨by omega, (by simpa using h2 : key.toList = _).symm⟩ hn
    · rw [if_neg (by omega), if_neg (by omega), Nat.add_sub_cancel]
      have := hr (i - 1) (by omega)
      rwa [show i - 1 + 1 = i by omega] at this
theorem nkey_new {s : ByteArray} {ks : List ByteArray} {i b j b' : Nat} {key : ByteArray} (h : Res.ok key j b' = nkey s ks i b) : key.size ≤ 4096 ∧ ¬ (plc ks key < ks.length ∧ (ks.getD (plc ks key) ByteArray.empty).toList = key.toList) := by
  unfold nkey at h
  obtain ⟨q, hq⟩ : ∃ q, q = vis s i b := ⟨_, rfl⟩
  rw [← hq] at h
  rcases q with ⟨c, j1, b1⟩ | ⟨k, e⟩
  rotate_left
  · cases h
  rw [Res.then_ok] at h
  obtain ⟨q, hq2⟩ : ∃ q, q = want 34 c j1 b1 := ⟨_, rfl⟩
  rw [← hq2] at h
  rcases q with ⟨u, j2, b2⟩ | ⟨k, e⟩
  rotate_left
  · cases h
  rw [Res.then_ok] at h
  obtain ⟨q, hq3⟩ : ∃ q, q = lit s j2 b2 := ⟨_, rfl⟩
  rw [← hq3] at h
  rcases q with ⟨x, j3, b3⟩ | ⟨k, e⟩
  rotate_left
  · cases h
  rw [Res.then_ok] at h
  split at h
  · cases h
  · rename_i hx
    injection h with e1 e2 e3
    subst e1
    exact ⟨lit_size hq3, hx⟩
theorem want_inv {x c i b j b' : Nat} {u : Unit} (h : Res.ok u j b' = want x c i b) : j = i ∧ b' = b ∧ c = x := by
  unfold want at h
  split at h
  · rename_i hc
    injection h with _ e2 e3
    exact ⟨e2, e3, hc⟩
  · cases h
end M
end Go.Proofs.YtdkggnciamfcmaaGreatDoor

namespace Go.Proofs.YtdkggnciamfcmaaGreatDoor
set_option linter.unusedVariables false
open Go.RowKit
open M (V Res)

theorem Grw.one {w : World} {base M0 d : Nat} {u0 u1 u2 vI vK : Value} {cI : List Value} {ks : List ByteArray} {its : List V} {T : TypeId} (h : Grw w base M0 d u0 u1 u2 vI vK cI ks its T) : ∀ u ∈ cI, u.oneCell' = true := by
  intro u hu
  obtain ⟨z, hz, rfl⟩ := List.mem_iff_getElem.1 hu
  have hl : cI.length = its.length * 5 := h.ov.1
  obtain ⟨a, b, _, _, _, _, k, i, s, x, y, c0, c1, c2, c3, c4, hv⟩ := h.el (z / 5) (by omega)
  obtain ⟨A, n, c, B, m, e, hv'⟩ := hv.agg
  injection hv' with hv'
  injection hv' with hv'
  simp only [List.cons.injEq, and_true] at hv'
  obtain ⟨-, -, -, rfl, rfl⟩ := hv'
  have hg : ∀ r u', z = z / 5 * 5 + r → cI.toArray[z / 5 * 5 + r]? = some u' → cI[z] = u' := fun r u' e1 e2 => by
    rw [← e1] at e2
    simp only [List.getElem?_toArray, List.getElem?_eq_getElem hz, Option.some.injEq] at e2
    exact e2
  have h5 : z % 5 = 0 ∨ z % 5 = 1 ∨ z % 5 = 2 ∨ z % 5 = 3 ∨ z % 5 = 4 := by omega
  rcases h5 with e | e | e | e | e
  · rw [hg 0 _ (by omega) c0]; rfl
  · rw [hg 1 _ (by omega) c1]; rfl
  · rw [hg 2 _ (by omega) c2]; rfl
  · rw [hg 3 _ (by omega) c3]; rfl
  · rw [hg 4 _ (by omega) c4]; rfl

set_option maxRecDepth 100000 in
set_option maxHeartbeats 4000000 in
theorem ppairs_any {f : Nat} (ih : parseAt f (M.pv f)) (hst : stepsOn (M.pv f)) (hf : f ≤ 16) : pairsAt f := by
  intro g i b s depth w hd h hD h8
  obtain ⟨r, hr⟩ : ∃ r, r = M.ppairs s (M.pv f s) i b := ⟨_, rfl⟩
  rw [← hr]
  have HR := Lib.hid hr
  clear hr
  have IH := Lib.hid ih
  have ST := Lib.hid hst
  have hq : IntKind.i64.wrap (depth + 1) = depth + 1 := IntWalk.i64_in _ (by omega)
  have HDE := Lib.hid hd
  have hgw := h.lt
  have hfit := h.fit
  have HDR := Lib.hid hD
  have hb0 := (Below.refl w.heap.size w).alloc (Nat.le_refl _) (.cells #[.int .i64 0, .int .i64 0, .string ByteArray.empty, .slice none 0 0, .slice none 0 0] 25)
  have hg2 : w.grownBy ((w.alloc (.cells #[.int .i64 0, .int .i64 0, .string ByteArray.empty, .slice none 0 0, .slice none 0 0] 25)).alloc (.cells #[.int .i64 5, .int .i64 0, .string ByteArray.empty, .slice none 0 0, .slice none 0 0] 25)) (some g) := (World.grownBy_alloc w _ (some g)).trans (World.grownBy_alloc _ _ (some g))
  have hz1 : (w.alloc (.cells #[.int .i64 0, .int .i64 0, .string ByteArray.empty, .slice none 0 0, .slice none 0 0] 25)).heap.size = w.heap.size + 1 := World.size_alloc _ _
  have hz2 : ((w.alloc (.cells #[.int .i64 0, .int .i64 0, .string ByteArray.empty, .slice none 0 0, .slice none 0 0] 25)).alloc (.cells #[.int .i64 5, .int .i64 0, .string ByteArray.empty, .slice none 0 0, .slice none 0 0] 25)).heap.size = w.heap.size + 1 + 1 := by rw [World.size_alloc, hz1]
  have hP1 : Prs ((w.alloc (.cells #[.int .i64 0, .int .i64 0, .string ByteArray.empty, .slice none 0 0, .slice none 0 0] 25)).alloc (.cells #[.int .i64 5, .int .i64 0, .string ByteArray.empty, .slice none 0 0, .slice none 0 0] 25)) g s i b := h.kept ((Below.heap_alloc _ _ _ (by omega)).trans (Below.heap_alloc _ _ _ hgw))
  have hZ2 : ((w.alloc (.cells #[.int .i64 0, .int .i64 0, .string ByteArray.empty, .slice none 0 0, .slice none 0 0] 25)).alloc (.cells #[.int .i64 5, .int .i64 0, .string ByteArray.empty, .slice none 0 0, .slice none 0 0] 25)).heap[w.heap.size]? = some (.cells #[.int .i64 0, .int .i64 0, .string ByteArray.empty, .slice none 0 0, .slice none 0 0] 25 (0, 0)) := (Below.heap_alloc _ _ _ (by omega)).trans (heap_alloc_new _ _)
  have hM2 : ((w.alloc (.cells #[.int .i64 0, .int .i64 0, .string ByteArray.empty, .slice none 0 0, .slice none 0 0] 25)).alloc (.cells #[.int .i64 5, .int .i64 0, .string ByteArray.empty, .slice none 0 0, .slice none 0 0] 25)).heap[w.heap.size + 1]? = some (.cells #[.int .i64 5, .int .i64 0, .string ByteArray.empty, .slice none 0 0, .slice none 0 0] 25 (0, 0)) := by rw [← hz1]; exact heap_alloc_new _ _
  clear ih hst hd h hD hb0 hz1
  go_enter Tryz.func49, Tryz.ntmps49
  go_wp2_with fail
  refine (first_any 125 hP1).mono ?_
  rintro e w2 ⟨hg3, hm⟩
  obtain ⟨q, hq⟩ : ∃ q, q = M.first s 125 i b := ⟨_, rfl⟩
  rw [← hq] at hm
  have HR2 : Hid (r = q.then fun m j b => (M.pm s (M.pv f s) (s.size + 1 - j) [] [] m j b).then fun r j b => .ok (.mk 5 0 ByteArray.empty r.2 r.1) j b) := Lib.hid (by rw [HR.out, hq]; rfl)
  rcases q with ⟨mo, j0, b0⟩ | ⟨kk, er⟩
  rotate_left
  · subst hm
    exact ⟨rfl, Ends.fault (hg2.trans hg3) (by rw [HR2.out]; rfl)⟩
  obtain ⟨v, rfl, hP2, rfl⟩ := hm
  obtain ⟨q1, q2, q3⟩ := M.first_inv hP1.le hq
  obtain ⟨R, hRd⟩ : ∃ R, R = M.pm s (M.pv f s) (s.size + 1 - j0) [] [] mo j0 b0 := ⟨_, rfl⟩
  have HR3 : Hid (r = R.then fun r j b => .ok (.mk 5 0 ByteArray.empty r.2 r.1) j b) := Lib.hid (by rw [HR2.out, hRd]; rfl)
  have HRD := Lib.hid hRd.symm
  have hz3 := hg3.size
  have HZ2 : Hid (w2.heap[w.heap.size]? = some (.cells #[.int .i64 0, .int .i64 0, .string ByteArray.empty, .slice none 0 0, .slice none 0 0] 25 (0, 0))) := Lib.hid ((hg3.block w.heap.size (by omega) (fun e => by injection e; omega)).trans hZ2)
  have hM3 : w2.heap[w.heap.size + 1]? = some (.cells #[.int .i64 5, .int .i64 0, .string ByteArray.empty, .slice none 0 0, .slice none 0 0] 25 (0, 0)) := (hg3.block (w.heap.size + 1) (by omega) (fun e => by injection e; omega)).trans hM2
  have HGR : Hid (Grw w2 (w.heap.size + 1 + 1) (w.heap.size + 1) (f + 1) (.int .i64 5) (.int .i64 0) (.string ByteArray.empty) (.slice none 0 0) (.slice none 0 0) [] [] [] 25) := Lib.hid (Grw.start hM3 (by omega) (by omega))
  have HP2 := Lib.hid hP2
  have HG2 := Lib.hid (hg2.trans hg3)
  obtain ⟨N, hN⟩ : ∃ N, N = w.heap.size + 1 := ⟨_, rfl⟩
  rw [← hN] at HGR
  have hNz : w.heap.size < N := by omega
  clear hg2 hP1 hM2 hZ2 hz2 hg3 hq hP2 q3 hRd hM3 hz3 HR HR2
  go_wp2_with fail
  rw [← hN]
  clear hN
  go_loopw [6] (fun mv wr => ∃ (mo : Bool) (fu j bj : Nat) (vI vK : Value) (cI : List Value) (ks : List ByteArray) (its : List V), mv = .bool mo ∧ Hid (Grw wr (N + 1) N (f + 1) (.int .i64 5) (.int .i64 0) (.string ByteArray.empty) vI vK cI ks its 25) ∧
      Hid (wr.heap[w.heap.size]? = some (.cells #[.int .i64 0, .int .i64 0, .string ByteArray.empty, .slice none 0 0, .slice none 0 0] 25 (0, 0))) ∧ Hid (Prs wr g s j bj) ∧ Hid (w.grownBy wr (some g)) ∧ Hid (M.pm s (M.pv f s) fu ks its mo j bj = R) ∧ s.size + 1 ≤ fu + j ∧ Hid (its.length ≤ bj) ∧ Hid (ks.length = its.length) ∧ Hid (M.Rise ks) ∧ Hid (∀ q, q < ks.length → (ks.getD q ByteArray.empty).size ≤ 140737488351232)) (fun _ wr => s.size - atOf wr g)
  case atStart => exact ⟨mo, s.size + 1 - j0, j0, b0, _, _, [], [], [], rfl, HGR, HZ2, HP2, HG2, HRD, by omega, Lib.hid (Nat.zero_le _), Lib.hid rfl, Lib.hid M.rise_none, Lib.hid (fun q h => absurd h (by simp))⟩
  case round =>
    clear HGR HZ2 HP2 HG2 HRD
    obtain ⟨mo, fu, j, bj, vI, vK, cI, ks, its, rfl, HG, HZ, HP, HW, HE, hfu, HL, HKL, HRI, HKZ⟩ := hrel
    have hhi := HG.out.high
    have hjs := HP.out.le
    have HAT := Lib.hid (atOf_eq HP.out)
    have hhlt : wr.heap.size > N := by omega
    have hhlz : wr.heap.size > w.heap.size := by omega
    have HLEN : Hid (its.length ≤ 1000) := Lib.hid (by have := HL.out; have := HP.out.cnt; omega)
    obtain ⟨A7, c7, B7, e7, rfl, rfl, his, hks⟩ := HG.out.done (by have := HLEN.out; omega) (by have := HLEN.out; have := HKL.out; omega) HKZ.out
    obtain ⟨m0, m1, m2, m3, m4, -⟩ := lit5 HG.out.box
    have HIS := Lib.hid his; have HKS := Lib.hid hks
    clear his hks
    cases mo with
    | false =>
      obtain ⟨g0, g1, g2', g3, g4, e0, e1, e2, e3, e4⟩ := lit5 HZ.out
      have HE' : Hid (r = .ok (.mk 5 0 ByteArray.empty its ks) j bj) := Lib.hid (by rw [HR3.out, ← HE.out]; cases fu <;> rfl)
      clear HL HE
      go_wp2_with fail
      have hfin := lit_stored HZ.out (.int .i64 5) (.int .i64 0) (.string ByteArray.empty) (.slice A7 its.length c7) (.slice B7 ks.length e7)
      refine bodyPost_ret (v := .agg #[.int .i64 5, .int .i64 0, .string ByteArray.empty, .slice A7 its.length c7, .slice B7 ks.length e7]) (results_cell_row Tryz.results49 _ _ w.heap.size 25 _ (0, 0) _ rfl hfin Tryz.underlying25 rfl (by kernel_rfl)) rfl ?_
      exact value_end (t := .mk 5 0 ByteArray.empty its ks) hgw (show w.heap.size < N + 1 by omega) ⟨A7, its.length, c7, B7, ks.length, e7, rfl, by simp [V.k], by simp [V.k], by simp [V.n], by simp [V.n], by simp [V.s], HIS.out, HKS.out⟩ HP.out HW.out HE'
    | true =>
      obtain ⟨fu, rfl⟩ : ∃ k, fu = k + 1 := ⟨fu - 1, by omega⟩
      go_wp2_with fail
      refine (nkey_any HP.out HKS.out (Nat.le_refl _) (.inl (by omega)) HRI.out).mono ?_
      obtain ⟨q, hq⟩ : ∃ q, q = M.nkey s ks j bj := ⟨_, rfl⟩
      have HE2 : Hid (R = (q.then fun key j b => (M.vis s j b).then fun c j b => (M.want 58 c j b).then fun _ j b => (M.pv f s j b).then fun t j b => (M.next s 125 j b).then fun m j b => M.pm s (M.pv f s) fu (M.insAt (M.plc ks key) key ks) (M.insAt (M.plc ks key) t its) m j b)) := Lib.hid (by rw [← HE.out, hq]; rfl)
      rintro e w3 ⟨hg3, hm⟩
      rw [← hq] at hm
      rcases q with ⟨key, j3, b3⟩ | ⟨kk, er⟩
      rotate_left
      · subst hm
        exact ⟨rfl, Ends.fault (HW.out.trans hg3) (by rw [HR3.out, HE2.out]; rfl)⟩
      obtain ⟨v, rfl, hP3, rfl⟩ := hm
      have hz3 := hg3.size
      have HG3 := Lib.hid (HG.out.frm (Frm.of_only (B := 0) hg3) (by omega) (by omega))
      have HZ3 : Hid (w3.heap[w.heap.size]? = _) := Lib.hid ((hg3.block w.heap.size (by omega) (fun e => by injection e; omega)).trans HZ.out)
      have HW3 := Lib.hid (HW.out.trans hg3)
      have HP3 := Lib.hid hP3
      have HE3 : Hid (R = ((M.vis s j3 b3).then fun c j b => (M.want 58 c j b).then fun _ j b => (M.pv f s j b).then fun t j b => (M.next s 125 j b).then fun m j b => M.pm s (M.pv f s) fu (M.insAt (M.plc ks key) key ks) (M.insAt (M.plc ks key) t its) m j b)) := Lib.hid HE2.out
      have HJ3 : Hid (j ≤ j3 ∧ bj ≤ b3) := Lib.hid (by have := M.fwd_nkey hjs key j3 b3 hq.symm; omega)
      have HNEW := Lib.hid (M.nkey_new hq)
      clear hq hP3 hg3 HG HZ HW HP HE HE2 m0 m1 m2 m3 m4
      go_wp2_with fail
      refine (vis_any HP3.out).mono ?_
      rintro e w4 ⟨hg4, hm⟩
      obtain ⟨q, hq⟩ : ∃ q, q = M.vis s j3 b3 := ⟨_, rfl⟩
      rw [← hq] at hm HE3
      rcases q with ⟨c4, j4, b4⟩ | ⟨kk, er⟩
      rotate_left
      · subst hm
        exact ⟨rfl, Ends.fault (HW3.out.trans hg4) (by rw [HR3.out, HE3.out]; rfl)⟩
      obtain ⟨v, rfl, hP4, rfl⟩ := hm
      obtain ⟨r1, r2, r3, r4⟩ := M.vis_inv hq
      have hj4 : 0 < j4 := by omega
      have HJ4 : Hid (j < j4 ∧ bj ≤ b4) := Lib.hid (by have h1 := HJ3.out; have h2 := M.skip_le HP3.out.le; omega)
      have HE4 : Hid (R = ((M.want 58 c4 j4 b4).then fun _ j b => (M.pv f s j b).then fun t j b => (M.next s 125 j b).then fun m j b => M.pm s (M.pv f s) fu (M.insAt (M.plc ks key) key ks) (M.insAt (M.plc ks key) t its) m j b)) := Lib.hid HE3.out
      have hz4 := hg4.size
      have hh3 := HG3.out.high
      have HG4 := Lib.hid (HG3.out.frm (Frm.of_only (B := 0) hg4) (by omega) (by omega))
      have HZ4 : Hid (w4.heap[w.heap.size]? = _) := Lib.hid ((hg4.block w.heap.size (by omega) (fun e => by injection e; omega)).trans HZ3.out)
      have HW4 := Lib.hid (HW3.out.trans hg4)
      have HP4 := Lib.hid hP4
      clear hq hP4 hg4 HG3 HZ3 HW3 HP3 HE3 r1 r2 r3 r4
      go_wp2_with fail
      refine (want_any 58 c4 HP4.out hj4).mono ?_
      rintro e w5 ⟨hg5, hm⟩
      obtain ⟨q, hq⟩ : ∃ q, q = M.want 58 c4 j4 b4 := ⟨_, rfl⟩
      rw [← hq] at hm HE4
      rcases q with ⟨u5, j5, b5⟩ | ⟨kk, er⟩
      rotate_left
      · subst hm
        exact ⟨rfl, Ends.fault (HW4.out.trans hg5) (by rw [HR3.out, HE4.out]; rfl)⟩
      obtain ⟨v, rfl, hP5, rfl⟩ := hm
      have HE5 : Hid (R = ((M.pv f s j5 b5).then fun t j b => (M.next s 125 j b).then fun m j b => M.pm s (M.pv f s) fu (M.insAt (M.plc ks key) key ks) (M.insAt (M.plc ks key) t its) m j b)) := Lib.hid HE4.out
      have HJ5 : Hid (j < j5 ∧ bj ≤ b5) := Lib.hid (by have h1 := HJ4.out; obtain ⟨h2, h3, -⟩ := M.want_inv hq; omega)
      have hz5 := hg5.size
      have hh4 := HG4.out.high
      have HG5 := Lib.hid (HG4.out.frm (Frm.of_only (B := 0) hg5) (by omega) (by omega))
      have HZ5 : Hid (w5.heap[w.heap.size]? = _) := Lib.hid ((hg5.block w.heap.size (by omega) (fun e => by injection e; omega)).trans HZ4.out)
      have HW5 := Lib.hid (HW4.out.trans hg5)
      have HP5 := Lib.hid hP5
      obtain ⟨m0, m1, m2, m3, m4, -⟩ := lit5 HG5.out.box
      obtain ⟨pl, hpl⟩ : ∃ pl, pl = M.plc ks key := ⟨_, rfl⟩
      rw [← hpl] at HE5 ⊢
      have HPL := Lib.hid hpl
      clear hq hP5 hg5 HG4 HZ4 HW4 HP4 HE4 hpl
      have hh5 := HG5.out.high
      have hhlt5 : w5.heap.size > N := by omega
      go_wp2_with fail
      have hpl2 : pl ≤ ks.length := by rw [HPL.out]; unfold M.plc; exact (List.takeWhile_sublist _).length_le
      have hbox : (w5.alloc (.cells #[.string key] 9)).heap[w5.heap.size]? = some (.cells #[.string key] 9 (0, 0)) := heap_alloc_new _ _
      have hnb : (Value.slice B7 ks.length e7).ownBlock ≠ some w5.heap.size := fun e => by have := (World.ownsRow.lt HG5.out.os _ e).2; omega
      have hLEN := HLEN.out; have hKL := HKL.out
      refine (insk_any (base := N + 1) hpl2 (World.ownsRow.alloc HG5.out.os _) (fun u hu => by obtain ⟨x, -, rfl⟩ := List.mem_map.1 hu; rfl) hbox hnb (by omega) (by rw [World.size_alloc]; omega)).mono ?_
      rintro e w6 ⟨g6, cap6, rfl, ho6, hgr6, hr6, hl6⟩
      have hsz6 := hgr6.size
      rw [World.size_alloc] at hsz6 hr6
      have hMn : some N ≠ (Value.slice B7 ks.length e7).ownBlock := HG5.out.ne2
      have hM6 := (hgr6.block N (by rw [World.size_alloc]; omega) hMn).trans ((Below.heap_alloc w5 _ _ (by omega)).trans HG5.out.box)
      have hmap : (M.insAt pl key ks).map Value.string = (ks.map Value.string).take pl ++ [.string key] ++ (ks.map Value.string).drop pl := by unfold M.insAt; rw [List.map_append, List.map_cons, List.map_take, List.map_drop]; simp
      have HG6 := Lib.hid (Grw.keyAt (l := g) (B := 0) (ks2 := M.insAt pl key ks) (by simp [M.insAt]; omega) HG5.out (Frm.refl _ _ _ w5) (by omega) (by omega) (by rw [hmap]; exact ho6) hgr6 hr6)
      obtain ⟨n0, n1, n2, n3, n4, f0, f1, f2, f3, f4⟩ := lit5 hM6
      have hl6N : w6.heap.size > N := by omega
      clear hbox hnb hmap m0 m1 m2 m3 m4 hKL hLEN
      go_wp2_with fail
      have p6 : ∀ k, k < N → (w6.setCell ⟨N, 4, none⟩ (.slice (some ⟨g6, 0, none⟩) (ks.length + 1) cap6)).heap[k]? = w5.heap[k]? := fun k hk => by
        rw [heap_setCell_other _ _ _ _ (show k ≠ N by omega)]
        refine (hgr6.block k (by rw [World.size_alloc]; omega) (fun e => ?_)).trans (Below.heap_alloc w5 _ _ (by omega))
        have := (World.ownsRow.lt HG5.out.os _ e.symm).1; omega
      have HP6 := Lib.hid (HP5.out.kept (p6 g (by omega)))
      have HZ6 := Lib.hid ((p6 w.heap.size hNz).trans HZ5.out)
      have hsw := HW5.out.size
      have HW6 : Hid (w.grownBy (w6.setCell ⟨N, 4, none⟩ (.slice (some ⟨g6, 0, none⟩) (ks.length + 1) cap6)) (some g)) := Lib.hid ⟨hgr6.os.trans HW5.out.os, hgr6.tape.trans HW5.out.tape, hgr6.output.trans HW5.out.output, by rw [set_size]; omega, fun k h1 h2 => (p6 k (by omega)).trans (HW5.out.block k h1 h2)⟩
      clear n0 n1 n2 n3 n4 f0 f1 f2 f3 f4 hM6 hgr6 ho6 hr6 hl6 p6 HG5 HP5 HZ5 HW5 hl6N hsz6 hMn
      generalize (w6.setCell ⟨N, 4, none⟩ (.slice (some ⟨g6, 0, none⟩) (ks.length + 1) cap6)) = wk at *
      obtain ⟨m0, m1, m2, m3, m4, -⟩ := lit5 HG6.out.box
      have hhi6 := HG6.out.high
      have hhk : wk.heap.size > N := by omega
      have hjs5 := HP6.out.le
      have hcall : Calls Tryz.prog 26 #[.pointer (some ⟨g, 0, none⟩), .int .i64 (depth + 1)] wk.drew (Ends g s (isVal (f + 1) wk.drew.heap.size) (M.pv f s j5 b5) wk.drew) :=
        IH.out g j5 b5 s (depth + 1) wk.drew (by have := HDE.out; omega) (HP6.out.kept rfl) (HDR.out.grown (HW6.out.trans (grown_drewN wk 1 _)) h8) h8
      obtain ⟨q, hq⟩ : ∃ q, q = M.pv f s j5 b5 := ⟨_, rfl⟩
      rw [← hq] at hcall HE5
      have HC := Lib.hid hcall
      have HSO : Hid (∀ t j' b', q = .ok t j' b' → j5 < j' ∧ j' ≤ s.size ∧ b5 < b') := Lib.hid (fun t j' b' e => ST.out s j5 b5 j' b' t hjs5 (e.symm.trans hq))
      clear hcall hq
      go_region_law (first
        | (go_simp; go_at_call 82
           refine (insv_any (base := N + 1) (q := pl) hpl3 (World.ownsRow.alloc HG7.out.ov _) hone7 (heap_alloc_new _ _) hnb7 (by have := HLEN.out; omega) (by rw [World.size_alloc]; omega)).mono ?_
           rintro e w8 ⟨g8, cap8, rfl, ho8, hgr8, hr8, hl8⟩
           have hsz8 := hgr8.size
           rw [World.size_alloc] at hsz8 hr8
           have hM8 := (hgr8.block N (by rw [World.size_alloc]; omega) HG7.out.ne1).trans ((Below.heap_alloc w7 _ _ (by omega)).trans HG7.out.box)
           obtain ⟨n0, n1, n2, n3', n4, f0, f1, f2, f3, f4⟩ := lit5 hM8
           have hl8N : w8.heap.size > N := by omega)
        | (go_simp; go_at_call 26
           refine HC.out.mono ?_
           rintro e w7 ⟨hg7, hm⟩
           have hgw7 : wk.grownBy w7 (some g) := ⟨hg7.os, hg7.tape, hg7.output, hg7.size, hg7.block⟩
           rcases q with ⟨t, j7, b7⟩ | ⟨kk, er⟩
           rotate_left
           · subst hm
             exact ⟨rfl, Ends.fault (HW6.out.trans hgw7) (by rw [HR3.out, HE5.out]; rfl)⟩
           obtain ⟨v', rfl, hP7, hv'⟩ := hm
           have hv' : VB w7 wk.heap.size w7.heap.size (f + 1) v' t := hv'
           obtain ⟨A3, n3, c3, B3, p3, e3, rfl⟩ := hv'.agg
           have HG7 := Lib.hid (HG6.out.frm (Frm.of_only (B := 0) hgw7) (by omega) (by omega))
           have hz7 := hgw7.size
           have hms7 : w7.heap.size > N := by omega
           obtain ⟨o0, o1, o2, o3, o4, -⟩ := lit5 HG7.out.box
           have hpl3 : pl ≤ its.length := by have := HKL.out; omega
           have hnb7 : (Value.slice A7 its.length c7).ownBlock ≠ some w7.heap.size := fun e => by have := (World.ownsRow.lt HG7.out.ov _ e).2; omega
           have hone7 : ∀ u ∈ cI, u.oneCell' = true := HG7.out.one))
      all_goals (
        have p8 : ∀ k, k < N → (w8.setCell ⟨N, 3, none⟩ (.slice (some ⟨g8, 0, none⟩) (its.length + 1) cap8)).heap[k]? = w7.heap[k]? := fun k hk => by
          rw [heap_setCell_other _ _ _ _ (show k ≠ N by omega)]
          refine (hgr8.block k (by rw [World.size_alloc]; omega) (fun e => ?_)).trans (Below.heap_alloc w7 _ _ (by omega))
          have := (World.ownsRow.lt HG7.out.ov _ e.symm).1; omega
        have HG8 := Lib.hid (Grw.itemAt (l := g) (B := 0) (q0 := pl) hpl3 HG6.out (Frm.of_only (B := 0) hgw7) (by omega) (by omega) hv' ho8 hgr8 hr8)
        have HP8 := Lib.hid (hP7.kept (p8 g (by omega)))
        have HZ8 := Lib.hid ((p8 w.heap.size hNz).trans ((hgw7.block w.heap.size (by omega) (fun e => by injection e; omega)).trans HZ6.out))
        have hsw7 := (HW6.out.trans hgw7).size
        have HW8 : Hid (w.grownBy (w8.setCell ⟨N, 3, none⟩ (.slice (some ⟨g8, 0, none⟩) (its.length + 1) cap8)) (some g)) := Lib.hid ⟨hgr8.os.trans (HW6.out.trans hgw7).os, hgr8.tape.trans (HW6.out.trans hgw7).tape, hgr8.output.trans (HW6.out.trans hgw7).output, by rw [set_size]; omega, fun k h1 h2 => (p8 k (by omega)).trans ((HW6.out.trans hgw7).block k h1 h2)⟩
        have hpk : pl ≤ ks.length := hpl2
        have HPK : Hid (pl ≤ ks.length ∧ pl ≤ its.length) := Lib.hid ⟨hpl2, hpl3⟩
        obtain ⟨s1, s2, s3⟩ := HSO.out _ _ _ rfl
        have HSZ := Lib.hid (And.intro s1 s3)
        have HE6 : Hid (R = (M.next s 125 j7 b7).then fun m j b => M.pm s (M.pv f s) fu (M.insAt pl key ks) (M.insAt pl t its) m j b) := Lib.hid HE5.out
        clear HSO s1 s3 HE5 n0 n1 n2 n3' n4 f0 f1 f2 f3 f4 hM8 hgr8 ho8 hr8 hl8 p8 HG6 HG7 hP7 HZ6 HW6 hl8N hsz8 hone7 hnb7 o0 o1 o2 o3 o4 hms7 hz7 hgw7 hg7 hv' HC m0 m1 m2 m3 m4 hpl2 hpl3 hpk
        generalize (w8.setCell ⟨N, 3, none⟩ _) = wf at *
        go_wp2_with fail
        refine (next_any 125 HP8.out).mono ?_
        rintro e w9 ⟨hg9, hm⟩
        obtain ⟨q, hq⟩ : ∃ q, q = M.next s 125 j7 b7 := ⟨_, rfl⟩
        rw [← hq] at hm HE6
        rcases q with ⟨mo2, j9, b9⟩ | ⟨kk, er⟩
        rotate_left
        · subst hm
          exact ⟨rfl, Ends.fault (HW8.out.trans hg9) (by rw [HR3.out, HE6.out]; rfl)⟩
        obtain ⟨v, rfl, hP9, rfl⟩ := hm
        obtain ⟨r1, r2, r3⟩ := M.next_inv s2 hq
        have HP9 := Lib.hid hP9
        have HW9 := Lib.hid (HW8.out.trans hg9)
        have hF9 : Frm wf.heap.size g 0 wf w9 := Frm.of_only hg9
        have hzf := HG8.out.high
        have HG9 := Lib.hid (HG8.out.frm hF9 (by omega) (by omega))
        have HZ9 := Lib.hid ((hg9.block w.heap.size (by omega) (fun e => by injection e; omega)).trans HZ8.out)
        have HE7 : Hid (M.pm s (M.pv f s) fu (M.insAt pl key ks) (M.insAt pl t its) mo2 j9 b9 = R) := Lib.hid HE6.out.symm
        have hms : s.size - j9 < s.size - j := by have := HSZ.out.1; have := HJ5.out.1; omega
        have HMS := Lib.hid hms
        have HAT9 := Lib.hid (atOf_eq hP9)
        have hfu2 : s.size + 1 ≤ fu + j9 := by have := HSZ.out.1; have := HJ5.out.1; omega
        have HL2 : Hid ((M.insAt pl t its).length ≤ b9) := Lib.hid (by rw [M.insAt_len HPK.out.2]; have := HSZ.out.2; have := HL.out; have := HJ5.out.2; omega)
        have HKL2 : Hid ((M.insAt pl key ks).length = (M.insAt pl t its).length) := Lib.hid (by rw [M.insAt_len HPK.out.2, M.insAt_len HPK.out.1, HKL.out])
        have HRI2 : Hid (M.Rise (M.insAt pl key ks)) := Lib.hid (by rw [HPL.out]; exact M.rise_ins HRI.out HNEW.out.2)
        have HKZ2 : Hid (∀ q, q < (M.insAt pl key ks).length → ((M.insAt pl key ks).getD q ByteArray.empty).size ≤ 140737488351232) := Lib.hid (fun q hq => by
          rw [M.insAt_len HPK.out.1] at hq
          rw [M.insAt_getD HPK.out.1]
          split
          · exact HKZ.out q (by have := HPK.out.1; omega)
          · split
            · exact Nat.le_trans HNEW.out.1 (by decide)
            · exact HKZ.out (q - 1) (by omega))
        clear hP9 hg9 hF9 hq r1 r2 r3 hms HG8 HP8 HZ8 HW8 HE6
        go_wp2_with fail
        exact ⟨⟨mo2, fu, j9, b9, _, _, _, M.insAt pl key ks, M.insAt pl t its, rfl, HG9, HZ9, HP9, HW9, HE7, hfu2, HL2, HKL2, HRI2, HKZ2⟩, by rw [HAT9.out, HAT.out]; exact HMS.out⟩)
end Go.Proofs.YtdkggnciamfcmaaGreatDoor

namespace Go.Proofs.YtdkggnciamfcmaaGreatDoor
set_option linter.unusedVariables false
open Go.RowKit
open M (V)
set_option maxRecDepth 100000

def exV : V := .mk 5 0 ByteArray.empty [.mk 4 0 ByteArray.empty [V.null, .mk 1 1 ByteArray.empty [] []] [], .mk 2 (-5) ByteArray.empty [] []] [⟨#[97]⟩, ⟨#[98]⟩]
theorem ex1 : M.parse ⟨#[123, 34, 98, 34, 58, 32, 45, 53, 44, 32, 34, 97, 34, 32, 58, 91, 110, 117, 108, 108, 44, 116, 114, 117, 101, 93, 125]⟩ = (exV, 0, 0) := by kernel_rfl
theorem ex2 : M.parse ⟨#[123, 34, 97, 34, 58, 32, 48, 49, 125]⟩ = (V.null, 7, 3) := by kernel_rfl
theorem ex3 : M.parse ⟨#[123, 34, 97, 34, 58, 32, 49, 44, 32, 34, 97, 34, 58, 32, 50, 125]⟩ = (V.null, 9, 9) := by kernel_rfl
theorem ex4 : M.parse ⟨#[91, 49, 44]⟩ = (V.null, 3, 4) := by kernel_rfl
theorem ex5s : Go.Op.bytesLess (([⟨#[97]⟩, ⟨#[98]⟩] : List ByteArray).getD 0 ByteArray.empty).toList (([⟨#[97]⟩, ⟨#[98]⟩] : List ByteArray).getD 1 ByteArray.empty).toList = true := by kernel_rfl
theorem ex5r : M.rise [⟨#[97]⟩, ⟨#[98]⟩] = true := M.rise_yes (fun i hi => by
  match i, hi with
  | 0, _ => exact ex5s
  | n + 1, hi => exfalso; simp at hi; omega)
theorem ex5w : exV.wf = M.rise [⟨#[97]⟩, ⟨#[98]⟩] := by
  have h1 : exV.wf = (M.rise [⟨#[97]⟩, ⟨#[98]⟩] && true) := by kernel_rfl
  rw [h1, Bool.and_true]
theorem ex5a : exV.right = true := by
  have h : (exV.within && !exV.fut) = true := by kernel_rfl
  unfold V.right
  rw [ex5w, ex5r, Bool.true_and]; exact h
theorem ex5b : Lib.itoa (-5) = [45, 53] := by
  have h := Lib.itoa_neg 5 (by decide)
  rw [show ((5 : Nat) : Int) = 5 from rfl] at h
  rw [h, Lib.decDigits, dif_pos (by decide)]
  decide
theorem ex5c : M.txt exV = [123, 34, 97, 34, 58, 32, 91, 110, 117, 108, 108, 44, 32, 116, 114, 117, 101, 93, 44, 32, 34, 98, 34, 58, 32, 45, 53, 125] := by
  have h : M.txt (.mk 2 (-5) ByteArray.empty [] []) = [45, 53] := by rw [M.txt_int, ex5b]
  have h2 : M.txt (.mk 4 0 ByteArray.empty [V.null, .mk 1 1 ByteArray.empty [] []] []) = [91, 110, 117, 108, 108, 44, 32, 116, 114, 117, 101, 93] := by kernel_rfl
  unfold exV
  rw [M.txt_map, M.txtp, M.txtp, M.txtp, h, h2]
  decide
theorem ex5 : M.print exV = (⟨#[123, 34, 97, 34, 58, 32, 91, 110, 117, 108, 108, 44, 32, 116, 114, 117, 101, 93, 44, 32, 34, 98, 34, 58, 32, 45, 53, 125]⟩, 0) := by
  unfold M.print
  rw [if_pos ex5a, ex5c]
  rfl
theorem ex6 : tstr (M.quote (⟨#[97, 10, 7]⟩ : ByteArray).data.toList) = ⟨#[34, 97, 92, 110, 92, 120, 48, 55, 34]⟩ := by kernel_rfl
theorem ex7 : (M.txt exV).length ≤ 140737488355000 := by
  rw [ex5c]; decide
end Go.Proofs.YtdkggnciamfcmaaGreatDoor

namespace Go.Proofs.YtdkggnciamfcmaaGreatDoor
set_option linter.unusedVariables false
open Go.RowKit
open M (V Res)

set_option maxRecDepth 100000 in
set_option maxHeartbeats 4000000 in
theorem value0_any : parseAt 0 (M.pv 0) := by
  intro g i b s depth w hd h hD h8
  obtain ⟨r, hr⟩ : ∃ r, r = M.pv 0 s i b := ⟨_, rfl⟩
  rw [← hr]
  have hd2 : depth = ((17 : Nat) : Int) := by omega
  have HR1 : Hid (r = (M.bgn s 17 i b).then fun _ j _ => .no j 7) := Lib.hid (by rw [hr]; rfl)
  subst hd2
  clear hr hd
  have hgw := h.lt
  have hP1 : Prs (w.alloc (.cells #[.int .i64 0, .int .i64 0, .string ByteArray.empty, .slice none 0 0, .slice none 0 0] 25)) g s i b := h.kept (Below.heap_alloc _ _ _ hgw)
  have hG1 : w.grownBy (w.alloc (.cells #[.int .i64 0, .int .i64 0, .string ByteArray.empty, .slice none 0 0, .slice none 0 0] 25)) (some g) := World.grownBy_alloc w _ (some g)
  have HP1 := Lib.hid hP1; have HG1 := Lib.hid hG1
  clear h hD hP1 hG1
  have hcall : ∀ W, Prs W g s i b → Calls Tryz.prog 43 #[.pointer (some ⟨g, 0, none⟩), .int .i64 17] W (Ends g s isByte (M.bgn s 17 i b) W) := fun W hW => bgn_any 17 hW (by omega)
  go_enter Tryz.func26, Tryz.ntmps26
  go_wp2_with fail
  refine (hcall _ HP1.out).mono ?_
  rintro e w2 ⟨hg2, hm⟩
  obtain ⟨q, hq⟩ : ∃ q, q = M.bgn s 17 i b := ⟨_, rfl⟩
  rw [← hq] at hm
  rcases q with ⟨c, j, b'⟩ | ⟨kk, er⟩
  · exact absurd (M.bgn_inv hq).2.2.2.2 (by omega)
  · subst hm
    exact ⟨rfl, Ends.fault (HG1.out.trans hg2) (by rw [HR1.out, ← hq]; rfl)⟩

/-- All values, once a map can be read whose items can. -/
theorem values_any (hpa : ∀ f, f ≤ 16 → parseAt f (M.pv f) → pairsAt f) : ∀ f, f ≤ 17 → parseAt f (M.pv f)
  | 0, _ => value0_any
  | f + 1, h => value3_any (values_any hpa f (by omega)) (steps_pv f) (hpa f (by omega) (values_any hpa f (by omega))) (by omega)
end Go.Proofs.YtdkggnciamfcmaaGreatDoor

namespace Go.Proofs.YtdkggnciamfcmaaGreatDoor
set_option linter.unusedVariables false
open Go.RowKit
open M (V)
set_option maxRecDepth 100000

/-- What the walks need of the package variables. -/
structure TGate (w : World) : Prop where
  doors : Doors w
  tab : Lib.TabIs Tryz.prog w "internal/strconv.uint64pow10" .u64 Lib.pow10Tab
  five : 5 ≤ w.heap.size
theorem TGate.below {w w' : World} (h : TGate w) (hb : Below w.heap.size w w') : TGate w' := by
  obtain ⟨⟨⟨e1, a1, b1⟩, ⟨e2, a2, b2⟩⟩, ht, h5⟩ := h
  refine ⟨⟨⟨e1, ?_, b1⟩, ⟨e2, ?_, b2⟩⟩, Lib.tabBelow_of_tabIs ht w' hb, Nat.le_trans h5 hb.size⟩
  · have hl := Lib.lt_of_cell a1
    rw [← a1]; unfold World.cell?; rw [hb.block _ hl]
  · have hl := Lib.lt_of_cell a2
    rw [← a2]; unfold World.cell?; rw [hb.block _ hl]

theorem parse_c {w : World} {s : ByteArray} (hs : s.size ≤ 1000000000) (G : TGate w) :
    Calls Tryz.prog 15 #[.string s] w fun e w' => ∃ v, e = .returned (.tuple #[v, .int .i64 ((M.parse s).2.1 : Int), .int .i64 (M.parse s).2.2]) ∧ VB w' w.heap.size w'.heap.size 17 v (M.parse s).1 ∧ Below w.heap.size w w' :=
  parse_any (values_any (fun f hf ih => ppairs_any ih (steps_pv f) hf) 16 (by omega)) hs G.doors G.five
theorem print_c {v : Value} {t : V} {lo hi : Nat} {w : World} (h : VX w lo hi v t) (hhi : hi ≤ w.heap.size) (hlen : (M.txt t).length ≤ 140737488355000) (G : TGate w) :
    Calls Tryz.prog 11 #[v] w fun e w' => e = .returned (.tuple #[.string (M.print t).1, .int .i64 (M.print t).2]) ∧ Below w.heap.size w w' :=
  print_any h hhi hlen (Lib.tabBelow_of_tabIs G.tab)

/-- A box for a value that has just been returned. -/
theorem box_new (w : World) (o : Obj) : Below w.heap.size w (w.alloc o) := (Below.refl _ _).alloc (Nat.le_refl _) o

set_option maxHeartbeats 4000000 in
theorem lives_any (w : World) (G : TGate w) :
    Calls Tryz.prog 10 #[] w fun e w' => e = .returned (.bool true) ∧ Below w.heap.size w w' := by
  have HG := Lib.hid G
  clear G
  go_enter Tryz.func10, Tryz.ntmps10
  go_wp2_with fail
  refine (parse_c (by decide) HG.out).mono ?_
  rintro e w1 ⟨v1, rfl, hv1, hb1⟩
  rw [ex1] at hv1 ⊢
  obtain ⟨A1, n1, c1, B1, p1, e1, rfl⟩ := hv1.agg
  have G1 := Lib.hid (HG.out.below hb1)
  have HV1 := Lib.hid hv1; have HB1 := Lib.hid hb1
  clear hv1 hb1
  go_wp2_with fail
  have hp1 := box_new w1 (.cells #[.int .i64 exV.k, .int .i64 exV.n, .string exV.s, .slice A1 n1 c1, .slice B1 p1 e1] 25)
  refine (print_c ⟨17, HV1.out.later hp1 (Nat.le_refl _)⟩ hp1.size ex7 (G1.out.below hp1)).mono ?_
  rintro e w2 ⟨rfl, hb2⟩
  rw [ex5]
  have hb2' := hp1.trans (hb2.mono hp1.size)
  have G2 := Lib.hid (G1.out.below hb2')
  have HB2 := Lib.hid (HB1.out.trans (hb2'.mono HB1.out.size))
  clear hp1 hb2 hb2' G1 HB1 HV1
  go_wp2_with fail
  refine (parse_c (by decide) G2.out).mono ?_
  rintro e w3 ⟨v3, rfl, hv3, hb3⟩
  rw [ex2] at hv3 ⊢
  obtain ⟨A3, n3, c3, B3, p3, e3, rfl⟩ := hv3.agg
  have G3 := Lib.hid (G2.out.below hb3)
  have HB3 := Lib.hid (HB2.out.trans (hb3.mono HB2.out.size))
  clear hv3 hb3 G2 HB2
  go_wp2_with fail
  have hp3 := box_new w3 (.cells #[.int .i64 V.null.k, .int .i64 V.null.n, .string V.null.s, .slice A3 n3 c3, .slice B3 p3 e3] 25)
  refine (parse_c (by decide) (G3.out.below hp3)).mono ?_
  rintro e w4 ⟨v4, rfl, hv4, hb4⟩
  rw [ex3] at hv4 ⊢
  obtain ⟨A4, n4, c4, B4, p4, e4, rfl⟩ := hv4.agg
  have hb4' := hp3.trans (hb4.mono hp3.size)
  have G4 := Lib.hid (G3.out.below hb4')
  have HB4 := Lib.hid (HB3.out.trans (hb4'.mono HB3.out.size))
  clear hv4 hb4 hb4' hp3 G3 HB3
  go_wp2_with fail
  have hp4 := box_new w4 (.cells #[.int .i64 V.null.k, .int .i64 V.null.n, .string V.null.s, .slice A4 n4 c4, .slice B4 p4 e4] 25)
  refine (parse_c (by decide) (G4.out.below hp4)).mono ?_
  rintro e w5 ⟨v5, rfl, hv5, hb5⟩
  rw [ex4] at hv5 ⊢
  obtain ⟨A5, n5, c5, B5, p5, e5, rfl⟩ := hv5.agg
  have hb5' := hp4.trans (hb5.mono hp4.size)
  have G5 := Lib.hid (G4.out.below hb5')
  have HB5 := Lib.hid (HB4.out.trans (hb5'.mono HB4.out.size))
  clear hv5 hb5 hb5' hp4 G4 HB4
  go_wp2_with fail
  have hp5 := box_new w5 (.cells #[.int .i64 V.null.k, .int .i64 V.null.n, .string V.null.s, .slice A5 n5 c5, .slice B5 p5 e5] 25)
  refine (quote_any _ _ (by decide)).mono ?_
  rintro e w6 ⟨rfl, hb6⟩
  rw [ex6]
  have HB6 := Lib.hid (HB5.out.trans ((hp5.trans (hb6.mono hp5.size)).mono HB5.out.size))
  clear hp5 hb6
  go_wp2_with fail
  go_ret
  exact ⟨rfl, HB6.out⟩
end Go.Proofs.YtdkggnciamfcmaaGreatDoor

namespace Go.Proofs.YtdkggnciamfcmaaGreatDoor
namespace M
theorem m_len (s : ByteArray) : s.data.toList.length = s.size := by rw [Array.length_toList]; rfl
theorem at_drop {s : ByteArray} {i : Nat} {a : UInt8} {t : List UInt8} (h : s.data.toList.drop i = a :: t) : i < s.size ∧ ch s i = a.toNat ∧ s.data.toList.drop (i + 1) = t := by
  have hl : i < s.data.toList.length := by
    rcases Nat.lt_or_ge i s.data.toList.length with h1 | h1
    · exact h1
    · rw [List.drop_eq_nil_of_le h1] at h; cases h
  have h2 := List.drop_eq_getElem_cons hl
  rw [h2] at h
  injection h with h3 h4
  refine ⟨by rw [← m_len]; exact hl, ?_, h4⟩
  unfold ch
  rw [List.getD, List.getElem?_eq_getElem hl, h3]; rfl
theorem take_drop {s : ByteArray} {i b : Nat} {a : UInt8} {t : List UInt8} (h : s.data.toList.drop i = a :: t) : take s i b = .ok a.toNat (i + 1) b := by
  obtain ⟨h1, h2, _⟩ := at_drop h
  rw [take_ok h1, h2]
theorem hexN_hexc : ∀ n, n < 16 → hexN (hexc n).toNat = (n : Int) := by decide
theorem hexD_drop {s : ByteArray} {i b n : Nat} {t : List UInt8} (h : s.data.toList.drop i = hexc n :: t) (hn : n < 16) : hexD s i b = .ok n (i + 1) b := by
  unfold hexD
  rw [take_drop h, Res.then_ok, hexN_hexc n hn, if_neg (by omega)]
  rfl
theorem drop_app {l a t : List UInt8} {i : Nat} (h : l.drop i = a ++ t) : l.drop (i + a.length) = t := by
  rw [← List.drop_drop, h, List.drop_left]
theorem letter_drop {s : ByteArray} {i b : Nat} {x : UInt8} {t : List UInt8} (h : s.data.toList.drop i = esc1 x.toNat ++ t) :
    ch s i ≠ 34 ∧ letter s (ch s i) (i + 1) b = .ok x.toNat (i + (esc1 x.toNat).length) b := by
  have hx := x.toNat_lt
  have hof : UInt8.ofNat x.toNat = x := by simp
  obtain ⟨c, hc⟩ : ∃ c, c = x.toNat := ⟨_, rfl⟩
  rw [← hc] at h hx hof ⊢
  have htn : (UInt8.ofNat c).toNat = c := by rw [hof, hc]
  unfold esc1 at h ⊢
  by_cases h1 : c = 34 ∨ c = 92
  · rw [if_pos h1] at h ⊢
    obtain ⟨_, e1, e2⟩ := at_drop (a := 92) (t := UInt8.ofNat c :: t) h
    rw [e1]
    refine ⟨by decide, ?_⟩
    have e3 : ((92 : UInt8).toNat) = 92 := rfl
    rw [e3]
    unfold letter
    rw [if_pos rfl]
    unfold esc
    rw [take_drop e2, Res.then_ok, htn, if_neg (by omega), if_neg (by omega), if_neg (by omega), if_pos (by omega)]
    rfl
  · rw [if_neg h1] at h ⊢
    by_cases h2 : c = 10
    · rw [if_pos h2] at h ⊢
      obtain ⟨_, e1, e2⟩ := at_drop (a := 92) (t := 110 :: t) h
      rw [e1]
      refine ⟨by decide, ?_⟩
      unfold letter
      rw [if_pos (by decide)]
      unfold esc
      rw [take_drop e2, Res.then_ok, if_pos (by decide), h2]
      rfl
    · rw [if_neg h2] at h ⊢
      by_cases h3 : c = 9
      · rw [if_pos h3] at h ⊢
        obtain ⟨_, e1, e2⟩ := at_drop (a := 92) (t := 116 :: t) h
        rw [e1]
        refine ⟨by decide, ?_⟩
        unfold letter
        rw [if_pos (by decide)]
        unfold esc
        rw [take_drop e2, Res.then_ok, if_neg (by decide), if_pos (by decide), h3]
        rfl
      · rw [if_neg h3] at h ⊢
        by_cases h4 : 32 ≤ c ∧ c ≤ 126
        · rw [if_pos h4] at h ⊢
          obtain ⟨_, e1, e2⟩ := at_drop (a := UInt8.ofNat c) (t := t) h
          rw [htn] at e1
          rw [e1]
          refine ⟨by omega, ?_⟩
          unfold letter
          rw [if_neg (by omega), if_pos (plain_yes h4)]
          rfl
        · rw [if_neg h4] at h ⊢
          obtain ⟨_, e1, e2⟩ := at_drop (a := 92) (t := 120 :: hexc (c / 16) :: hexc (c % 16) :: t) h
          obtain ⟨_, _, e3⟩ := at_drop e2
          obtain ⟨_, _, e4⟩ := at_drop e3
          rw [e1]
          refine ⟨by decide, ?_⟩
          unfold letter
          rw [if_pos (by decide)]
          unfold esc
          rw [take_drop e2, Res.then_ok, if_neg (by decide), if_neg (by decide), if_pos (by decide), hexD_drop e3 (by omega), Res.then_ok, hexD_drop e4 (by omega), Res.then_ok]
          rw [show 16 * (c / 16) + c % 16 = c by omega]
          rfl
theorem litL_back (s : ByteArray) : ∀ (l : List UInt8) (f i b : Nat) (acc rest : List UInt8), l.length < f → s.data.toList.drop i = escs l ++ 34 :: rest →
    litL s f acc (ch s i) (i + 1) b = .ok (acc ++ l) (i + (escs l).length + 1) b
  | l, 0, _, _, _, _, hf, _ => by omega
  | [], f + 1, i, b, acc, rest, hf, h => by
    rw [escs_nil, List.nil_append] at h
    obtain ⟨_, e1, _⟩ := at_drop h
    rw [litL, if_pos (by rw [e1]; rfl), escs_nil, List.append_nil]
    rfl
  | x :: l, f + 1, i, b, acc, rest, hf, h => by
    rw [escs_cons, List.append_assoc] at h
    obtain ⟨h1, h2⟩ := letter_drop (b := b) h
    have h3 := drop_app h
    rw [litL, if_neg h1, h2, Res.then_ok]
    obtain ⟨a, t, h4⟩ : ∃ a t, escs l ++ 34 :: rest = a :: t := by
      cases hq : escs l ++ 34 :: rest with
      | nil => simp at hq
      | cons a t => exact ⟨a, t, rfl⟩
    have h5 := at_drop (h3.trans h4)
    rw [take_drop (h3.trans h4), Res.then_ok, ← h5.2.1, litL_back s l f _ b _ rest (by simp at hf; omega) h3, escs_cons, List.length_append]
    have e1 : acc ++ [UInt8.ofNat x.toNat] ++ l = acc ++ x :: l := by simp
    have e2 : i + (esc1 x.toNat).length + (escs l).length + 1 = i + ((esc1 x.toNat).length + (escs l).length) + 1 := by omega
    rw [e1, e2]
/-- What Parse gives of a literal behind a blank. -/
theorem parse_lit (s : ByteArray) : parse (⟨#[32]⟩ ++ tstr (quote s.data.toList)) = if 4096 < s.size then (V.null, 1, 6) else (.mk 3 0 s [] [], 0, 0) := by
  obtain ⟨S, hS⟩ : ∃ S : ByteArray, S = ⟨#[32]⟩ ++ tstr (quote s.data.toList) := ⟨_, rfl⟩
  rw [← hS]
  have hD : S.data.toList = 32 :: 34 :: (escs s.data.toList ++ [34]) := by
    rw [hS, ByteArray.data_append, Array.toList_append]; rfl
  have hz : S.size = (escs s.data.toList).length + 3 := by
    rw [← m_len, hD]; simp only [List.length_cons, List.length_append, List.length_nil]
  have d0 : S.data.toList.drop 0 = 32 :: 34 :: (escs s.data.toList ++ [34]) := hD
  obtain ⟨_, c0, d1⟩ := at_drop d0
  obtain ⟨l1, c1, d2⟩ := at_drop d1
  have hs : skip S 0 = 1 := by
    rw [skip_yes (by omega) (by rw [c0]; rfl), skip_no (by rw [c1]; rfl)]
  have hge := escs_ge s.data.toList
  have hsz := m_len s
  unfold parse pv bgn vis
  rw [hs, take_drop d1, Res.then_ok]
  have hst : starts ((34 : UInt8).toNat) = true := by decide
  rw [if_neg (by rw [hst]; decide), if_neg (by decide), if_neg (by decide), Res.then_ok]
  unfold pbody
  rw [if_neg (by decide), if_neg (by decide), if_neg (by decide), if_pos (by decide)]
  unfold lit
  obtain ⟨a, t, h4⟩ : ∃ a t, escs s.data.toList ++ [34] = a :: t := by
    cases hq : escs s.data.toList ++ [34] with
    | nil => simp at hq
    | cons a t => exact ⟨a, t, rfl⟩
  have h5 := at_drop (d2.trans h4)
  rw [take_drop (d2.trans h4), Res.then_ok, ← h5.2.1, litL_back S s.data.toList _ _ _ _ [] (by omega) d2, Res.then_ok, List.nil_append, hsz]
  by_cases hb : 4096 < s.size
  · rw [if_pos hb, if_pos hb]; rfl
  · rw [if_neg hb, if_neg hb, Res.then_ok]
    unfold fin
    dsimp only
    rw [skip_end (by omega), if_neg (by omega)]
end M
end Go.Proofs.YtdkggnciamfcmaaGreatDoor

namespace Go.Proofs.YtdkggnciamfcmaaGreatDoor
set_option linter.unusedVariables false
open Go.RowKit
open M (V)
set_option maxRecDepth 100000

theorem tstr_size (l : List UInt8) : (tstr l).size = l.length := by unfold tstr; simp [ByteArray.size]

set_option maxHeartbeats 4000000 in
theorem literalsW (s : ByteArray) (w : World) (hs : s.size ≤ maxLen) (G : TGate w) :
    Calls Tryz.prog 6 #[.string s] w fun e w' => e = .returned (.bool true) ∧ Below w.heap.size w w' := by
  have hm := hs
  unfold maxLen at hm
  have HG := Lib.hid G
  clear G
  by_cases h : (6000 : Int) < (s.size : Int)
  · go_enter Tryz.func6, Tryz.ntmps6
    go_wp2_with fail
    refine (lives_any _ HG.out).mono ?_
    rintro e w1 ⟨rfl, hb⟩
    go_wp2_with fail
    go_ret
    exact ⟨rfl, hb⟩
  · obtain ⟨T, hT⟩ : ∃ T, T = tstr (M.quote s.data.toList) := ⟨_, rfl⟩
    have hTs : T.size ≤ 24002 := by
      rw [hT, tstr_size]
      have := M.quote_len s.data.toList
      rw [M.m_len] at this; omega
    have hz : ((⟨#[32]⟩ : ByteArray) ++ T).size ≤ 1000000000 := by
      rw [ByteArray.size_append]
      have : (⟨#[32]⟩ : ByteArray).size = 1 := rfl
      omega
    have hp := M.parse_lit s
    rw [← hT] at hp
    have HQ := Lib.hid (quote_any s w (by omega))
    rw [← hT] at HQ
    have HZ := Lib.hid hz
    obtain ⟨S, hS⟩ : ∃ S, S = (⟨#[32]⟩ : ByteArray) ++ T := ⟨_, rfl⟩
    rw [← hS] at hp hz HZ
    have HS := Lib.hid hS.symm
    clear hT hz hS
    by_cases hb : (4096 : Int) < (s.size : Int)
    · rw [if_pos (by omega)] at hp
      have HP := Lib.hid hp
      clear hp
      go_enter Tryz.func6, Tryz.ntmps6
      go_wp2_with fail
      refine (HQ.out).mono ?_
      rintro e w1 ⟨rfl, hb1⟩
      have G1 := Lib.hid (HG.out.below hb1)
      have HB1 := Lib.hid hb1
      clear hb1 HG
      go_wp2_with fail
      rw [HS.out]
      refine (parse_c HZ.out G1.out).mono ?_
      rintro e w2 ⟨v2, rfl, hv2, hb2⟩
      rw [HP.out] at hv2 ⊢
      obtain ⟨A2, n2, c2, B2, p2, e2, rfl⟩ := hv2.agg
      have G2 := Lib.hid (G1.out.below hb2)
      have HB2 := Lib.hid (HB1.out.trans (hb2.mono HB1.out.size))
      clear hv2 hb2 G1 HB1
      go_wp2_with fail
      refine (lives_any _ (G2.out.below (box_new w2 _))).mono ?_
      rintro e w3 ⟨rfl, hb3⟩
      have HB3 := Lib.hid (HB2.out.trans (((box_new w2 _).trans (hb3.mono (box_new w2 _).size)).mono HB2.out.size))
      clear hb3
      go_wp2_with fail
      go_ret
      exact ⟨rfl, HB3.out⟩
    · rw [if_neg (by omega)] at hp
      have HP := Lib.hid hp
      clear hp
      go_enter Tryz.func6, Tryz.ntmps6
      go_wp2_with fail
      refine (HQ.out).mono ?_
      rintro e w1 ⟨rfl, hb1⟩
      have G1 := Lib.hid (HG.out.below hb1)
      have HB1 := Lib.hid hb1
      clear hb1 HG
      go_wp2_with fail
      rw [HS.out]
      refine (parse_c HZ.out G1.out).mono ?_
      rintro e w2 ⟨v2, rfl, hv2, hb2⟩
      rw [HP.out] at hv2 ⊢
      obtain ⟨A2, n2, c2, B2, p2, e2, rfl⟩ := hv2.agg
      simp only [V.k, V.n, V.s]
      have G2 := Lib.hid (G1.out.below hb2)
      have HB2 := Lib.hid (HB1.out.trans (hb2.mono HB1.out.size))
      clear hv2 hb2 G1 HB1
      go_wp2_with fail
      refine (lives_any _ (G2.out.below (box_new w2 _))).mono ?_
      rintro e w3 ⟨rfl, hb3⟩
      have HB3 := Lib.hid (HB2.out.trans (((box_new w2 _).trans (hb3.mono (box_new w2 _).size)).mono HB2.out.size))
      clear hb3
      go_wp2_with fail
      go_ret
      exact ⟨rfl, HB3.out⟩
end Go.Proofs.YtdkggnciamfcmaaGreatDoor

namespace Go.Proofs.YtdkggnciamfcmaaGreatDoor
open Go.RowKit
set_option maxRecDepth 100000

theorem t_star : "*" ++ "errors.errorString" = "*errors.errorString" := by decide
theorem t_row (u : TypeId) (h : Tryz.prog.typeName? 3 u = some "*errors.errorString") : u = 125 :=
  typeName_ptr_named (nm := "errors.errorString") (by rw [t_star]; kernel_rfl) (by kernel_rfl) (by decide) u (by rw [t_star]; exact h)

/-- The rows' list. -/
def tLaid : List (String × DataW Unit) := [("math/bits.deBruijn32tab", Rows.laid_math_bits_deBruijn32tab), ("math/bits.deBruijn64tab", Rows.laid_math_bits_deBruijn64tab), ("internal/strconv.uint64pow10", Rows.laid_internal_strconv_uint64pow10), ("strconv.ErrRange", Rows.laid_strconv_ErrRange), ("strconv.ErrSyntax", Rows.laid_strconv_ErrSyntax)]

theorem five_of {rest : List (String × DataW Unit)} {W : World} (h : laidMet Tryz.prog (("math/bits.deBruijn32tab", Rows.laid_math_bits_deBruijn32tab) :: rest) W) : 5 ≤ W.heap.size := by
  have ht : Lib.TabIs Tryz.prog W "math/bits.deBruijn32tab" .u8 [0, 1, 28, 2, 29, 14, 24, 3, 30, 22, 20, 15, 25, 17, 4, 8, 31, 27, 13, 23, 21, 19, 16, 7, 26, 12, 18, 6, 11, 5, 10, 9] :=
    Lib.tabIs_of_head (rest := rest) (g := 4) (by kernel_rfl) (by kernel_rfl) Tryz.underlying128 Tryz.underlying5 (by kernel_rfl) (by kernel_rfl) h
  have h0 := World.var?_cell (g := 4) (by kernel_rfl) ht 0
  have hl := Lib.lt_of_cell (v := .int .u8 0) (by simpa using h0)
  exact hl

theorem gates_of {W : World} (h : laidMetH Tryz.prog tLaid W) : TGate W := by
  rw [MakeChecks.laidMetH_plain _ _ _ (by kernel_rfl)] at h
  have h5 := five_of h
  have h2 := h.tail.tail
  have htab : Lib.TabIs Tryz.prog W "internal/strconv.uint64pow10" .u64 Lib.pow10Tab :=
    Lib.tabIs_of_head (rest := [("strconv.ErrRange", Rows.laid_strconv_ErrRange), ("strconv.ErrSyntax", Rows.laid_strconv_ErrSyntax)]) (g := 0) (by kernel_rfl) (by kernel_rfl) Tryz.underlying114 Tryz.underlying88 (by kernel_rfl) (by kernel_rfl) h2
  obtain ⟨a1, s1, hv1, -, -, -⟩ := laid_sentinel (g := 3) h2.tail (by kernel_rfl) (by kernel_rfl) Tryz.underlying81 t_row Tryz.underlying125 Tryz.underlying127 rfl rfl Tryz.underlying9 (by kernel_rfl) (by kernel_rfl)
  obtain ⟨a2, s2, hv2, -, -, -⟩ := laid_sentinel (g := 2) h2.tail.tail (by kernel_rfl) (by kernel_rfl) Tryz.underlying81 t_row Tryz.underlying125 Tryz.underlying127 rfl rfl Tryz.underlying9 (by kernel_rfl) (by kernel_rfl)
  exact ⟨⟨⟨_, by have h0 := World.var?_cell (g := 2) (by kernel_rfl) hv2 0; simpa using h0, .inr ⟨_, _, rfl⟩⟩,
    ⟨_, by have h0 := World.var?_cell (g := 3) (by kernel_rfl) hv1 0; simpa using h0, .inr ⟨_, _, rfl⟩⟩⟩, htab, h5⟩
end Go.Proofs.YtdkggnciamfcmaaGreatDoor

namespace Go.Proofs.YtdkggnciamfcmaaGreatDoor.Q
open Go.RowKit (wrap64)

def dig (c : Nat) : Bool := decide (48 ≤ c) && decide (c ≤ 57)
def part (c : Nat) : Bool := (decide (97 ≤ c) && decide (c ≤ 122)) || (decide (65 ≤ c) && decide (c ≤ 90)) || decide (c = 95) || dig c
theorem dig_yes {c : Nat} (h : 48 ≤ c ∧ c ≤ 57) : dig c = true := by unfold dig; simp; omega
theorem dig_no {c : Nat} (h : ¬ (48 ≤ c ∧ c ≤ 57)) : dig c = false := by unfold dig; simp; omega
theorem part_yes {c : Nat} (h : (97 ≤ c ∧ c ≤ 122) ∨ (65 ≤ c ∧ c ≤ 90) ∨ c = 95 ∨ (48 ≤ c ∧ c ≤ 57)) : part c = true := by
  unfold part dig; simp; omega
theorem part_no {c : Nat} (h : ¬ ((97 ≤ c ∧ c ≤ 122) ∨ (65 ≤ c ∧ c ≤ 90) ∨ c = 95 ∨ (48 ≤ c ∧ c ≤ 57))) : part c = false := by
  cases hp : part c with
  | false => rfl
  | true => exfalso; apply h; unfold part dig at hp; simp at hp; omega

/-- A valid name. -/
def right (l : List UInt8) : Bool := match l with
  | [] => false
  | c :: r => decide (r.length < 64) && !dig c.toNat && (c :: r).all fun b => part b.toNat
theorem right_nil : right [] = false := rfl
theorem right_long {l : List UInt8} (h : 64 < l.length) : right l = false := by
  cases l with
  | nil => rfl
  | cons c r => simp at h; simp [right]; omega
theorem right_dig {l : List UInt8} (h : 0 < l.length) (hd : dig (l[0]).toNat = true) : right l = false := by
  cases l with
  | nil => rfl
  | cons c r => simp at hd; simp [right, hd]
theorem right_of {l : List UInt8} (h0 : 0 < l.length) (h : l.length ≤ 64) (hd : dig (l[0]).toNat = false) : right l = l.all fun b => part b.toNat := by
  cases l with
  | nil => simp at h0
  | cons c r => simp at hd h; simp [right, hd]; intro; omega
theorem all_take {l : List UInt8} {k : Nat} (h : k < l.length) (hk : (l.take k).all (fun b => part b.toNat) = true) : (l.take (k + 1)).all (fun b => part b.toNat) = part (l[k]).toNat := by
  rw [List.take_succ_eq_append_getElem h, List.all_append, hk]; simp
theorem all_no {l : List UInt8} {k : Nat} (h : k < l.length) (hk : part (l[k]).toNat = false) : l.all (fun b => part b.toNat) = false := by
  rw [List.all_eq_false]; exact ⟨l[k], List.getElem_mem h, by rw [hk]; decide⟩
/-- One byte more at the end. -/
theorem right_snoc {l : List UInt8} (c : UInt8) (h : right l = true) : right (l ++ [c]) = (part c.toNat && decide (l.length < 64)) := by
  cases l with
  | nil => simp [right] at h
  | cons d r =>
    simp [right] at h
    obtain ⟨⟨h1, h2⟩, h3, h4⟩ := h
    simp only [List.cons_append, right, List.length_append, List.length_cons, List.length_nil, List.all_cons, List.all_append, List.all_nil]
    rw [h2, h3, show (r.all fun b => part b.toNat) = true from by simpa using h4]
    cases part c.toNat <;> simp
theorem right_seven (l : List UInt8) : right (55 :: l) = false := right_dig (by simp) (show dig (55 : UInt8).toNat = true by decide)
theorem right_len {l : List UInt8} (h : right l = true) : 0 < l.length ∧ l.length ≤ 64 := by
  cases l with
  | nil => simp [right] at h
  | cons d r => simp [right] at h; simp; omega

/-! Numbers -/
def stp (acc : Nat) (c : UInt8) : Nat := acc * 10 + (c.toNat - 48)
theorem stp_eq (acc : Nat) (c : UInt8) : stp acc c = acc * 10 + (c.toNat - 48) := rfl
def val (acc : Nat) (l : List UInt8) : Nat := l.foldl stp acc
theorem val_nil (acc : Nat) : val acc [] = acc := rfl
theorem val_cons (acc : Nat) (c : UInt8) (r : List UInt8) : val acc (c :: r) = val (stp acc c) r := by unfold val; rw [List.foldl_cons]
theorem val_append (l r : List UInt8) (acc : Nat) : val acc (l ++ r) = val (val acc l) r := List.foldl_append ..
theorem stp_ge (acc : Nat) (c : UInt8) : acc ≤ stp acc c := by rw [stp_eq]; omega
theorem val_ge (l : List UInt8) : ∀ acc, acc ≤ val acc l := by
  induction l with
  | nil => intro acc; exact Nat.le_refl _
  | cons c l ih => intro acc; exact Nat.le_trans (stp_ge acc c) (ih _)
def Digs (l : List UInt8) : Prop := ∀ c ∈ l, 48 ≤ c.toNat ∧ c.toNat ≤ 57
theorem parse_cons {c : UInt8} {r : List UInt8} {acc : Nat} (hc : 48 ≤ c.toNat ∧ c.toNat ≤ 57) (g1 : ¬ 1844674407370955162 ≤ acc) (g2 : ¬ 18446744073709551616 ≤ acc * 10 + (c.toNat - 48)) :
    Lib.parseUint10 acc (c :: r) = Lib.parseUint10 (stp acc c) r := by
  rw [Lib.parseUint10, if_pos hc, if_neg g1, if_neg g2, stp_eq]
theorem parse_nil (acc : Nat) : Lib.parseUint10 acc [] = .ok acc := by rw [Lib.parseUint10]
/-- What fits in 64 bits. -/
def Fits (n : Nat) : Prop := n < 18446744073709551616
theorem parse_val (l : List UInt8) : ∀ acc : Nat, Digs l → Fits (val acc l) → Lib.parseUint10 acc l = .ok (val acc l) := by
  induction l with
  | nil => exact fun acc _ _ => parse_nil acc
  | cons c r ih =>
    intro acc hd hv
    have hc := hd c (by simp)
    have hg := val_ge r (stp acc c)
    rw [val_cons] at hv ⊢
    have hi := ih _ (fun x hx => hd x (by simp [hx])) hv
    unfold Fits at hv
    have hb : stp acc c < 18446744073709551616 := Nat.lt_of_le_of_lt hg hv
    rw [stp_eq] at hb
    clear hg hv ih
    rw [parse_cons hc (by omega) (by omega)]
    exact hi
theorem dd_byte (u : Nat) (h : u < 10) : (UInt8.ofNat (48 + u)).toNat = 48 + u := by simp [UInt8.toNat_ofNat']; omega
theorem dd (u : Nat) : Digs (Lib.decDigits u) ∧ val 0 (Lib.decDigits u) = u ∧ Lib.decDigits u ≠ [] := by
  induction u using Nat.strongRecOn with
  | _ u ih =>
    rw [Lib.decDigits]
    by_cases h : u < 10
    · rw [dif_pos h]
      refine ⟨fun c hc => ?_, ?_, by simp⟩
      · rw [List.mem_singleton] at hc; subst hc; rw [dd_byte u h]; omega
      · rw [val_cons, val_nil, stp_eq, dd_byte u h]; omega
    · rw [dif_neg h]
      obtain ⟨h1, h2, h3⟩ := ih (u / 10) (by omega)
      refine ⟨fun c hc => ?_, ?_, by simp⟩
      · rw [List.mem_append, List.mem_singleton] at hc
        rcases hc with hc | rfl
        · exact h1 c hc
        · rw [dd_byte (u % 10) (by omega)]; omega
      · rw [val_append, h2, val_cons, val_nil, stp_eq, dd_byte (u % 10) (by omega)]; omega
theorem dd_len (k : Nat) : ∀ u, u < 10 ^ (k + 1) → (Lib.decDigits u).length ≤ k + 1 := by
  induction k with
  | zero => intro u h; rw [Lib.decDigits, dif_pos (by omega)]; simp
  | succ k ih =>
    intro u h
    rw [Lib.decDigits]
    split
    · simp
    · have := ih (u / 10) (by rw [Nat.pow_succ] at h; omega)
      simp; omega

/-- The identifier of a run. -/
def run (n : Int) : List UInt8 := if n < 1 then [] else 114 :: Lib.decDigits n.toNat
theorem run_no {n : Int} (h : n < 1) : run n = [] := if_pos h
theorem run_yes {n : Int} (h : ¬ n < 1) : run n = 114 :: Lib.decDigits n.toNat := if_neg h
theorem run_itoa {n : Int} (h : ¬ n < 1) : run n = 114 :: Lib.itoa n := by rw [run_yes h, Lib.itoa, if_neg (by omega)]
theorem run_len (n : Int) (h : n ≤ 9223372036854775807) : (run n).length ≤ 20 := by
  unfold run; split
  · simp
  · have := dd_len 18 n.toNat (by omega)
    simp; omega
/-- What the code takes off the front. -/
def cutR (l : List UInt8) : List UInt8 := Lib.trimPrefix l [114]
theorem cutR_len (l : List UInt8) : (cutR l).length ≤ l.length := by unfold cutR Lib.trimPrefix; split <;> simp
/-- The number of a run. -/
def num (l : List UInt8) : Int × Bool := match Lib.atoiAll (cutR l) with
  | .ok v => if run v = l then (v, true) else (0, false)
  | _ => (0, false)
theorem cutR_cons (l : List UInt8) : cutR (114 :: l) = l := by simp [cutR, Lib.trimPrefix, Lib.hasPrefix]
theorem atoi_dd (u : Nat) (h : u < 9223372036854775808) : Lib.atoiAll (Lib.decDigits u) = .ok (u : Int) := by
  obtain ⟨h1, h2, h3⟩ := dd u
  cases hl : Lib.decDigits u with
  | nil => exact absurd hl h3
  | cons c r =>
    have hc := h1 c (by rw [hl]; simp)
    have hp := parse_val (Lib.decDigits u) 0 h1 (by unfold Fits; omega)
    rw [hl] at hp h2
    simp only [Lib.atoiAll]
    rw [if_neg (by omega), Lib.parseMag, if_neg (by simp), hp, h2]
    have e1 : ¬ c.toNat = 45 := by omega
    simp [e1]; omega
theorem num_run {n : Int} (h1 : 1 ≤ n) (h2 : n ≤ 9223372036854775807) : num (run n) = (n, true) := by
  unfold num
  rw [run_yes (by omega), cutR_cons, atoi_dd _ (by omega)]
  have e : ((n.toNat : Nat) : Int) = n := by omega
  simp only [e]
  rw [run_yes (by omega), if_pos rfl]
theorem num_small {n : Int} (h : n < 1) : num (run n) = (0, false) := by rw [run_no h]; rfl
theorem num_ok {l : List UInt8} {v : Int} (h : num l = (v, true)) : run v = l := by
  unfold num at h
  split at h
  · split at h
    · rename_i h2; simp at h; rw [← h]; exact h2
    · simp at h
  · simp at h
theorem num_or (l : List UInt8) : (∃ v, num l = (v, true)) ∨ num l = (0, false) := by
  unfold num
  split
  · split
    · exact .inl ⟨_, rfl⟩
    · exact .inr rfl
  · exact .inr rfl
theorem num_pos {l : List UInt8} {v : Int} (h : num l = (v, true)) : 1 ≤ v := by
  have hr := num_ok h
  by_cases hv : v < 1
  · rw [run_no hv] at hr; subst hr; exact absurd h (by show ((0 : Int), false) = (v, true) → False; simp)
  · omega
/-- A number read loosely, digit by digit. -/
def loose (n : Int) (c : UInt8) : Int := wrap64 (wrap64 (wrap64 (10 * n) + (c.toNat : Int)) - 48)
theorem loose_le (n : Int) (c : UInt8) : -9223372036854775808 ≤ loose n c ∧ loose n c ≤ 9223372036854775807 := by unfold loose wrap64; omega
theorem wrap_id {n : Int} (h1 : -9223372036854775808 ≤ n) (h2 : n ≤ 9223372036854775807) : wrap64 n = n := by unfold wrap64; omega
theorem loose_stp {acc : Nat} {c : UInt8} (hc : 48 ≤ c.toNat ∧ c.toNat ≤ 57) (h : stp acc c ≤ 9223372036854775807) : loose (acc : Int) c = (stp acc c : Int) := by
  rw [stp_eq] at h ⊢
  unfold loose wrap64; omega
theorem loose_val (l : List UInt8) : ∀ acc : Nat, Digs l → val acc l ≤ 9223372036854775807 → l.foldl loose (acc : Int) = (val acc l : Int) := by
  induction l with
  | nil => exact fun acc _ _ => rfl
  | cons c r ih =>
    intro acc hd hv
    rw [val_cons] at hv ⊢
    have hg := Nat.le_trans (val_ge r (stp acc c)) hv
    rw [List.foldl_cons, loose_stp (hd c (by simp)) hg]
    exact ih _ (fun x hx => hd x (by simp [hx])) hv
def lnum (l : List UInt8) : Int := if l.length ≤ 20 then (l.drop 1).foldl loose 0 else 0
theorem foldl_le (l : List UInt8) : ∀ n : Int, (-9223372036854775808 ≤ n ∧ n ≤ 9223372036854775807) → -9223372036854775808 ≤ l.foldl loose n ∧ l.foldl loose n ≤ 9223372036854775807 := by
  induction l with
  | nil => intro n h; exact h
  | cons c l ih => intro n _; exact ih _ (loose_le n c)
theorem lnum_le (l : List UInt8) : -9223372036854775808 ≤ lnum l ∧ lnum l ≤ 9223372036854775807 := by
  unfold lnum; split
  · exact foldl_le _ 0 (by omega)
  · omega
theorem num_max {l : List UInt8} {v : Int} (h : num l = (v, true)) (hb : ∀ v, Lib.atoiAll (cutR l) = .ok v → v ≤ 9223372036854775807) : v ≤ 9223372036854775807 := by
  unfold num at h
  split at h
  · rename_i v' h'
    split at h
    · simp at h; rw [← h]; exact hb _ h'
    · simp at h
  · simp at h
theorem lnum_run {n : Int} (h1 : 1 ≤ n) (h2 : n ≤ 9223372036854775807) : lnum (run n) = n := by
  have hl := run_len n h2
  unfold lnum
  rw [if_pos hl, run_yes (by omega)]
  obtain ⟨d1, d2, _⟩ := dd n.toNat
  have := loose_val (Lib.decDigits n.toNat) 0 d1 (by omega)
  rw [d2] at this
  show (Lib.decDigits n.toNat).foldl loose 0 = n
  rw [show (0 : Int) = ((0 : Nat) : Int) from rfl, this]; omega
theorem lnum_num (l : List UInt8) (hb : ∀ v, Lib.atoiAll (cutR l) = .ok v → v ≤ 9223372036854775807) : (if lnum l < 1 ∨ run (lnum l) ≠ l then ((0 : Int), false) else (lnum l, true)) = num l := by
  rcases num_or l with ⟨v, hv⟩ | hv
  · have h1 := num_pos hv
    have h2 := num_max hv hb
    have h3 := num_ok hv
    have h4 : lnum l = v := by rw [← h3]; exact lnum_run h1 h2
    rw [hv, h4, if_neg (by intro h; rcases h with h | h; omega; exact h h3)]
  · rw [hv]
    by_cases h : lnum l < 1 ∨ run (lnum l) ≠ l
    · rw [if_pos h]
    · exfalso
      have h1 : ¬ lnum l < 1 := fun e => h (.inl e)
      have h2 : run (lnum l) = l := Classical.byContradiction fun e => h (.inr e)
      have h3 := num_run (n := lnum l) (by omega) (lnum_le l).2
      rw [h2, hv] at h3
      simp at h3

end Go.Proofs.YtdkggnciamfcmaaGreatDoor.Q

namespace Go.Proofs.YtdkggnciamfcmaaGreatDoor
set_option linter.unusedVariables false
open M (V Res)
namespace M
open Go.Op (bytesLess)

/-! ### Blanks, words, numbers -/
def Blanks (l : List UInt8) : Prop := ∀ c ∈ l, blank c.toNat = true
theorem skip_drop {S : ByteArray} {c : UInt8} {t : List UInt8} (hc : blank c.toNat = false) : ∀ (bl : List UInt8) (i : Nat), Blanks bl → S.data.toList.drop i = bl ++ c :: t → skip S i = i + bl.length
  | [], i, _, h => by
    obtain ⟨_, h2, _⟩ := at_drop (a := c) (t := t) h
    rw [skip_no (by rw [h2]; exact hc)]; rfl
  | x :: bl, i, hb, h => by
    obtain ⟨h1, h2, h3⟩ := at_drop (a := x) (t := bl ++ c :: t) h
    rw [skip_yes h1 (by rw [h2]; exact hb x List.mem_cons_self), skip_drop hc bl (i + 1) (fun y hy => hb y (List.mem_cons_of_mem _ hy)) h3, List.length_cons]
    omega
theorem vis_drop {S : ByteArray} {c : UInt8} {t bl : List UInt8} {i b : Nat} (hc : blank c.toNat = false) (hb : Blanks bl) (h : S.data.toList.drop i = bl ++ c :: t) : vis S i b = .ok c.toNat (i + bl.length + 1) b := by
  unfold vis
  rw [skip_drop hc bl i hb h, take_drop (drop_app h)]
theorem vis_after {S : ByteArray} {c : UInt8} {t bl : List UInt8} {i : Nat} (h : S.data.toList.drop i = bl ++ c :: t) : S.data.toList.drop (i + bl.length + 1) = t := (at_drop (drop_app h)).2.2
theorem blanks_nil : Blanks [] := fun c hc => by cases hc
theorem blanks_one : Blanks [32] := fun c hc => by rw [List.mem_singleton] at hc; subst hc; rfl
theorem word_drop {S : ByteArray} : ∀ (l t : List UInt8) (i b : Nat), S.data.toList.drop i = l ++ t → word S l i b = .ok () (i + l.length) b
  | [], t, i, b, h => rfl
  | c :: l, t, i, b, h => by
    obtain ⟨h1, h2, h3⟩ := at_drop (a := c) (t := l ++ t) h
    rw [word, take_drop h, Res.then_ok]
    unfold want
    rw [if_pos rfl, Res.then_ok, word_drop l t (i + 1) b h3, List.length_cons]
    congr 1; omega
def NoDig (r : List UInt8) : Prop := ∀ c t, r = c :: t → digit c.toNat = false
theorem digs_drop {S : ByteArray} {rest : List UInt8} (hr : NoDig rest) : ∀ (l : List UInt8) (i : Nat), Q.Digs l → S.data.toList.drop i = l ++ rest → digs S i = i + l.length
  | [], i, _, h => by
    cases rest with
    | nil =>
      have hl : S.data.toList.length ≤ i := by
        rcases Nat.lt_or_ge i S.data.toList.length with h1 | h1
        · rw [List.drop_eq_getElem_cons h1] at h; cases h
        · exact h1
      rw [digs_end (by rw [← m_len]; exact hl)]; rfl
    | cons c t =>
      obtain ⟨_, h2, _⟩ := at_drop (a := c) (t := t) h
      rw [digs_no (by rw [h2]; exact hr c t rfl)]; rfl
  | x :: l, i, hd, h => by
    obtain ⟨h1, h2, h3⟩ := at_drop (a := x) (t := l ++ rest) h
    rw [digs_yes h1 (by rw [h2]; exact digit_yes (hd x List.mem_cons_self)), digs_drop hr l (i + 1) (fun y hy => hd y (List.mem_cons_of_mem _ hy)) h3, List.length_cons]
    omega
theorem ext_mid {S : ByteArray} {l t : List UInt8} {i : Nat} (h : S.data.toList.drop i = l ++ t) : (S.extract i (i + l.length)).data.toList = l := by
  have e1 : (S.extract i (i + l.length)).data.toList = (S.data.toList.take (i + l.length)).drop i := by
    rw [ByteArray.data_extract, Array.toList_extract]
    simp [List.drop_take]
  rw [e1, List.drop_take, h, show i + l.length - i = l.length by omega, List.take_left]
theorem atoi_neg (u : Nat) (h : u ≤ 9223372036854775808) : Lib.atoiAll (45 :: Lib.decDigits u) = .ok (-(u : Int)) := by
  obtain ⟨h1, h2, h3⟩ := Q.dd u
  have hp := Q.parse_val (Lib.decDigits u) 0 h1 (by unfold Q.Fits; omega)
  rw [h2] at hp
  have e : (45 : UInt8).toNat = 45 := rfl
  simp only [Lib.atoiAll]
  rw [if_pos (.inr e), Lib.parseMag, if_neg h3, hp]
  simp [e]; omega
theorem num_itoa {S : ByteArray} {t : List UInt8} {i : Nat} {n : Int} (h1 : -9223372036854775808 ≤ n) (h2 : n ≤ 9223372036854775807) (h : S.data.toList.drop i = Lib.itoa n ++ t) : num S i (i + (Lib.itoa n).length) = some n := by
  unfold num
  rw [ext_mid h, Lib.parseIntB_64]
  unfold Lib.itoa
  by_cases hn : n < 0
  · rw [if_pos hn, atoi_neg _ (by omega), show -((n.natAbs : Nat) : Int) = n by omega]
  · rw [if_neg hn, Q.atoi_dd _ (by omega), show ((n.toNat : Nat) : Int) = n by omega]
theorem dd_first (u : Nat) : ∃ c r, Lib.decDigits u = c :: r ∧ (1 ≤ u → c.toNat ≠ 48) ∧ (u = 0 → c.toNat = 48 ∧ r = []) := by
  induction u using Nat.strongRecOn with
  | _ u ih =>
    rw [Lib.decDigits]
    by_cases h : u < 10
    · rw [dif_pos h]
      exact ⟨_, _, rfl, fun h1 => by rw [Q.dd_byte u h]; omega, fun h1 => by rw [Q.dd_byte u h]; exact ⟨by omega, rfl⟩⟩
    · rw [dif_neg h]
      obtain ⟨c, r, h1, h2, h3⟩ := ih (u / 10) (by omega)
      rw [h1]
      exact ⟨c, r ++ [UInt8.ofNat (48 + u % 10)], rfl, fun _ => h2 (by omega), fun h4 => by omega⟩
theorem nodig_tail {S : ByteArray} {rest : List UInt8} {j : Nat} (hr : NoDig rest) (h : S.data.toList.drop j = rest) : ¬ (j < S.size ∧ digit (ch S j) = true) := fun ⟨h1, h2⟩ => by
  cases rest with
  | nil =>
    rw [List.drop_eq_getElem_cons (by rw [m_len]; exact h1)] at h; cases h
  | cons c t =>
    obtain ⟨_, h4, _⟩ := at_drop (a := c) (t := t) h
    rw [h4, hr c t rfl] at h2; cases h2
/-- The integer whose first byte has been taken. -/
theorem int_drop {S : ByteArray} {rest : List UInt8} {i b : Nat} {n : Int} (h1 : -9223372036854775808 ≤ n) (h2 : n ≤ 9223372036854775807) (hr : NoDig rest) (h : S.data.toList.drop i = Lib.itoa n ++ rest) :
    int S (ch S i) (i + 1) b = .ok n (i + (Lib.itoa n).length) b := by
  have hnum := num_itoa h1 h2 h
  unfold int
  by_cases hn : n < 0
  · have e : Lib.itoa n = 45 :: Lib.decDigits n.natAbs := by unfold Lib.itoa; rw [if_pos hn]
    rw [e] at h hnum ⊢
    obtain ⟨_, c1, d1⟩ := at_drop (a := 45) (t := Lib.decDigits n.natAbs ++ rest) h
    obtain ⟨c, r, hc, hc2, _⟩ := dd_first n.natAbs
    have hdg := (Q.dd n.natAbs).1
    rw [hc] at hdg d1 hnum ⊢
    have hcd := hdg c List.mem_cons_self
    obtain ⟨_, _, d2⟩ := at_drop (a := c) (t := r ++ rest) d1
    have h48 := hc2 (by omega)
    have hD := digs_drop hr r (i + 2) (fun y hy => hdg y (List.mem_cons_of_mem _ hy)) d2
    unfold lead
    rw [c1, if_pos (by decide), take_drop (a := c) (t := r ++ rest) d1, Res.then_ok, if_neg (by rw [digit_yes hcd]; simp [h48]), Res.then_ok]
    unfold tail
    rw [if_neg (fun h => h48 h.1)]
    show (match num S (i + 1 - 1) (digs S (i + 2)) with | some v => _ | none => _) = _
    rw [hD, show i + 1 - 1 = i by omega]
    have e3 : i + (45 :: c :: r).length = i + 2 + r.length := by simp; omega
    rw [e3] at hnum ⊢
    rw [hnum]
  · have e : Lib.itoa n = Lib.decDigits n.toNat := by unfold Lib.itoa; rw [if_neg hn]
    rw [e] at h hnum ⊢
    obtain ⟨c, r, hc, hc2, hc3⟩ := dd_first n.toNat
    have hdg := (Q.dd n.toNat).1
    rw [hc] at hdg h hnum ⊢
    have hcd := hdg c List.mem_cons_self
    obtain ⟨_, c1, d2⟩ := at_drop (a := c) (t := r ++ rest) h
    have hD := digs_drop hr r (i + 1) (fun y hy => hdg y (List.mem_cons_of_mem _ hy)) d2
    unfold lead
    rw [c1, if_neg (by omega), Res.then_ok]
    unfold tail
    rw [if_neg (fun hh => by
      by_cases h0 : n.toNat = 0
      · obtain ⟨_, rfl⟩ := hc3 h0
        exact nodig_tail hr d2 hh.2
      · exact hc2 (by omega) hh.1), hD, show i + 1 - 1 = i by omega]
    have e3 : i + (c :: r).length = i + 1 + r.length := by simp; omega
    rw [e3] at hnum ⊢
    rw [hnum]
theorem lit_drop {S s : ByteArray} {rest : List UInt8} {i b : Nat} (hs : s.size ≤ 4096) (h : S.data.toList.drop i = escs s.data.toList ++ 34 :: rest) : lit S i b = .ok s (i + (escs s.data.toList).length + 1) b := by
  have hge := escs_ge s.data.toList
  have hsz := m_len s
  have hz : i + (escs s.data.toList).length + 1 ≤ S.size := by
    have e := congrArg List.length h
    rw [List.length_drop, m_len] at e
    simp at e; omega
  unfold lit
  obtain ⟨a, t, h4⟩ : ∃ a t, escs s.data.toList ++ 34 :: rest = a :: t := by
    cases hq : escs s.data.toList ++ 34 :: rest with
    | nil => simp at hq
    | cons a t => exact ⟨a, t, rfl⟩
  have h5 := at_drop (h.trans h4)
  rw [take_drop (h.trans h4), Res.then_ok, ← h5.2.1, litL_back S s.data.toList _ _ _ _ rest (by omega) h, Res.then_ok, List.nil_append, hsz, if_neg (by omega)]

/-! ### Values -/
mutual
def V.ints : V → Prop | .mk _ n _ its _ => (-9223372036854775808 ≤ n ∧ n ≤ 9223372036854775807) ∧ V.intss its
def V.intss : List V → Prop | [] => True | x :: r => x.ints ∧ V.intss r
end
structure Pay (f : Nat) (t : V) : Prop where
  wf : t.wf = true
  sh : t.short = true
  fu : t.fut = false
  dp : t.dep ≤ f
  it : t.ints
structure Pays (f : Nat) (l : List V) : Prop where
  wf : V.wfs l = true
  sh : V.shorts l = true
  fu : V.futs l = false
  dp : V.deps l ≤ f
  it : V.intss l
theorem Pays.cons {f : Nat} {x : V} {l : List V} (h : Pays f (x :: l)) : Pay f x ∧ Pays f l := by
  obtain ⟨h1, h2, h3, h4, h5⟩ := h
  simp only [V.wfs, Bool.and_eq_true] at h1
  simp only [V.shorts, Bool.and_eq_true] at h2
  simp only [V.futs, Bool.or_eq_false_iff] at h3
  simp only [V.deps] at h4
  simp only [V.intss] at h5
  exact ⟨⟨h1.1, h2.1, h3.1, by omega, h5.1⟩, ⟨h1.2, h2.2, h3.2, by omega, h5.2⟩⟩
theorem Pay.items {f : Nat} {t : V} (h : Pay (f + 1) t) : Pays f t.its := by
  obtain ⟨h1, h2, h3, h4, h5⟩ := h
  rw [V.wf_eq, Bool.and_eq_true] at h1
  rw [V.short_eq, Bool.and_eq_true] at h2
  rw [V.fut_eq, Bool.or_eq_false_iff] at h3
  rw [V.dep_eq] at h4
  obtain ⟨k, n, s, its, ks⟩ := t
  simp only [V.ints] at h5
  exact ⟨h1.2, h2.2, h3.2, by omega, h5.2⟩
theorem empty_of {s : ByteArray} (h : s.toList.isEmpty = true) : s = ByteArray.empty := toList_inj (by rw [List.isEmpty_iff.1 h, ByteArray.toList_eq]; rfl)
theorem keys_fit {t : V} (h : t.short = true) : ∀ k ∈ t.ks, k.size ≤ 4096 := fun k hk => by
  rw [V.short_eq, Bool.and_eq_true] at h
  have h1 := h.1
  unfold V.txt at h1
  rw [Bool.and_eq_true, List.all_eq_true] at h1
  have := h1.2 k hk
  unfold fits at this
  exact of_decide_eq_true this
theorem text_fit {t : V} (h : t.short = true) : t.s.size ≤ 4096 := by
  rw [V.short_eq, Bool.and_eq_true] at h
  have h1 := h.1
  unfold V.txt at h1
  rw [Bool.and_eq_true] at h1
  exact of_decide_eq_true h1.1
theorem bgn_drop {S : ByteArray} {c : UInt8} {t bl : List UInt8} {d i b : Nat} (hc : blank c.toNat = false) (hs : starts c.toNat = true) (hb : Blanks bl) (hd : d ≤ 16) (hn : b < 1000) (h : S.data.toList.drop i = bl ++ c :: t) : bgn S d i b = .ok c.toNat (i + bl.length + 1) (b + 1) := by
  unfold bgn
  rw [vis_drop hc hb h, Res.then_ok, if_neg (by rw [hs]; decide), if_neg (by omega), if_neg (by omega)]
def Reads (f : Nat) : Prop := ∀ (t : V) (S : ByteArray) (bl rest : List UInt8) (i b : Nat), Pay f t → Blanks bl → b + t.sz ≤ 1000 → NoDig rest → S.data.toList.drop i = bl ++ (txt t ++ rest) → pv f S i b = .ok t (i + bl.length + (txt t).length) (b + t.sz)
theorem next_more {S : ByteArray} {cl : Nat} {t : List UInt8} {i b : Nat} (h : S.data.toList.drop i = 44 :: t) : next S cl i b = .ok true (i + 1) b := by
  unfold next
  rw [vis_drop (bl := []) (c := 44) (t := t) (by decide) blanks_nil h, Res.then_ok, if_pos (by decide)]; rfl
theorem next_done {S : ByteArray} {c : UInt8} {t : List UInt8} {i b : Nat} (hc : c = 93 ∨ c = 125) (h : S.data.toList.drop i = c :: t) : next S c.toNat i b = .ok false (i + 1) b := by
  unfold next
  rw [vis_drop (bl := []) (c := c) (t := t) (by rcases hc with rfl | rfl <;> decide) blanks_nil h, Res.then_ok, if_neg (by rcases hc with rfl | rfl <;> decide), if_pos rfl]; rfl
theorem nodig_txts (l : List V) (rest : List UInt8) : NoDig (txts false l ++ 93 :: rest) := fun c t h => by
  cases l with
  | nil => rw [txts, List.nil_append] at h; injection h with h1 _; subst h1; rfl
  | cons x l =>
    rw [txts] at h
    simp only [sep] at h
    injection h with h1 _
    subst h1; rfl
theorem pl_back {f : Nat} (hR : Reads f) (S : ByteArray) (rest : List UInt8) : ∀ (l : List V) (x : V) (acc : List V) (bl : List UInt8) (i b k : Nat), Pay f x → Pays f l → Blanks bl → b + x.sz + V.szs l ≤ 1000 → l.length < k → S.data.toList.drop i = bl ++ (txt x ++ (txts false l ++ 93 :: rest)) →
    pl S (pv f S) k acc true i b = .ok (acc ++ x :: l) (i + bl.length + (txt x).length + (txts false l).length + 1) (b + x.sz + V.szs l)
  | l, x, acc, bl, i, b, 0, _, _, _, _, hk, _ => by omega
  | [], x, acc, bl, i, b, k + 1, px, pl', hb, hn, hk, h => by
    have h1 := hR x S bl _ i b px hb (by omega) (nodig_txts [] rest) h
    have h2 := drop_app (drop_app h)
    rw [txts, List.nil_append] at h2
    rw [pl, h1, Res.then_ok]
    have h3 := next_done (b := b + x.sz) (.inl rfl) h2
    rw [show ((93 : UInt8).toNat) = 93 from rfl] at h3
    rw [h3, Res.then_ok, txts, V.szs]
    cases k <;> rfl
  | y :: l, x, acc, bl, i, b, k + 1, px, pl', hb, hn, hk, h => by
    obtain ⟨py, pl2⟩ := pl'.cons
    rw [V.szs] at hn
    have h1 := hR x S bl _ i b px hb (by omega) (nodig_txts (y :: l) rest) h
    have h2 := drop_app (drop_app h)
    rw [txts] at h2
    have h2' : S.data.toList.drop (i + bl.length + (txt x).length) = 44 :: ([32] ++ (txt y ++ (txts false l ++ 93 :: rest))) := by rw [h2]; simp [sep]
    rw [pl, h1, Res.then_ok, next_more h2', Res.then_ok, pl_back hR S rest l y (acc ++ [x]) [32] _ _ k py pl2 blanks_one (by omega) (by simp at hk; omega) (at_drop h2').2.2]
    have e1 : acc ++ [x] ++ y :: l = acc ++ x :: y :: l := by simp
    have e2 : (txts false (y :: l)).length = 2 + (txt y).length + (txts false l).length := by rw [txts]; simp [sep]; omega
    rw [e1, e2, V.szs]
    congr 1
    · simp; omega
    · omega
theorem txt_head (t : V) : ∃ c r, txt t = c :: r ∧ blank c.toNat = false ∧ c.toNat ≠ 93 ∧ c.toNat ≠ 125 ∧ starts c.toNat = true := by
  obtain ⟨k, n, s, its, ks⟩ := t
  by_cases k1 : k = 1
  · subst k1
    rw [txt_bool]
    by_cases hn : n = 1
    · rw [if_pos hn]; exact ⟨_, _, rfl, by decide, by decide, by decide, by decide⟩
    · rw [if_neg hn]; exact ⟨_, _, rfl, by decide, by decide, by decide, by decide⟩
  by_cases k2 : k = 2
  · subst k2
    rw [txt_int]
    unfold Lib.itoa
    by_cases hn : n < 0
    · rw [if_pos hn]; exact ⟨_, _, rfl, by decide, by decide, by decide, by decide⟩
    · rw [if_neg hn]
      obtain ⟨c, r, hc, _⟩ := dd_first n.toNat
      have hd := (Q.dd n.toNat).1
      rw [hc] at hd ⊢
      have := hd c List.mem_cons_self
      refine ⟨c, r, rfl, blank_no (by omega), by omega, by omega, ?_⟩
      unfold starts
      rw [digit_yes this, Bool.or_true]
  by_cases k3 : k = 3
  · subst k3
    rw [txt_text]
    exact ⟨34, escs s.data.toList ++ [34], rfl, by decide, by decide, by decide, by decide⟩
  by_cases k4 : k = 4
  · subst k4
    rw [txt_list]
    exact ⟨91, txts true its ++ [93], rfl, by decide, by decide, by decide, by decide⟩
  by_cases k5 : k = 5
  · subst k5
    rw [txt_map]
    exact ⟨123, txtp true its ks ++ [125], rfl, by decide, by decide, by decide, by decide⟩
  · rw [txt_other k1 k2 k3 k4 k5]
    exact ⟨_, _, rfl, by decide, by decide, by decide, by decide⟩
theorem txts_ge : ∀ l : List V, l.length ≤ (txts false l).length
  | [] => Nat.zero_le _
  | x :: l => by
    have := txts_ge l
    rw [txts]; simp [sep]; omega
theorem txtp_ge : ∀ (l : List V) (ks : List ByteArray), l.length ≤ (txtp false l ks).length
  | [], _ => Nat.zero_le _
  | x :: l, ks => by
    have := txtp_ge l ks.tail
    rw [txtp]; simp [sep]; omega
theorem room_of {S : ByteArray} {i : Nat} {l : List UInt8} (h : S.data.toList.drop i = l) : S.size - i = l.length := by rw [← h, List.length_drop, m_len]
theorem plist_back {f : Nat} (hR : Reads f) {S : ByteArray} {rest : List UInt8} {its : List V} {i b : Nat} (hp : Pays f its) (hn : b + V.szs its ≤ 1000) (h : S.data.toList.drop i = txts true its ++ 93 :: rest) :
    plist S (pv f S) i b = .ok (.mk 4 0 ByteArray.empty its []) (i + (txts true its).length + 1) (b + V.szs its) := by
  unfold plist first
  cases its with
  | nil =>
    rw [txts, List.nil_append] at h
    rw [vis_drop (bl := []) (c := 93) (t := rest) (by decide) blanks_nil h, Res.then_ok, if_pos (by decide), Res.then_ok, txts, V.szs]
    cases (S.size + 1 - (i + ([] : List UInt8).length + 1)) <;> rfl
  | cons x l =>
    obtain ⟨p1, p2⟩ := hp.cons
    rw [V.szs] at hn
    obtain ⟨c, r, e1, e2, e3, _, _⟩ := txt_head x
    have h1 : S.data.toList.drop i = [] ++ (txt x ++ (txts false l ++ 93 :: rest)) := by rw [h, txts]; simp [sep]
    have h2 : S.data.toList.drop i = [] ++ c :: (r ++ (txts false l ++ 93 :: rest)) := by rw [h1, e1]; rfl
    have hz := room_of h1
    have hg := txts_ge l
    simp at hz
    rw [vis_drop e2 blanks_nil h2, Res.then_ok, if_neg e3, Res.then_ok, show i + ([] : List UInt8).length + 1 - 1 = i by simp, pl_back hR S rest l x [] [] i b _ p1 p2 blanks_nil (by omega) (by omega) h1, Res.then_ok, txts, V.szs]
    have e5 : i + ([] : List UInt8).length + (txt x).length + (txts false l).length + 1 = i + (sep true ++ txt x ++ txts false l).length + 1 := by simp [sep]; omega
    rw [e5, Nat.add_assoc b]
    rfl
theorem nodig_txtp (l : List V) (ks : List ByteArray) (rest : List UInt8) : NoDig (txtp false l ks ++ 125 :: rest) := fun c t h => by
  cases l with
  | nil => rw [txtp, List.nil_append] at h; injection h with h1 _; subst h1; rfl
  | cons x l =>
    rw [txtp] at h
    simp only [sep] at h
    injection h with h1 _
    subst h1; rfl
theorem plc_all {ks : List ByteArray} {key : ByteArray} (h : ∀ q, q < ks.length → bytesLess (ks.getD q ByteArray.empty).toList key.toList = true) : plc ks key = ks.length := by
  rcases Nat.lt_or_ge (plc ks key) ks.length with h1 | h1
  · have h2 := plc_stop ks h1
    rw [h _ h1] at h2; cases h2
  · have := plc_le ks key; omega
theorem insAt_end {α : Type} (x : α) (l : List α) : insAt l.length x l = l ++ [x] := by unfold insAt; rw [List.take_length, List.drop_length]
theorem rise_new {kacc ks : List ByteArray} {key : ByteArray} (h : Rise (kacc ++ key :: ks)) : plc kacc key = kacc.length := plc_all fun q hq => by
  have h1 := rise_lt h (i := q) (j := kacc.length) hq (by simp)
  rw [show (kacc ++ key :: ks).getD q ByteArray.empty = kacc.getD q ByteArray.empty by simp [List.getD, List.getElem?_append_left hq]] at h1
  rw [show (kacc ++ key :: ks).getD kacc.length ByteArray.empty = key by simp [List.getD]] at h1
  exact h1
theorem nkey_drop {S key : ByteArray} {kacc : List ByteArray} {bl t : List UInt8} {i b : Nat} (hb : Blanks bl) (hk : key.size ≤ 4096) (hp : plc kacc key = kacc.length) (h : S.data.toList.drop i = bl ++ (quote key.data.toList ++ t)) :
    nkey S kacc i b = .ok key (i + bl.length + (quote key.data.toList).length) b ∧ S.data.toList.drop (i + bl.length + (quote key.data.toList).length) = t := by
  refine ⟨?_, drop_app (drop_app h)⟩
  have h1 : S.data.toList.drop i = bl ++ 34 :: (escs key.data.toList ++ 34 :: t) := by rw [h]; simp [quote]
  unfold nkey
  rw [vis_drop (by decide) hb h1, Res.then_ok]
  unfold want
  rw [if_pos (by decide), Res.then_ok, lit_drop hk (vis_after h1), Res.then_ok, if_neg (by omega), quote_ge]
  congr 1; omega
theorem pm_back {f : Nat} (hR : Reads f) (S : ByteArray) (rest : List UInt8) : ∀ (l : List V) (ks : List ByteArray) (x : V) (key : ByteArray) (acc : List V) (kacc : List ByteArray) (bl : List UInt8) (i b k : Nat), Pay f x → Pays f l → Blanks bl → b + x.sz + V.szs l ≤ 1000 → l.length < k →
    ks.length = l.length → kacc.length = acc.length → Rise (kacc ++ key :: ks) → (∀ q ∈ key :: ks, q.size ≤ 4096) → S.data.toList.drop i = bl ++ (quote key.data.toList ++ ([58, 32] ++ (txt x ++ (txtp false l ks ++ 125 :: rest)))) →
    pm S (pv f S) k kacc acc true i b = .ok (kacc ++ key :: ks, acc ++ x :: l) (i + bl.length + (quote key.data.toList).length + 2 + (txt x).length + (txtp false l ks).length + 1) (b + x.sz + V.szs l)
  | l, ks, x, key, acc, kacc, bl, i, b, 0, _, _, _, _, hk, _, _, _, _, _ => by omega
  | l, ks, x, key, acc, kacc, bl, i, b, k + 1, px, pl', hb, hn, hk, hl, ha, hr, hf, h => by
    obtain ⟨n1, n2⟩ := nkey_drop (b := b) hb (hf key List.mem_cons_self) (rise_new hr) h
    have hc : S.data.toList.drop (i + bl.length + (quote key.data.toList).length) = [] ++ 58 :: ([32] ++ (txt x ++ (txtp false l ks ++ 125 :: rest))) := n2
    have v2 := vis_after hc
    have h1 := hR x S [32] _ _ b px blanks_one (by omega) (nodig_txtp l ks rest) v2
    have h2 := drop_app (drop_app v2)
    have hi2 : insAt (plc kacc key) x acc = acc ++ [x] := by rw [rise_new hr, ha, insAt_end]
    have hi1 : insAt (plc kacc key) key kacc = kacc ++ [key] := by rw [rise_new hr, insAt_end]
    rw [pm, n1, Res.then_ok, vis_drop (by decide) blanks_nil hc, Res.then_ok]
    unfold want
    rw [if_pos (by decide), Res.then_ok, h1, Res.then_ok, hi1, hi2]
    cases l with
    | nil =>
      obtain rfl : ks = [] := List.eq_nil_of_length_eq_zero hl
      rw [txtp, List.nil_append] at h2
      have h3 := next_done (b := b + x.sz) (.inr rfl) h2
      rw [show ((125 : UInt8).toNat) = 125 from rfl] at h3
      rw [h3, Res.then_ok, txtp, V.szs]
      have e : i + bl.length + (quote key.data.toList).length + ([] : List UInt8).length + 1 + [(32 : UInt8)].length + (txt x).length + 1 = i + bl.length + (quote key.data.toList).length + 2 + (txt x).length + ([] : List UInt8).length + 1 := by simp
      rw [e]
      cases k <;> rfl
    | cons y l =>
      cases ks with
      | nil => simp at hl
      | cons key2 ks =>
        obtain ⟨py, pl2⟩ := pl'.cons
        rw [V.szs] at hn
        have h2' : S.data.toList.drop (i + bl.length + (quote key.data.toList).length + ([] : List UInt8).length + 1 + [(32 : UInt8)].length + (txt x).length) = 44 :: ([32] ++ (quote key2.data.toList ++ ([58, 32] ++ (txt y ++ (txtp false l ks ++ 125 :: rest))))) := by rw [h2, txtp]; simp [sep, List.headD]
        have hr2 : Rise ((kacc ++ [key]) ++ key2 :: ks) := by simpa using hr
        rw [next_more h2', Res.then_ok, pm_back hR S rest l ks y key2 (acc ++ [x]) (kacc ++ [key]) [32] _ _ k py pl2 blanks_one (by omega) (by simp at hk; omega) (by simpa using hl) (by simp [ha]) hr2 (fun q hq => hf q (List.mem_cons_of_mem _ hq)) (at_drop h2').2.2]
        have e1 : acc ++ [x] ++ y :: l = acc ++ x :: y :: l := by simp
        have e2 : kacc ++ [key] ++ key2 :: ks = kacc ++ key :: key2 :: ks := by simp
        have e3 : (txtp false (y :: l) (key2 :: ks)).length = 2 + (quote key2.data.toList).length + 2 + (txt y).length + (txtp false l ks).length := by rw [txtp]; simp [sep, List.headD]; omega
        rw [e1, e2, e3, V.szs]
        congr 1
        · simp; omega
        · omega
theorem ppairs_back {f : Nat} (hR : Reads f) {S : ByteArray} {rest : List UInt8} {its : List V} {ks : List ByteArray} {i b : Nat} (hp : Pays f its) (hn : b + V.szs its ≤ 1000) (hl : ks.length = its.length) (hr : Rise ks) (hf : ∀ q ∈ ks, q.size ≤ 4096) (h : S.data.toList.drop i = txtp true its ks ++ 125 :: rest) :
    ppairs S (pv f S) i b = .ok (.mk 5 0 ByteArray.empty its ks) (i + (txtp true its ks).length + 1) (b + V.szs its) := by
  unfold ppairs first
  cases its with
  | nil =>
    obtain rfl : ks = [] := List.eq_nil_of_length_eq_zero hl
    rw [txtp, List.nil_append] at h
    rw [vis_drop (bl := []) (c := 125) (t := rest) (by decide) blanks_nil h, Res.then_ok, if_pos (by decide), Res.then_ok, txtp, V.szs]
    cases (S.size + 1 - (i + ([] : List UInt8).length + 1)) <;> rfl
  | cons x l =>
    cases ks with
    | nil => simp at hl
    | cons key ks =>
      obtain ⟨p1, p2⟩ := hp.cons
      rw [V.szs] at hn
      have h1 : S.data.toList.drop i = [] ++ (quote key.data.toList ++ ([58, 32] ++ (txt x ++ (txtp false l ks ++ 125 :: rest)))) := by rw [h, txtp]; simp [sep, List.headD]
      have h2 : S.data.toList.drop i = [] ++ 34 :: (escs key.data.toList ++ [34] ++ ([58, 32] ++ (txt x ++ (txtp false l ks ++ 125 :: rest)))) := by rw [h1]; rfl
      have hz := room_of h1
      have hg := txtp_ge l ks
      simp at hz
      rw [vis_drop (by decide) blanks_nil h2, Res.then_ok, if_neg (by decide), Res.then_ok, show i + ([] : List UInt8).length + 1 - 1 = i by simp, pm_back hR S rest l ks x key [] [] [] i b _ p1 p2 blanks_nil (by omega) (by omega) (by simpa using hl) rfl hr hf h1, Res.then_ok, txtp, V.szs]
      have e5 : i + ([] : List UInt8).length + (quote key.data.toList).length + 2 + (txt x).length + (txtp false l ks).length + 1 = i + (sep true ++ quote ((key :: ks).headD ByteArray.empty).data.toList ++ [58, 32] ++ txt x ++ txtp false l (key :: ks).tail).length + 1 := by simp [sep, List.headD]; omega
      rw [e5, Nat.add_assoc b]
      rfl
theorem reads : ∀ f, Reads f
  | 0 => fun t S bl rest i b hp _ _ _ _ => absurd hp.dp (by have := V.dep_pos t; omega)
  | f + 1 => fun t S bl rest i b hp hb hn hd h => by
    have hI := hp.items
    have hsz := V.sz_pos t
    obtain ⟨h1, h2, h3, h4, h5⟩ := hp
    have hkf := keys_fit h2
    have htf := text_fit h2
    have htop := wf_top h1
    have hs := V.sz_eq t
    obtain ⟨c, r, e1, e2, _, _, e5⟩ := txt_head t
    have hq : S.data.toList.drop i = bl ++ c :: (r ++ rest) := by rw [h, e1]; rfl
    have hB := bgn_drop (d := 16 - f) (b := b) e2 e5 hb (by omega) (by omega) hq
    have hv := vis_after hq
    have hat : S.data.toList.drop (i + bl.length) = c :: (r ++ rest) := drop_app hq
    have hch := (at_drop hat).2.1
    rw [pv, hB, Res.then_ok]
    obtain ⟨k, n, s, its, ks⟩ := t
    simp only [V.ints] at h5
    simp only [V.its, V.ks, V.s] at hI hkf htf hs
    simp only [V.fut, Bool.or_eq_false_iff, beq_eq_false_iff_ne] at h3
    have htop : uses k n s.toList.isEmpty ((its.length : Int) == 0) ((ks.length : Int) == 0) ((ks.length : Int) == (its.length : Int)) (rise ks) = true := htop
    unfold uses at htop
    rw [hs]
    unfold pbody
    by_cases k0 : k = 0
    · subst k0
      rw [if_pos rfl] at htop
      simp only [Bool.and_eq_true, beq_iff_eq] at htop
      obtain ⟨⟨⟨rfl, q2⟩, q3⟩, q4⟩ := htop
      obtain rfl := empty_of q2
      obtain rfl : its = [] := List.eq_nil_of_length_eq_zero (by omega)
      obtain rfl : ks = [] := List.eq_nil_of_length_eq_zero (by omega)
      rw [txt_other (by decide) (by decide) (by decide) (by decide) (by decide)] at e1 ⊢
      injection e1 with e1 e1'
      subst e1 e1'
      rw [if_pos (by decide), word_drop [117, 108, 108] rest _ _ hv, Res.then_ok]
      rfl
    · rw [if_neg k0] at htop
      by_cases k1 : k = 1
      · subst k1
        rw [if_pos rfl] at htop
        simp only [Bool.and_eq_true, Bool.or_eq_true, beq_iff_eq] at htop
        obtain ⟨⟨⟨q1, q2⟩, q3⟩, q4⟩ := htop
        obtain rfl := empty_of q2
        obtain rfl : its = [] := List.eq_nil_of_length_eq_zero (by omega)
        obtain rfl : ks = [] := List.eq_nil_of_length_eq_zero (by omega)
        rw [txt_bool] at e1 ⊢
        rcases q1 with rfl | rfl
        · have ef : (if (0 : Int) = 1 then ([116, 114, 117, 101] : List UInt8) else [102, 97, 108, 115, 101]) = [102, 97, 108, 115, 101] := rfl
          rw [ef] at e1 ⊢
          injection e1 with e1 e1'
          subst e1 e1'
          rw [if_neg (by decide), if_neg (by decide), if_pos (by decide), word_drop [97, 108, 115, 101] rest _ _ hv, Res.then_ok]
          rfl
        · have ef : (if (1 : Int) = 1 then ([116, 114, 117, 101] : List UInt8) else [102, 97, 108, 115, 101]) = [116, 114, 117, 101] := rfl
          rw [ef] at e1 ⊢
          injection e1 with e1 e1'
          subst e1 e1'
          rw [if_neg (by decide), if_pos (by decide), word_drop [114, 117, 101] rest _ _ hv, Res.then_ok]
          rfl
      · rw [if_neg k1] at htop
        by_cases k2 : k = 2
        · subst k2
          rw [if_pos rfl] at htop
          simp only [Bool.and_eq_true, beq_iff_eq] at htop
          obtain ⟨⟨q2, q3⟩, q4⟩ := htop
          obtain rfl := empty_of q2
          obtain rfl : its = [] := List.eq_nil_of_length_eq_zero (by omega)
          obtain rfl : ks = [] := List.eq_nil_of_length_eq_zero (by omega)
          rw [txt_int] at e1 h ⊢
          have hdr := drop_app h
          have hint := int_drop (b := b + 1) h5.1.1 h5.1.2 hd hdr
          rw [hch] at hint
          have hcc : c.toNat = 45 ∨ digit c.toNat = true := by
            have hdg := (Q.dd n.natAbs).1
            have hdg2 := (Q.dd n.toNat).1
            unfold Lib.itoa at e1
            by_cases hneg : n < 0
            · rw [if_pos hneg] at e1
              injection e1 with e1 _
              subst e1; exact .inl rfl
            · rw [if_neg hneg] at e1
              exact .inr (digit_yes (hdg2 c (by rw [e1]; exact List.mem_cons_self)))
          have hno : ∀ x : Nat, (x = 110 ∨ x = 116 ∨ x = 102 ∨ x = 34 ∨ x = 91 ∨ x = 123) → c.toNat ≠ x := fun x hx he => by
            rcases hcc with hcc | hcc
            · omega
            · unfold digit at hcc; simp at hcc; omega
          rw [if_neg (hno _ (by omega)), if_neg (hno _ (by omega)), if_neg (hno _ (by omega)), if_neg (hno _ (by omega)), if_neg (hno _ (by omega)), if_neg (hno _ (by omega)), hint, Res.then_ok]
          rfl
        · rw [if_neg k2] at htop
          by_cases k3 : k = 3
          · subst k3
            rw [if_pos rfl] at htop
            simp only [Bool.and_eq_true, beq_iff_eq] at htop
            obtain ⟨⟨rfl, q3⟩, q4⟩ := htop
            obtain rfl : its = [] := List.eq_nil_of_length_eq_zero (by omega)
            obtain rfl : ks = [] := List.eq_nil_of_length_eq_zero (by omega)
            rw [txt_text] at e1 ⊢
            unfold quote at e1
            rw [List.cons_append] at e1
            injection e1 with e1 e1'
            subst e1 e1'
            have hv2 : S.data.toList.drop (i + bl.length + 1) = escs s.data.toList ++ 34 :: rest := by rw [hv]; simp
            rw [if_neg (by decide), if_neg (by decide), if_neg (by decide), if_pos (by decide), lit_drop htf hv2, Res.then_ok, quote_ge, V.szs]
            congr 1; omega
          · rw [if_neg k3] at htop
            by_cases k4 : k = 4
            · subst k4
              rw [if_pos rfl] at htop
              simp only [Bool.and_eq_true, beq_iff_eq] at htop
              obtain ⟨⟨rfl, q2⟩, q4⟩ := htop
              obtain rfl := empty_of q2
              obtain rfl : ks = [] := List.eq_nil_of_length_eq_zero (by omega)
              rw [txt_list] at e1 ⊢
              rw [List.cons_append] at e1
              injection e1 with e1 e1'
              subst e1 e1'
              have hv2 : S.data.toList.drop (i + bl.length + 1) = txts true its ++ 93 :: rest := by rw [hv]; simp
              rw [if_neg (by decide), if_neg (by decide), if_neg (by decide), if_neg (by decide), if_pos (by decide), plist_back (reads f) hI (by omega) hv2]
              congr 1
              · simp; omega
              · omega
            · rw [if_neg k4] at htop
              by_cases k5 : k = 5
              · subst k5
                rw [if_pos rfl] at htop
                simp only [Bool.and_eq_true, beq_iff_eq] at htop
                obtain ⟨⟨⟨rfl, q2⟩, q4⟩, q5⟩ := htop
                obtain rfl := empty_of q2
                rw [rise_iff] at q5
                rw [txt_map] at e1 ⊢
                rw [List.cons_append] at e1
                injection e1 with e1 e1'
                subst e1 e1'
                have hv2 : S.data.toList.drop (i + bl.length + 1) = txtp true its ks ++ 125 :: rest := by rw [hv]; simp
                rw [if_neg (by decide), if_neg (by decide), if_neg (by decide), if_neg (by decide), if_neg (by decide), if_pos (by decide), ppairs_back (reads f) hI (by omega) (by omega) q5 hkf hv2]
                congr 1
                · simp; omega
                · omega
              · rw [if_neg k5, if_neg h3.1] at htop
                cases htop
theorem skip_blanks {S : ByteArray} : ∀ (bl : List UInt8) (i : Nat), Blanks bl → S.data.toList.drop i = bl → skip S i = i + bl.length
  | [], i, _, h => by
    have hl : S.data.toList.length ≤ i := by
      rcases Nat.lt_or_ge i S.data.toList.length with h1 | h1
      · rw [List.drop_eq_getElem_cons h1] at h; cases h
      · exact h1
    rw [skip_end (by rw [← m_len]; exact hl)]; rfl
  | x :: bl, i, hb, h => by
    obtain ⟨h1, h2, h3⟩ := at_drop h
    rw [skip_yes h1 (by rw [h2]; exact hb x List.mem_cons_self), skip_blanks bl (i + 1) (fun y hy => hb y (List.mem_cons_of_mem _ hy)) h3, List.length_cons]
    omega
theorem parse_back {t : V} {S : ByteArray} {bl br : List UInt8} (hr : t.right = true) (hi : t.ints) (hb : Blanks bl) (hb2 : Blanks br) (h : S.data.toList = bl ++ (txt t ++ br)) : parse S = (t, 0, 0) := by
  unfold V.right V.within at hr
  simp only [Bool.and_eq_true, Bool.not_eq_true', decide_eq_true_eq] at hr
  obtain ⟨⟨h1, ⟨h2, h3⟩, h4⟩, h5⟩ := hr
  have hd : NoDig br := fun c r e => by
    have := hb2 c (by rw [e]; exact List.mem_cons_self)
    unfold blank at this
    simp at this
    exact digit_no (by omega)
  have h0 : S.data.toList.drop 0 = bl ++ (txt t ++ br) := h
  have hR := reads 16 t S bl br 0 0 ⟨h1, h2, h5, h3, hi⟩ hb (by omega) hd h0
  have hend := drop_app (drop_app h0)
  have hsk := skip_blanks br _ hb2 hend
  have hz := m_len S
  rw [h] at hz
  simp at hz
  unfold parse
  rw [hR]
  unfold fin
  dsimp only
  rw [hsk, if_neg (by omega)]
end M
end Go.Proofs.YtdkggnciamfcmaaGreatDoor

namespace Go.Proofs.YtdkggnciamfcmaaGreatDoor
set_option linter.unusedVariables false
open Go.RowKit
open M (V)

theorem M.intss_of : ∀ {l : List V}, (∀ j, j < l.length → M.V.ints (l.getD j default)) → M.V.intss l
  | [], _ => by simp [M.V.intss]
  | x :: r, h => by
    simp only [M.V.intss]
    exact ⟨h 0 (by simp), M.intss_of fun j hj => h (j + 1) (by simpa using hj)⟩
theorem VB.ints {w : World} {lo hi : Nat} : ∀ {d : Nat} {v : Value} {t : V}, VB w lo hi d v t → M.V.ints t
  | 0, _, _, h => h.elim
  | d + 1, _, t, ⟨A, n, c, B, m, e, _, _, _, h1, h2, _, hI, _⟩ => by
    have hs : M.V.intss t.its := M.intss_of fun j hj => by
      obtain ⟨b, off, _, _, _, hc⟩ := hI.at_ (by rw [← hI.len]; omega)
      obtain ⟨k, i, s, x, y, _, _, _, _, _, hv⟩ := hc j (by rw [← hI.len]; exact hj)
      exact VB.ints hv
    obtain ⟨k, n', s, its, ks⟩ := t
    simp only [M.V.ints]
    exact ⟨⟨h1, h2⟩, hs⟩
theorem VX.ints {w : World} {lo hi : Nat} {v : Value} {t : V} (h : VX w lo hi v t) : M.V.ints t := by obtain ⟨d, h⟩ := h; exact VB.ints h

theorem itoa_len {n : Int} (h1 : -9223372036854775808 ≤ n) (h2 : n ≤ 9223372036854775807) : (Lib.itoa n).length ≤ 20 := by
  unfold Lib.itoa
  split
  · have := Q.dd_len 18 n.natAbs (by omega)
    simp; omega
  · have := Q.dd_len 18 n.toNat (by omega)
    omega
theorem quote_fit {s : ByteArray} (h : s.size ≤ 4096) : (M.quote s.data.toList).length ≤ 16386 := by
  have := M.quote_len s.data.toList
  rw [M.m_len] at this; omega
theorem txts_len {f : Nat} (h : ∀ t, M.Pay f t → (M.txt t).length + 16400 ≤ 33000 * t.sz) : ∀ (b : Bool) (its : List V), M.Pays f its → (M.txts b its).length ≤ 33000 * V.szs its
  | b, [], _ => by simp [M.txts]
  | b, x :: l, hp => by
    obtain ⟨p1, p2⟩ := hp.cons
    have h1 := h x p1
    have h2 := txts_len h false l p2
    have h3 : (M.sep b).length ≤ 2 := by cases b <;> decide
    rw [M.txts, List.length_append, List.length_append, V.szs, Nat.mul_add]; omega
theorem txtp_len {f : Nat} (h : ∀ t, M.Pay f t → (M.txt t).length + 16400 ≤ 33000 * t.sz) : ∀ (b : Bool) (its : List V) (ks : List ByteArray), M.Pays f its → (∀ k ∈ ks, k.size ≤ 4096) → (M.txtp b its ks).length ≤ 33000 * V.szs its
  | b, [], ks, _, _ => by simp [M.txtp]
  | b, x :: l, ks, hp, hk => by
    obtain ⟨p1, p2⟩ := hp.cons
    have h1 := h x p1
    have h2 := txtp_len h false l ks.tail p2 (fun k hk' => hk k (List.mem_of_mem_tail hk'))
    have h3 : (M.sep b).length ≤ 2 := by cases b <;> decide
    have h4 : (M.quote (ks.headD ByteArray.empty).data.toList).length ≤ 16386 := by
      cases ks with
      | nil => exact quote_fit (by decide)
      | cons k r => exact quote_fit (hk k List.mem_cons_self)
    rw [M.txtp]
    simp only [List.length_append, List.length_cons, List.length_nil]
    rw [V.szs, Nat.mul_add]; omega
theorem txt_len : ∀ (f : Nat) (t : V), M.Pay f t → (M.txt t).length + 16400 ≤ 33000 * t.sz
  | 0, t, h => absurd h.dp (by have := V.dep_pos t; omega)
  | f + 1, t, h => by
    have hI := h.items
    have hkf := M.keys_fit h.sh
    have htf := M.text_fit h.sh
    have hs := V.sz_eq t
    have hi := h.it
    obtain ⟨k, n, s, its, ks⟩ := t
    simp only [M.V.ints] at hi
    simp only [V.its, V.ks, V.s] at hI hkf htf hs
    have h1 := txts_len (txt_len f) true its hI
    have h2 := txtp_len (txt_len f) true its ks hI hkf
    have h3 := itoa_len hi.1.1 hi.1.2
    have h4 := quote_fit htf
    rw [hs, M.txt]
    split
    · split <;> (simp; omega)
    split
    · omega
    split
    · omega
    split
    · simp; omega
    split
    · simp; omega
    · simp; omega

/-! ### Few -/
def FewL (d : Nat) : Prop := ∀ (v : Value) (t : V) (lo hi : Nat) (n : Int) (w : World), VB w lo hi d v t → hi ≤ w.heap.size → 0 ≤ n → n ≤ 1000000 →
  Calls Tryz.prog 9 #[v, .int .i64 n] w fun e w' => ∃ F : Int, e = .returned (.int .i64 F) ∧ (0 ≤ F → (t.sz : Int) + F ≤ n) ∧ -140737488355400 ≤ F ∧ F ≤ n ∧ Below w.heap.size w w'
set_option maxRecDepth 100000 in
set_option maxHeartbeats 2000000 in
theorem fewl_step (d : Nat) (ih : FewL d) : FewL (d + 1) := by
  intro v t lo hi n w h hhi h0 h1
  have hsz := V.sz_eq t
  obtain ⟨A, m, c, B, p, e, rfl, k1, k2, n1, n2, s1, hI, hK⟩ := h
  have hcap := hI.cap
  have hmost := hI.most
  have hcap2 := hK.cap
  have hmost2 := hK.most
  have HL := Lib.hid hI.len
  have HL2 := Lib.hid hK.len
  have HI := Lib.hid hI
  have HK := Lib.hid hK
  have HSZ := Lib.hid hsz
  have IH := Lib.hid ih
  clear ih hI hK hsz
  go_enter Tryz.func9, Tryz.ntmps9
  go_wp2_with fail
  go_loopw [1, 5] (fun x y wr => ∃ (j : Nat) (N : Int), y = .int .i64 j ∧ j ≤ p ∧ x = .int .i64 N ∧ -140737488355400 ≤ N ∧ N ≤ n - 1 ∧ Below (w.heap.size + 1) (w.alloc (.cells #[.int .i64 t.k, .int .i64 t.n, .string t.s, .slice A m c, .slice B p e] 25)) wr) (fun _ y _ => p - (intOf y).toNat)
  case atStart => exact ⟨0, _, rfl, by omega, rfl, by omega, by omega, Below.refl _ _⟩
  case round =>
    obtain ⟨j, N, rfl, hj, rfl, hN1, hN2, hbox⟩ := hrel
    obtain ⟨b0, b1, b2, b3, b4⟩ := box5 hbox
    by_cases hgo : j < p ∧ 0 ≤ N
    · obtain ⟨hlt, hN⟩ := hgo
      obtain ⟨b9, off9, rfl, c9⟩ := HK.out.item (box_below hbox) hhi hlt
      have hks := HK.out.size j hlt
      generalize t.ks.getD j ByteArray.empty = kx at *
      have hbs := box_size hbox
      go_wp2_with fail
      go_roundw
      case rel => exact ⟨j + 1, N - (kx.size : Int), by go_num, by omega, by go_num, by omega, by omega, hbox⟩
      case measure => simp [intOf]; omega
    · have hex : ¬ j < p ∨ (j < p ∧ ¬ 0 ≤ N) := by omega
      clear hgo
      rcases hex with hlt | ⟨hlt, hN⟩
      all_goals
        go_wp2_with fail
        go_loopw [1, 6] (fun x y wr => ∃ (j : Nat) (N : Int), y = .int .i64 j ∧ j ≤ m ∧ x = .int .i64 N ∧ Hid (0 ≤ N → (V.szs (t.its.take j) : Int) + N ≤ n - 1) ∧ -140737488355400 ≤ N ∧ N ≤ n - 1 ∧ Below (w.heap.size + 1) (w.alloc (.cells #[.int .i64 t.k, .int .i64 t.n, .string t.s, .slice A m c, .slice B p e] 25)) wr) (fun _ y _ => m - (intOf y).toNat)
        case atStart => exact ⟨0, N, rfl, by omega, rfl, Lib.hid (fun _ => by simp [V.szs]; omega), by omega, by omega, hbox⟩
        case round =>
          clear b0 b1 b2 b3 b4 hbox hN1 hN2
          obtain ⟨j2, N2, rfl, hj2, rfl, HN, hN1, hN2, hbox2⟩ := hrel
          obtain ⟨b0, b1, b2, b3, b4⟩ := box5 hbox2
          have hbs := box_size hbox2
          by_cases hlt2 : j2 < m
          · by_cases hN3 : 0 ≤ N2
            · obtain ⟨b, off, kk, ii, ss, x, y, rfl, c0, c1, c2, c3, c4, hv⟩ := HI.out.item (box_below hbox2) hhi hlt2
              have hsn := V.szs_snoc (l := t.its) (i := j2) (by rw [HL.out]; exact hlt2)
              have HSN := Lib.hid hsn
              clear hsn
              go_wp2_with fail
              refine (IH.out _ _ _ _ _ _ hv (by omega) hN3 (by omega)).mono ?_
              rintro e w1 ⟨F, rfl, hF, hF1, hF2, hb1⟩
              have hbox' := box_step hbox2 hb1
              have HN' : Hid (0 ≤ F → (V.szs (t.its.take (j2 + 1)) : Int) + F ≤ n - 1) := Lib.hid (fun h => by have h1 := hF h; have h2 := HN.out hN3; have h3 := HSN.out; omega)
              clear c0 c1 c2 c3 c4 b0 b1 b2 b3 b4 hF hb1 hv
              go_wp2_with fail
              go_roundw
              case rel => exact ⟨j2 + 1, F, by go_num, by omega, rfl, HN', by omega, by omega, hbox'⟩
              case measure => simp [intOf]; omega
            · go_wp2_with fail
              go_ret
              exact ⟨N2, rfl, fun h => by omega, by omega, by omega, box_below hbox2⟩
          · have hfin : 0 ≤ N2 → (t.sz : Int) + N2 ≤ n := fun h => by
              have h1 := HN.out h
              rw [List.take_of_length_le (by rw [HL.out]; omega)] at h1
              have h2 := HSZ.out
              omega
            have HF := Lib.hid hfin
            clear hfin
            go_wp2_with fail
            go_ret
            exact ⟨N2, rfl, HF.out, by omega, by omega, box_below hbox2⟩
theorem fewl_at : ∀ d, FewL d
  | 0 => fun _ _ _ _ _ _ h _ _ _ => h.elim
  | d + 1 => fewl_step d (fewl_at d)
theorem fewlX {v : Value} {t : V} {lo hi : Nat} {n : Int} {w : World} (h : VX w lo hi v t) (hhi : hi ≤ w.heap.size) (h0 : 0 ≤ n) (h1 : n ≤ 1000000) :
    Calls Tryz.prog 9 #[v, .int .i64 n] w fun e w' => ∃ F : Int, e = .returned (.int .i64 F) ∧ (0 ≤ F → (t.sz : Int) + F ≤ n) ∧ -140737488355400 ≤ F ∧ F ≤ n ∧ Below w.heap.size w w' := by
  obtain ⟨d, h⟩ := h
  exact fewl_at d v t lo hi n w h hhi h0 h1
end Go.Proofs.YtdkggnciamfcmaaGreatDoor

namespace Go.Proofs.YtdkggnciamfcmaaGreatDoor
set_option linter.unusedVariables false
open Go.RowKit
open M (V)
set_option maxRecDepth 100000

theorem right_pay {t : V} (hr : t.right = true) (hi : M.V.ints t) : M.Pay 16 t ∧ t.sz ≤ 1000 := by
  unfold V.right V.within at hr
  simp only [Bool.and_eq_true, Bool.not_eq_true', decide_eq_true_eq] at hr
  obtain ⟨⟨h1, ⟨h2, h3⟩, h4⟩, h5⟩ := hr
  exact ⟨⟨h1, h2, h5, h3, hi⟩, h4⟩
theorem tstr_list (l : List UInt8) : (tstr l).data.toList = l := by unfold tstr; simp
theorem ts_size (l : List UInt8) : (tstr l).size = l.length := by rw [← M.m_len, tstr_list]

set_option maxHeartbeats 4000000 in
theorem roundTripW {v : Value} {t : V} {lo hi : Nat} {w : World} (h : VX w lo hi v t) (hhi : hi ≤ w.heap.size) (G : TGate w) :
    Calls Tryz.prog 5 #[v] w fun e w' => e = .returned (.bool true) ∧ Below w.heap.size w w' := by
  have hint := h.ints
  obtain ⟨A, m, c, B, p, e, rfl⟩ := h.form
  have hb0 := box_refl w (.cells #[.int .i64 t.k, .int .i64 t.n, .string t.s, .slice A m c, .slice B p e] 25)
  have HG := Lib.hid G
  have H := Lib.hid h
  have HI := Lib.hid hint
  have hz0 := box_size hb0
  clear G h hint
  go_enter Tryz.func5, Tryz.ntmps5
  go_wp2_with fail
  refine (fewlX (H.out.later (box_below hb0) hhi) (by omega) (by omega) (by omega)).mono ?_
  rintro e w1 ⟨F, rfl, hF, hF1, hF2, hb1⟩
  have hx1 := box_step hb0 hb1
  have hz1 := box_size hx1
  obtain ⟨b0, b1, b2, b3, b4⟩ := box5 hx1
  by_cases hneg : F < 0
  · go_wp2_with fail
    refine (lives_any _ (HG.out.below (box_below hx1))).mono ?_
    rintro e w2 ⟨rfl, hb2⟩
    have hx2 := box_step hx1 hb2
    go_wp2_with fail
    go_ret
    exact ⟨rfl, box_below hx2⟩
  have hsz : t.sz ≤ 1000000 := by have := hF (by omega); omega
  have HSZ := Lib.hid hsz
  clear hF hsz
  go_wp2_with fail
  refine (rRightX (H.out.later (box_below hx1) hhi) (by omega) HSZ.out).mono ?_
  rintro e w2 ⟨rfl, hb2⟩
  have hx2 := box_step hx1 hb2
  have hz2 := box_size hx2
  clear b0 b1 b2 b3 b4
  obtain ⟨b0, b1, b2, b3, b4⟩ := box5 hx2
  cases hr : t.right with
  | false =>
    clear hr
    go_wp2_with fail
    refine (lives_any _ (HG.out.below (box_below hx2))).mono ?_
    rintro e w3 ⟨rfl, hb3⟩
    have hx3 := box_step hx2 hb3
    go_wp2_with fail
    go_ret
    exact ⟨rfl, box_below hx3⟩
  | true =>
    obtain ⟨pay, hs1⟩ := right_pay hr HI.out
    have hlen := txt_len 16 t pay
    obtain ⟨T, hT⟩ : ∃ T, T = tstr (M.txt t) := ⟨_, rfl⟩
    have hTl : T.data.toList = M.txt t := by rw [hT, tstr_list]
    have hTs : T.size ≤ 33000000 := by rw [hT, ts_size]; omega
    have hP1 : M.parse T = (t, 0, 0) := M.parse_back (bl := []) (br := []) hr HI.out M.blanks_nil M.blanks_nil (by rw [hTl]; simp)
    have hbl : M.Blanks [32, 9] := fun c hc => by simp at hc; rcases hc with rfl | rfl <;> rfl
    have hbr : M.Blanks [13, 10, 32] := fun c hc => by simp at hc; rcases hc with rfl | rfl | rfl <;> rfl
    have hP2 : M.parse ((⟨#[32, 9]⟩ : ByteArray) ++ T ++ (⟨#[13, 10, 32]⟩ : ByteArray)) = (t, 0, 0) := M.parse_back (bl := [32, 9]) (br := [13, 10, 32]) hr HI.out hbl hbr (by
      rw [ByteArray.data_append, ByteArray.data_append, Array.toList_append, Array.toList_append, hTl, List.append_assoc])
    have hS : ((⟨#[32, 9]⟩ : ByteArray) ++ T ++ (⟨#[13, 10, 32]⟩ : ByteArray)).size ≤ 1000000000 := by
      rw [ByteArray.size_append, ByteArray.size_append]
      have e1 : (⟨#[32, 9]⟩ : ByteArray).size = 2 := rfl
      have e2 : (⟨#[13, 10, 32]⟩ : ByteArray).size = 3 := rfl
      omega
    have hPr : M.print t = (T, 0) := by unfold M.print; rw [if_pos hr, hT]
    have HP1 := Lib.hid hP1; have HP2 := Lib.hid hP2; have HPR := Lib.hid hPr; have HTS : Hid (T.size ≤ 1000000000) := Lib.hid (by omega)
    have HLN : Hid ((M.txt t).length ≤ 140737488355000) := Lib.hid (by omega)
    have HR := Lib.hid (V.same_yes (rfl : t = t))
    obtain ⟨S, hS2⟩ : ∃ S, (⟨#[32, 9]⟩ : ByteArray) ++ T ++ (⟨#[13, 10, 32]⟩ : ByteArray) = S := ⟨_, rfl⟩
    rw [hS2] at hS HP2
    have HSS := Lib.hid hS2; have HS := Lib.hid hS
    have hts0 : T.size ≤ 33000000 := hTs
    clear pay hs1 hlen hT hTl hTs hP1 hbl hbr hP2 hS hPr hS2 hr
    go_wp2_with fail
    refine (print_c (H.out.later (box_below hx2) hhi) (by omega) HLN.out (HG.out.below (box_below hx2))).mono ?_
    rintro e w3 ⟨rfl, hb3⟩
    rw [HPR.out]
    have hx3 := box_step hx2 hb3
    have hz3 := box_size hx3
    clear b0 b1 b2 b3 b4 hx2
    go_wp2_with fail
    refine (parse_c HTS.out (HG.out.below (box_below hx3))).mono ?_
    rintro e w4 ⟨v4, rfl, hv4, hb4⟩
    rw [HP1.out] at hv4 ⊢
    obtain ⟨A4, n4, c4, B4, p4, e4, rfl⟩ := hv4.agg
    have hx4 := box_step hx3 hb4
    have hz4 := box_size hx4
    have hn4 := box_new w4 (.cells #[.int .i64 t.k, .int .i64 t.n, .string t.s, .slice A4 n4 c4, .slice B4 p4 e4] 25)
    have hx5 := box_step hx4 hn4
    have HV4 := Lib.hid hv4
    clear hv4 hx3
    go_wp2_with fail
    rw [HSS.out]
    refine (parse_c HS.out (HG.out.below (box_below hx5))).mono ?_
    rintro e w6 ⟨v6, rfl, hv6, hb6⟩
    rw [HP2.out] at hv6 ⊢
    obtain ⟨A6, n6, c6, B6, p6, e6, rfl⟩ := hv6.agg
    have hx6 := box_step hx5 hb6
    have hz6 := box_size hx6
    have hn6 := box_new w6 (.cells #[.int .i64 t.k, .int .i64 t.n, .string t.s, .slice A6 n6 c6, .slice B6 p6 e6] 25)
    have hx7 := box_step hx6 hn6
    have hlt6 : w4.heap.size < w6.heap.size := by have := hb6.size; rw [World.size_alloc] at this; omega
    have h5 := (hn6.block w4.heap.size hlt6).trans ((hb6.block w4.heap.size (by rw [World.size_alloc]; omega)).trans (heap_alloc_new w4 (.cells #[.int .i64 t.k, .int .i64 t.n, .string t.s, .slice A4 n4 c4, .slice B4 p4 e4] 25)))
    have h8 := heap_alloc_new w6 (.cells #[.int .i64 t.k, .int .i64 t.n, .string t.s, .slice A6 n6 c6, .slice B6 p6 e6] 25)
    have hbel4 := hn4.trans ((hb6.mono hn4.size).trans (hn6.mono (Nat.le_of_lt hlt6)))
    have HV4' := Lib.hid (HV4.out.later hbel4 (Nat.le_refl _))
    have HV6 := Lib.hid (hv6.later hn6 (Nat.le_refl _))
    have H7 := Lib.hid (H.out.later (box_below hx7) hhi)
    have H8 := Lib.hid h8
    obtain ⟨b0, b1, b2, b3, b4⟩ := box5 hx7
    obtain ⟨c0, c1, c2, c3, c4, -⟩ := lit5 h5
    have hz7 : w4.heap.size ≤ (w6.alloc (.cells #[.int .i64 t.k, .int .i64 t.n, .string t.s, .slice A6 n6 c6, .slice B6 p6 e6] 25)).heap.size := by rw [World.size_alloc]; omega
    have hz8 : w6.heap.size ≤ (w6.alloc (.cells #[.int .i64 t.k, .int .i64 t.n, .string t.s, .slice A6 n6 c6, .slice B6 p6 e6] 25)).heap.size := by rw [World.size_alloc]; omega
    have HZ7 := Lib.hid hz7; have HZ8 := Lib.hid hz8
    have hgt4 : w6.heap.size > w4.heap.size := hlt6
    have hgt0 : w6.heap.size > w.heap.size := by omega
    clear h5 h8 hn6 hn4 hbel4 hz7 hz8 hv6 hx4 hx5 hx6 hb6 HV4
    go_wp2_with fail
    refine (rSameX H7.out ⟨17, HV4'.out⟩ (Nat.le_trans hhi (by simp; omega)) HZ7.out).mono ?_
    rintro e w8 ⟨rfl, hb8⟩
    rw [HR.out]
    have hx8 := box_step hx7 hb8
    have HB8 := Lib.hid ((hb8.block w6.heap.size (by rw [World.size_alloc]; omega)).trans H8.out)
    have H9 := Lib.hid (H.out.later (box_below hx8) hhi)
    have HV9 := Lib.hid (HV6.out.later hb8 HZ8.out)
    have hz9 := hb8.size
    rw [World.size_alloc] at hz9
    clear b0 b1 b2 b3 b4 c0 c1 c2 c3 c4 hx7 hb8
    obtain ⟨b0, b1, b2, b3, b4⟩ := box5 hx8
    obtain ⟨c0, c1, c2, c3, c4, -⟩ := lit5 HB8.out
    go_wp2_with fail
    refine (rSameX H9.out ⟨17, HV9.out⟩ (by omega) (by omega)).mono ?_
    rintro e w10 ⟨rfl, hb10⟩
    rw [HR.out]
    have hx10 := box_step hx8 hb10
    clear b0 b1 b2 b3 b4 c0 c1 c2 c3 c4 hx8 hb10
    go_wp2_with fail
    refine (lives_any _ (HG.out.below (box_below hx10))).mono ?_
    rintro e w11 ⟨rfl, hb11⟩
    have hx11 := box_step hx10 hb11
    go_wp2_with fail
    go_ret
    exact ⟨rfl, box_below hx11⟩
end Go.Proofs.YtdkggnciamfcmaaGreatDoor
