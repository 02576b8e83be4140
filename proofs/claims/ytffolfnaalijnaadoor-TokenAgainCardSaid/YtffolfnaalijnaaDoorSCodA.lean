/-
  Layer 7: the code's scanner: its smallest methods.
-/
import Derived.Test.YtffolfnaalijnaaDoorSMath
import Derived.Test.YtffolfnaalijnaaDoorChecked
import Derived.WalkKit
import Derived.WalkLawsBesides
import Derived.BigQuiet
import Derived.Lib.Hide
import Derived.Maps.AppendAt
namespace Go.Proofs.YtffolfnaalijnaaDoor
set_option linter.unusedVariables false
open Go.RowKit

/-- The table's cells. -/
def tabCells : Array Value := (Array.range 256).map fun i => .int .u8 (Z.cls i : Int)
/-- The closure over the table in block h. -/
abbrev clsV (h : Nat) : Value := .func (.func 32) #[] #[.pointer (some ⟨h, 0, none⟩)]
/-- The scanner in block g, its table in block h. -/
structure Sc (w : World) (g h : Nat) (s : ByteArray) (i : Nat) : Prop where
  blk : w.heap[g]? = some (.cells #[.string s, .int .i64 (i : Int), clsV h] 38 (0, 0))
  tab : w.heap[h]? = some (.cells tabCells 60 (0, 0))
  ne : g ≠ h
  le : i ≤ s.size
  fit : s.size ≤ 16384

theorem tab_size : tabCells.size = 256 := by simp [tabCells]
theorem tab_at {c : Nat} (h : c < 256) : tabCells[c]? = some (.int .u8 (Z.cls c : Int)) := by
  simp [tabCells, h]

section
variable {w w' : World} {g h i : Nat} {s : ByteArray}
theorem row_lt7 {w : World} {g : Nat} {o : Obj} (h : w.heap[g]? = some o) : g < w.heap.size := by
  exact (Array.getElem?_eq_some_iff.1 h).1
theorem Sc.lt (k : Sc w g h s i) : g < w.heap.size := row_lt7 k.blk
theorem Sc.lth (k : Sc w g h s i) : h < w.heap.size := row_lt7 k.tab
theorem Sc.cells (k : Sc w g h s i) : w.cell? ⟨g, 0, none⟩ = some (.string s) ∧ w.cell? ⟨g, 1, none⟩ = some (.int .i64 (i : Int)) ∧ w.cell? ⟨g, 2, none⟩ = some (clsV h) ∧ w.frozen? ⟨g, 1, none⟩ = false :=
  ⟨cell_of_row w g 0 _ _ _ k.blk, cell_of_row w g 1 _ _ _ k.blk, cell_of_row w g 2 _ _ _ k.blk, frozen_of_row w g 1 _ _ k.blk⟩
theorem Sc.step (k : Sc w g h s i) {j : Nat} (hj : j ≤ s.size) : Sc (w.setCell ⟨g, 1, none⟩ (.int .i64 (j : Int))) g h s j :=
  ⟨heap_setCell_same _ _ 1 _ _ _ k.blk, (heap_setCell_other _ _ _ _ (fun e => k.ne e.symm)).trans k.tab, k.ne, hj, k.fit⟩
theorem Sc.drewN (k : Sc w g h s i) (n : Nat) : Sc (w.drewN n) g h s i := ⟨k.blk, k.tab, k.ne, k.le, k.fit⟩
theorem Sc.kept {r : Option Nat} (k : Sc w g h s i) (hg : w.grownBy w' r) (h1 : some g ≠ r) (h2 : some h ≠ r) : Sc w' g h s i :=
  ⟨(hg.block g k.lt h1).trans k.blk, (hg.block h k.lth h2).trans k.tab, k.ne, k.le, k.fit⟩
theorem Sc.alloc (k : Sc w g h s i) (o : Obj) : Sc (w.alloc o) g h s i := k.kept (World.grownBy_alloc w o none) (by simp) (by simp)
theorem grown7_drewN (w : World) (k : Nat) (r : Option Nat) : w.grownBy (w.drewN k) r := ⟨rfl, rfl, rfl, Nat.le_refl _, fun _ _ _ => rfl⟩
theorem grown7_refl (w : World) (r : Option Nat) : w.grownBy w r := ⟨rfl, rfl, rfl, Nat.le_refl _, fun _ _ _ => rfl⟩
theorem grown7_set (w : World) (g k : Nat) (v : Value) : w.grownBy (w.setCell ⟨g, k, none⟩ v) (some g) := ⟨rfl, rfl, rfl, by simp [World.setCell], fun x _ hx => heap_setCell_other _ _ _ _ (fun e => hx (by rw [e]))⟩
end

/-- What is left from a place on. -/
abbrev left (s : ByteArray) (i : Nat) : List UInt8 := s.data.toList.drop i
theorem l7_len (s : ByteArray) : s.data.toList.length = s.size := by rw [Array.length_toList]; rfl
theorem left_cons {s : ByteArray} {i : Nat} (h : i < s.size) : left s i = s[i] :: left s (i + 1) := by
  have hl : i < s.data.toList.length := by rw [l7_len]; exact h
  show s.data.toList.drop i = _
  rw [List.drop_eq_getElem_cons hl]; rfl
theorem left_nil {s : ByteArray} {i : Nat} (h : s.size ≤ i) : left s i = [] := List.drop_eq_nil_of_le (by rw [l7_len]; exact h)
theorem peek_at {s : ByteArray} {i : Nat} (h : i < s.size) : Z.peek (left s i) = (s[i].toNat : Int) := by rw [left_cons h]; rfl
theorem peek_end {s : ByteArray} {i : Nat} (h : s.size ≤ i) : Z.peek (left s i) = -1 := by rw [left_nil h]; rfl
theorem peek_range (l : List UInt8) : -1 ≤ Z.peek l ∧ Z.peek l ≤ 255 := by
  cases l with
  | nil => decide
  | cons c r => have := c.toNat_lt; show -1 ≤ (c.toNat : Int) ∧ (c.toNat : Int) ≤ 255; omega
theorem left_drop (s : ByteArray) (i n : Nat) : (left s i).drop n = left s (i + n) := List.drop_drop

set_option maxRecDepth 100000 in
set_option maxHeartbeats 1000000 in
theorem peek_any {w : World} {g h i : Nat} {s : ByteArray} (k : Sc w g h s i) :
    Calls Tryd.prog 50 #[.pointer (some ⟨g, 0, none⟩)] w fun e w' => e = .returned (.int .i32 (Z.peek (left s i))) ∧ ∃ n, w' = w.drewN n := by
  obtain ⟨c0, c1, c2, f1⟩ := k.cells
  have hl := k.le
  have hf := k.fit
  by_cases hlt : i < s.size
  · rw [peek_at hlt]
    have he : ((i : Int) == (s.size : Int)) = false := by rw [beq_eq_false_iff_ne]; omega
    have i0 : (0 : Int) ≤ (i : Int) := by omega
    have i1 : (i : Int) < (s.size : Int) := by omega
    have hb := s[i].toNat_lt
    clear k
    go_enter Tryd.func50, Tryd.ntmps50
    go_wp2_with fail
    go_quiet (fail)
    go_wp2_with fail
    go_quiet (fail)
    go_wp2_with fail
    go_ret
    exact ⟨rfl, _, World.drewN_drewN _ _ _⟩
  · obtain rfl : i = s.size := by omega
    rw [peek_end (Nat.le_refl _)]
    clear k
    go_enter Tryd.func50, Tryd.ntmps50
    go_wp2_with fail
    go_quiet (fail)
    go_wp2_with fail
    go_ret
    exact ⟨rfl, _, rfl⟩

theorem cls_yes {w : World} {g h i : Nat} {s : ByteArray} (k : Sc w g h s i) {c : Nat} (hc : c < 256) : w.cell? ⟨h, c, none⟩ = some (.int .u8 (Z.cls c : Int)) := by
  rw [cell_of_row w h c _ _ _ k.tab]; exact tab_at hc

set_option maxRecDepth 100000 in
set_option maxHeartbeats 1000000 in
theorem clsV_any {w : World} {g h i : Nat} {s : ByteArray} (k : Sc w g h s i) (l : List UInt8) :
    Calls Tryd.prog 32 #[.int .i32 (Z.peek l), .pointer (some ⟨h, 0, none⟩)] w fun e w' => e = .returned (.int .u8 (Z.clsL l : Int)) ∧ ∃ n, w' = w.drewN n := by
  cases l with
  | nil =>
    show Calls Tryd.prog 32 #[.int .i32 (-1), .pointer (some ⟨h, 0, none⟩)] w fun e w' => e = .returned (.int .u8 ((6 : Nat) : Int)) ∧ ∃ n, w' = w.drewN n
    clear k
    go_enter Tryd.func32, Tryd.ntmps32
    go_wp2
    go_ret
    exact ⟨rfl, 0, rfl⟩
  | cons c r =>
    show Calls Tryd.prog 32 #[.int .i32 (c.toNat : Int), .pointer (some ⟨h, 0, none⟩)] w fun e w' => e = .returned (.int .u8 (Z.cls c.toNat : Int)) ∧ ∃ n, w' = w.drewN n
    have hc := c.toNat_lt
    have hcell := cls_yes k hc
    obtain ⟨n, hn⟩ : ∃ n, n = c.toNat := ⟨_, rfl⟩
    rw [← hn] at hc hcell ⊢
    obtain ⟨v, hv⟩ : ∃ v, v = Z.cls n := ⟨_, rfl⟩
    rw [← hv] at hcell ⊢
    have he : ((n : Int) == -1) = false := by rw [beq_eq_false_iff_ne]; omega
    have i0 : (0 : Int) ≤ (n : Int) := by omega
    have i1 : (n : Int) < 256 := by omega
    clear k hn hv
    go_enter Tryd.func32, Tryd.ntmps32
    go_wp2
    go_ret
    exact ⟨rfl, 0, rfl⟩

set_option maxRecDepth 100000 in
set_option maxHeartbeats 1000000 in
theorem class_any {w : World} {g h i : Nat} {s : ByteArray} (k : Sc w g h s i) :
    Calls Tryd.prog 34 #[.pointer (some ⟨g, 0, none⟩)] w fun e w' => e = .returned (.int .u8 (Z.clsL (left s i) : Int)) ∧ ∃ n, w' = w.drewN n := by
  obtain ⟨c0, c1, c2, f1⟩ := k.cells
  have HK := Lib.hid k
  clear k
  go_enter Tryd.func34, Tryd.ntmps34
  go_wp2_with fail
  go_quiet (first | (go_at_call 50; refine Calls.quiet_of (peek_any (HK.out.drewN _))) | (go_at_call 32; refine Calls.quiet_of (clsV_any (HK.out.drewN _) _)))
  go_wp2_with fail
  go_ret
  exact ⟨rfl, _, rfl⟩

set_option maxRecDepth 100000 in
set_option maxHeartbeats 1000000 in
theorem take_any {w : World} {g h i : Nat} {s : ByteArray} (k : Sc w g h s i) :
    Calls Tryd.prog 49 #[.pointer (some ⟨g, 0, none⟩)] w fun e w' => e = .returned (.int .i32 (Z.peek (left s i))) ∧ Sc w' g h s (min (i + 1) s.size) ∧ w.grownBy w' (some g) := by
  have hl := k.le
  have hf := k.fit
  have HK := Lib.hid k
  by_cases hlt : i < s.size
  · have hb := s[i].toNat_lt
    rw [Nat.min_eq_left hlt, peek_at hlt]
    have HP := Lib.hid (peek_at hlt)
    obtain ⟨c, hc⟩ : ∃ c, c = s[i].toNat := ⟨_, rfl⟩
    rw [← hc] at hb ⊢
    have HC := Lib.hid hc
    have he : ((c : Int) == -1) = false := by rw [beq_eq_false_iff_ne]; omega
    have he2 : ((c : Int) != -1) = true := by rw [bne_iff_ne]; omega
    clear k hc
    go_enter Tryd.func49, Tryd.ntmps49
    go_wp2_with fail
    refine (peek_any HK.out).mono ?_
    rintro e w1 ⟨rfl, n, rfl⟩
    rw [HP.out, ← HC.out]
    have HK1 := Lib.hid (HK.out.drewN n)
    obtain ⟨c0, c1, c2, f1⟩ := HK1.out.cells
    go_wp2_with fail
    go_ret
    have hs : Sc ((w.drewN n).setCell ⟨g, 1, none⟩ (.int .i64 ((i : Int) + 1))) g h s (i + 1) := HK1.out.step (j := i + 1) hlt
    exact ⟨rfl, hs, (grown7_drewN w n (some g)).trans (grown7_set _ _ _ _)⟩
  · obtain rfl : i = s.size := by omega
    rw [Nat.min_eq_right (by omega), peek_end (Nat.le_refl _)]
    have HP := Lib.hid (peek_end (s := s) (Nat.le_refl _))
    clear k
    go_enter Tryd.func49, Tryd.ntmps49
    go_wp2_with fail
    refine (peek_any HK.out).mono ?_
    rintro e w1 ⟨rfl, n, rfl⟩
    rw [HP.out]
    go_wp2_with fail
    go_ret
    exact ⟨rfl, HK.out.drewN n, grown7_drewN w n (some g)⟩

/-- A row of classes that reads. -/
def CR (w : World) (b : Nat) (l : List Nat) : Prop := w.heap[b]? = some (.cells (l.map fun (c : Nat) => Value.int .u8 (c : Int)).toArray 59 (0, 0)) ∧ l.length ≤ 2
theorem CR.cell {w : World} {b : Nat} {l : List Nat} (h : CR w b l) {j : Nat} (hj : j < l.length) : w.cell? ⟨b, j, none⟩ = some (.int .u8 ((l.getD j 0 : Nat) : Int)) := by
  rw [cell_of_row w b j _ _ _ h.1]; simp [hj, List.getD]
theorem CR.lt {w : World} {b : Nat} {l : List Nat} (h : CR w b l) : b < w.heap.size := row_lt7 h.1
theorem CR.kept {w w' : World} {b : Nat} {l : List Nat} {r : Option Nat} (h : CR w b l) (hg : w.grownBy w' r) (hb : some b ≠ r) : CR w' b l := ⟨(hg.block b h.lt hb).trans h.1, h.2⟩

theorem has_at {l : List Nat} {j c : Nat} (hj : j < l.length) (h : c = l.getD j 0) : l.contains c = true := by
  subst h; simp [List.getD, hj]
theorem has_not {l : List Nat} {j c : Nat} (hj : ¬ j < l.length) (h : ∀ q, q < j → q < l.length → c ≠ l.getD q 0) : l.contains c = false := by
  rw [Bool.eq_false_iff]
  intro hc
  have hm : c ∈ l := by simpa using hc
  obtain ⟨q, hq, e⟩ := List.getElem_of_mem hm
  exact h q (by omega) hq (by simp [List.getD, hq, e])

set_option maxRecDepth 100000 in
set_option maxHeartbeats 1000000 in
theorem index_cls {w : World} {b : Nat} {l : List Nat} (h : CR w b l) (c : Nat) :
    Calls Tryd.prog 58 #[.slice (some ⟨b, 0, none⟩) l.length l.length, .int .u8 (c : Int)] w fun e w' => ∃ r : Int, e = .returned (.int .i64 r) ∧ decide (0 ≤ r) = l.contains c ∧ w' = w := by
  have hlen := h.2
  have HH := Lib.hid h
  obtain ⟨n, hn⟩ : ∃ n, n = l.length := ⟨_, rfl⟩
  rw [← hn] at hlen ⊢
  have HN := Lib.hid hn
  obtain ⟨B, hB⟩ : ∃ B, B = l.contains c := ⟨_, rfl⟩
  rw [← hB]
  have HB := Lib.hid hB
  clear h hn hB
  go_enter Tryd.func58, Tryd.ntmps58
  go_wp2_with fail
  go_loop [8] (fun i => ∃ j : Nat, j ≤ n ∧ i = .int .i64 j ∧ Hid (∀ q, q < j → q < l.length → c ≠ l.getD q 0)) (fun i => n - (intOf i).toNat)
  case atStart => exact ⟨0, Nat.zero_le _, rfl, Lib.hid fun q hq => absurd hq (Nat.not_lt_zero _)⟩
  case round =>
    obtain ⟨j, hj, rfl, HA⟩ := hrel
    by_cases hlt : j < n
    · have hc := HH.out.cell (j := j) (by rw [← HN.out]; exact hlt)
      obtain ⟨x, hx⟩ : ∃ x, x = l.getD j 0 := ⟨_, rfl⟩
      rw [← hx] at hc
      have HX := Lib.hid hx
      clear hx
      have hlti : decide ((j : Int) < (n : Int)) = true := by simp; omega
      by_cases hcx : c = x
      · have he : ((c : Int) == (x : Int)) = true := by rw [hcx]; simp
        have HC := Lib.hid hcx
        clear hcx
        go_wp2_with fail
        go_ret
        refine ⟨_, rfl, ?_, rfl⟩
        rw [HB.out, has_at (by rw [← HN.out]; exact hlt) (HC.out.trans HX.out)]
        simp
      · have he : ((c : Int) == (x : Int)) = false := by rw [beq_eq_false_iff_ne]; omega
        have HC := Lib.hid hcx
        clear hcx
        go_wp2_with fail
        go_round
        case rel =>
          refine ⟨j + 1, by omega, by go_num, Lib.hid fun q hq h2 => ?_⟩
          rcases Nat.lt_or_ge q j with h1 | h1
          · exact HA.out q h1 h2
          · obtain rfl : q = j := by omega
            rw [← HX.out]; exact HC.out
        case measure => simp [intOf]; omega
    · have hlti : decide ((j : Int) < (n : Int)) = false := by simp; omega
      go_wp2_with fail
      go_ret
      refine ⟨_, rfl, ?_, rfl⟩
      rw [HB.out, has_not (by rw [← HN.out]; exact hlt) HA.out]
      rfl

set_option maxHeartbeats 1000000 in
theorem has_cls {w : World} {b : Nat} {l : List Nat} (h : CR w b l) (c : Nat) :
    Calls Tryd.prog 48 #[.slice (some ⟨b, 0, none⟩) l.length l.length, .int .u8 (c : Int)] w fun e w' => e = .returned (.bool (l.contains c)) ∧ w' = w := by
  have HH := Lib.hid h
  obtain ⟨B, hB⟩ : ∃ B, B = l.contains c := ⟨_, rfl⟩
  rw [← hB]
  have HB := Lib.hid hB
  clear h hB
  go_enter Tryd.func48, Tryd.ntmps48
  go_wp2_with fail
  refine (index_cls HH.out c).mono ?_
  rintro e w' ⟨r, rfl, hr, rfl⟩
  rw [← HB.out] at hr
  go_wp2_with fail
  go_ret
  exact ⟨rfl, rfl⟩

/-- The place in a scanner's block. -/
def atOf7 (w : World) (g : Nat) : Nat := match w.cell? ⟨g, 1, none⟩ with | some (.int _ n) => n.toNat | _ => 0
theorem atOf7_eq {w : World} {g h i : Nat} {s : ByteArray} (k : Sc w g h s i) : atOf7 w g = i := by unfold atOf7; rw [k.cells.2.1]; exact Int.toNat_natCast i

/-- Bytes as a string. -/
def bS (l : List UInt8) : ByteArray := ⟨l.toArray⟩
theorem bS_data (l : List UInt8) : (bS l).data.toList = l := rfl
theorem bS_size (l : List UInt8) : (bS l).size = l.length := by unfold bS; simp [ByteArray.size]
theorem bS_of (s : ByteArray) : bS s.data.toList = s := rfl
theorem bS_inj {s t : ByteArray} (h : s.data.toList = t.data.toList) : s = t := by
  rw [← bS_of s, ← bS_of t, h]
theorem cut_eq {s : ByteArray} {i j : Nat} : s.extract i j = bS ((left s i).take (j - i)) := by
  apply bS_inj
  rw [ByteArray.data_extract, Array.toList_extract, bS_data]

/-- The bytes of the classes of a row. -/
def inL (L : List Nat) (c : Nat) : Bool := L.contains (Z.cls c)

set_option maxRecDepth 100000 in
set_option maxHeartbeats 2000000 in
theorem span_any {w : World} {g h i b : Nat} {s : ByteArray} {L : List Nat} (k : Sc w g h s i) (kb : CR w b L) (hbg : b ≠ g) (h6 : L.contains 6 = false) :
    Calls Tryd.prog 33 #[.pointer (some ⟨g, 0, none⟩), .slice (some ⟨b, 0, none⟩) L.length L.length] w fun e w' => e = .returned (.string (bS ((left s i).take (Z.spanN (inL L) (left s i))))) ∧ Sc w' g h s (i + Z.spanN (inL L) (left s i)) ∧ w.grownBy w' (some g) := by
  obtain ⟨N, hN⟩ : ∃ N, N = Z.spanN (inL L) (left s i) := ⟨_, rfl⟩
  rw [← hN]
  have HN := Lib.hid hN
  have hi := k.le
  have hf := k.fit
  have HK := Lib.hid k
  have HB := Lib.hid kb
  have H6 := Lib.hid h6
  have HBG := Lib.hid hbg
  obtain ⟨c0, c1, c2, f1⟩ := k.cells
  clear k kb hN h6 hbg
  go_enter Tryd.func33, Tryd.ntmps33
  go_wp2_with fail
  clear c0 c1 c2 f1
  go_loopw [] (fun wr => ∃ j : Nat, Hid (Sc wr g h s j) ∧ Hid (w.grownBy wr (some g)) ∧ i ≤ j ∧ j ≤ s.size ∧ Hid (i + N = j + Z.spanN (inL L) (left s j))) (fun wr => s.size - atOf7 wr g)
  case atStart => exact ⟨i, HK, Lib.hid (grown7_refl _ _), Nat.le_refl _, hi, Lib.hid (by rw [HN.out])⟩
  case round =>
    obtain ⟨j, HJ, HG, hij, hj, HS⟩ := hrel
    have HAT := Lib.hid (atOf7_eq HJ.out)
    go_wp2_with fail
    refine (class_any HJ.out).mono ?_
    rintro e w1 ⟨rfl, n1, rfl⟩
    have HJ1 := Lib.hid (HJ.out.drewN n1)
    have HG1 := Lib.hid (HG.out.trans (grown7_drewN wr n1 (some g)))
    clear HJ HG
    generalize wr.drewN n1 = w1 at *
    cases hc : L.contains (Z.clsL (left s j)) with
    | true =>
      have HC := Lib.hid hc
      clear hc
      go_wp2_with fail
      refine (has_cls (HB.out.kept HG1.out (fun e => HBG.out (by injection e))) _).mono ?_
      rintro e w2 ⟨rfl, rfl⟩
      rw [HC.out]
      have hlt : j < s.size := by
        refine Nat.lt_of_not_le fun hge => ?_
        have hc := HC.out
        rw [left_nil hge] at hc
        have := H6.out
        rw [show Z.clsL [] = 6 from rfl, this] at hc
        cases hc
      go_wp2_with fail
      refine (take_any HJ1.out).mono ?_
      rintro e w3 ⟨rfl, k3, hg3⟩
      rw [Nat.min_eq_left hlt] at k3
      have HK3 := Lib.hid k3
      have HG3 := Lib.hid (HG1.out.trans hg3)
      clear k3 hg3
      go_wp2_with fail
      refine ⟨⟨j + 1, HK3, HG3, by omega, hlt, Lib.hid ?_⟩, ?_⟩
      · have hc := HC.out
        rw [HS.out, left_cons hlt, Z.spanN_yes (by rw [left_cons hlt] at hc; exact hc)]
        omega
      · rw [atOf7_eq HK3.out, HAT.out]; omega
    | false =>
      have HC := Lib.hid hc
      clear hc
      go_wp2_with fail
      refine (has_cls (HB.out.kept HG1.out (fun e => HBG.out (by injection e))) _).mono ?_
      rintro e w2 ⟨rfl, rfl⟩
      rw [HC.out]
      have hz : Z.spanN (inL L) (left s j) = 0 := by
        by_cases hlt : j < s.size
        · have hc := HC.out
          rw [left_cons hlt] at hc ⊢
          exact Z.spanN_no hc
        · rw [left_nil (by omega)]; rfl
      have hjN : j = i + N := by have := HS.out; omega
      obtain ⟨c0, c1, c2, f1⟩ := HJ1.out.cells
      have HJN := Lib.hid hjN
      clear hjN hz
      go_wp2_with fail
      go_quiet (fail)
      go_wp2_with fail
      go_ret
      refine ⟨?_, ?_, ?_⟩
      · show Ending.returned (.string (s.extract i j)) = _
        rw [cut_eq, show j - i = N by have := HJN.out; omega]
      · rw [← HJN.out]; exact HJ1.out.drewN _
      · exact HG1.out.trans (grown7_drewN _ _ _)

end Go.Proofs.YtffolfnaalijnaaDoor
