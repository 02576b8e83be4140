/-
  Layer 7: the code's table of classes.
-/
import Derived.Test.YtffolfnaalijnaaDoorSCodA
import Derived.Lib.OthersKept
import Derived.Laws.Rows
namespace Go.Proofs.YtffolfnaalijnaaDoor
set_option linter.unusedVariables false
open Go.RowKit

def memb0 : ByteArray := ⟨#[]⟩
def memb1 : ByteArray := ⟨#[32, 9, 10]⟩
def memb2 : ByteArray := ⟨#[65, 66, 67, 68, 69, 70, 71, 72, 73, 74, 75, 76, 77, 78, 79, 80, 81, 82, 83, 84, 85, 86, 87, 88, 89, 90, 95, 97, 98, 99, 100, 101, 102, 103, 104, 105, 106, 107, 108, 109, 110, 111, 112, 113, 114, 115, 116, 117, 118, 119, 120, 121, 122]⟩
def memb3 : ByteArray := ⟨#[48, 49, 50, 51, 52, 53, 54, 55, 56, 57]⟩
def memb4 : ByteArray := ⟨#[34]⟩
def memb5 : ByteArray := ⟨#[61, 33, 60, 62, 40, 41, 123, 125, 91, 93, 44, 59, 46, 58, 43, 45, 42, 47, 37]⟩
/-- The table with some bytes more. -/
def fill (t : Array Value) (k : Nat) (l : List UInt8) : Array Value := l.foldl (fun t c => t.setIfInBounds c.toNat (.int .u8 (k : Int))) t
theorem fill_size (k : Nat) (l : List UInt8) : ∀ t, (fill t k l).size = t.size := by
  induction l with
  | nil => intro t; rfl
  | cons c r ih => intro t; show (fill (t.setIfInBounds c.toNat _) k r).size = _; rw [ih]; simp
theorem fill_snoc (t : Array Value) (k : Nat) (l : List UInt8) (c : UInt8) : fill t k (l ++ [c]) = (fill t k l).setIfInBounds c.toNat (.int .u8 (k : Int)) := by
  unfold fill; rw [List.foldl_append]; rfl
def tab0 : Array Value := Array.replicate 256 (.int .u8 0)
def tab1 : Array Value := fill tab0 0 memb0.data.toList
def tab2 : Array Value := fill tab1 1 memb1.data.toList
def tab3 : Array Value := fill tab2 2 memb2.data.toList
def tab4 : Array Value := fill tab3 3 memb3.data.toList
def tab5 : Array Value := fill tab4 4 memb4.data.toList
def tab6 : Array Value := fill tab5 5 memb5.data.toList
theorem tab0_size : tab0.size = 256 := by simp [tab0]
theorem tab1_size : tab1.size = 256 := (fill_size _ _ _).trans tab0_size
theorem tab2_size : tab2.size = 256 := (fill_size _ _ _).trans tab1_size
theorem tab3_size : tab3.size = 256 := (fill_size _ _ _).trans tab2_size
theorem tab4_size : tab4.size = 256 := (fill_size _ _ _).trans tab3_size
theorem tab5_size : tab5.size = 256 := (fill_size _ _ _).trans tab4_size
theorem tab6_size : tab6.size = 256 := (fill_size _ _ _).trans tab5_size
theorem tab_all : tab6 = tabCells := by kernel_rfl
theorem ascii_of {s : ByteArray} (h : s.data.toList.all (fun c => decide (c.toNat < 128)) = true) (j : Nat) (hj : j < s.size) : (s[j]'hj).toNat < 128 := by
  have := List.all_eq_true.1 h s[j] (by rw [show s[j] = s.data[j]'hj from rfl]; simp)
  simpa using this
/-- The table in block h, with the first j bytes of s put in. -/
theorem fill_step {t : Array Value} {k j : Nat} {s : ByteArray} (hj : j < s.size) : fill t k (s.data.toList.take (j + 1)) = (fill t k (s.data.toList.take j)).setIfInBounds (s[j]'hj).toNat (.int .u8 (k : Int)) := by
  have hl : j < s.data.toList.length := by rw [l7_len]; exact hj
  rw [List.take_succ_eq_append_getElem hl, fill_snoc]; rfl
theorem fill_end {t : Array Value} {k j : Nat} {s : ByteArray} (hj : s.size ≤ j) : fill t k (s.data.toList.take j) = fill t k s.data.toList := by
  rw [List.take_of_length_le (by rw [l7_len]; exact hj)]
theorem fill_cell {w : World} {h c k : Nat} {t : Array Value} {l : List UInt8} (ht : t.size = 256) (hr : w.heap[h]? = some (.cells (fill t k l) 60 (0, 0))) (hc : c < 256) : ∃ v, w.cell? ⟨h, c, none⟩ = some v := by
  refine ⟨(fill t k l)[c]'(by rw [fill_size, ht]; exact hc), ?_⟩
  rw [cell_of_row w h c _ _ _ hr]
  exact Array.getElem?_eq_getElem _

set_option maxRecDepth 1000000 in
set_option maxHeartbeats 8000000 in
theorem classifier_any (w : World) :
    Calls Tryd.prog 21 #[] w fun e w' => ∃ h, e = .returned (clsV h) ∧ w.heap.size ≤ h ∧ w'.heap[h]? = some (.cells tabCells 60 (0, 0)) ∧ Below w.heap.size w w' := by
  have hmf : ∀ (fn : Fn) (first cap : Array Value) (w : World), (Instr.makeFunc fn first cap).run Tryd.prog w = .ok (.func fn first cap) w := fun _ _ _ _ => rfl
  have HMF := Lib.hid hmf
  clear hmf
  go_enter Tryd.func21, Tryd.ntmps21
  go_wp2_with fail
  obtain ⟨H, hH⟩ : ∃ H, H = w.heap.size + 1 := ⟨_, rfl⟩
  rw [← hH]
  have hz : Tryd.zeroCells60 = tab0 := by kernel_rfl
  rw [hz]
  generalize hW : (w.alloc (.cells #[.string ⟨#[]⟩, .string ⟨#[32, 9, 10]⟩, .string ⟨#[65, 66, 67, 68, 69, 70, 71, 72, 73, 74, 75, 76, 77, 78, 79, 80, 81, 82, 83, 84, 85, 86, 87, 88, 89, 90, 95, 97, 98, 99, 100, 101, 102, 103, 104, 105, 106, 107, 108, 109, 110, 111, 112, 113, 114, 115, 116, 117, 118, 119, 120, 121, 122]⟩, .string ⟨#[48, 49, 50, 51, 52, 53, 54, 55, 56, 57]⟩, .string ⟨#[34]⟩, .string ⟨#[61, 33, 60, 62, 40, 41, 123, 125, 91, 93, 44, 59, 46, 58, 43, 45, 42, 47, 37]⟩] 58)).alloc (.cells tab0 60) = W0
  have hT0 : W0.heap[w.heap.size + 1]? = some (.cells tab0 60 (0, 0)) := by
    rw [← hW]
    have := heap_alloc_new (w.alloc (.cells #[.string ⟨#[]⟩, .string ⟨#[32, 9, 10]⟩, .string ⟨#[65, 66, 67, 68, 69, 70, 71, 72, 73, 74, 75, 76, 77, 78, 79, 80, 81, 82, 83, 84, 85, 86, 87, 88, 89, 90, 95, 97, 98, 99, 100, 101, 102, 103, 104, 105, 106, 107, 108, 109, 110, 111, 112, 113, 114, 115, 116, 117, 118, 119, 120, 121, 122]⟩, .string ⟨#[48, 49, 50, 51, 52, 53, 54, 55, 56, 57]⟩, .string ⟨#[34]⟩, .string ⟨#[61, 33, 60, 62, 40, 41, 123, 125, 91, 93, 44, 59, 46, 58, 43, 45, 42, 47, 37]⟩] 58)) (.cells tab0 60)
    rwa [World.size_alloc] at this
  have hB0 : Below w.heap.size w W0 := by rw [← hW]; exact ((Below.refl _ w).alloc (Nat.le_refl _) _).alloc (by simp) _
  rw [← hH] at hT0
  have HT0 := Lib.hid hT0; have HB0 := Lib.hid hB0
  have HH := Lib.hid hH
  clear hz hT0 hB0 hH hW
  generalize hA : Value.agg #[.string ⟨#[]⟩, .string ⟨#[32, 9, 10]⟩, .string ⟨#[65, 66, 67, 68, 69, 70, 71, 72, 73, 74, 75, 76, 77, 78, 79, 80, 81, 82, 83, 84, 85, 86, 87, 88, 89, 90, 95, 97, 98, 99, 100, 101, 102, 103, 104, 105, 106, 107, 108, 109, 110, 111, 112, 113, 114, 115, 116, 117, 118, 119, 120, 121, 122]⟩, .string ⟨#[48, 49, 50, 51, 52, 53, 54, 55, 56, 57]⟩, .string ⟨#[34]⟩, .string ⟨#[61, 33, 60, 62, 40, 41, 123, 125, 91, 93, 44, 59, 46, 58, 43, 45, 42, 47, 37]⟩] = A
  obtain ⟨S0, hS0⟩ : ∃ S, S = memb0 := ⟨_, rfl⟩
  have hi0 : ∀ w, (Instr.index 58 A (.int .i64 0)).run Tryd.prog w = .ok (.string S0) w := fun w => by rw [← hA, hS0]; kernel_rfl
  have ha0 : ∀ (j : Nat) (hj : j < S0.size), (S0[j]'hj).toNat < 128 := by rw [hS0]; exact ascii_of (by decide +kernel)
  have hz0 : S0.size ≤ 100 := by rw [hS0]; decide +kernel
  have hn0 : fill tab0 0 S0.data.toList = tab1 := by rw [hS0]; rfl
  have HX0 := Lib.hid hi0; have HA0 := Lib.hid ha0; have HN0 := Lib.hid hn0
  clear hi0 ha0 hn0 hS0
  obtain ⟨S1, hS1⟩ : ∃ S, S = memb1 := ⟨_, rfl⟩
  have hi1 : ∀ w, (Instr.index 58 A (.int .i64 1)).run Tryd.prog w = .ok (.string S1) w := fun w => by rw [← hA, hS1]; kernel_rfl
  have ha1 : ∀ (j : Nat) (hj : j < S1.size), (S1[j]'hj).toNat < 128 := by rw [hS1]; exact ascii_of (by decide +kernel)
  have hz1 : S1.size ≤ 100 := by rw [hS1]; decide +kernel
  have hn1 : fill tab1 1 S1.data.toList = tab2 := by rw [hS1]; rfl
  have HX1 := Lib.hid hi1; have HA1 := Lib.hid ha1; have HN1 := Lib.hid hn1
  clear hi1 ha1 hn1 hS1
  obtain ⟨S2, hS2⟩ : ∃ S, S = memb2 := ⟨_, rfl⟩
  have hi2 : ∀ w, (Instr.index 58 A (.int .i64 2)).run Tryd.prog w = .ok (.string S2) w := fun w => by rw [← hA, hS2]; kernel_rfl
  have ha2 : ∀ (j : Nat) (hj : j < S2.size), (S2[j]'hj).toNat < 128 := by rw [hS2]; exact ascii_of (by decide +kernel)
  have hz2 : S2.size ≤ 100 := by rw [hS2]; decide +kernel
  have hn2 : fill tab2 2 S2.data.toList = tab3 := by rw [hS2]; rfl
  have HX2 := Lib.hid hi2; have HA2 := Lib.hid ha2; have HN2 := Lib.hid hn2
  clear hi2 ha2 hn2 hS2
  obtain ⟨S3, hS3⟩ : ∃ S, S = memb3 := ⟨_, rfl⟩
  have hi3 : ∀ w, (Instr.index 58 A (.int .i64 3)).run Tryd.prog w = .ok (.string S3) w := fun w => by rw [← hA, hS3]; kernel_rfl
  have ha3 : ∀ (j : Nat) (hj : j < S3.size), (S3[j]'hj).toNat < 128 := by rw [hS3]; exact ascii_of (by decide +kernel)
  have hz3 : S3.size ≤ 100 := by rw [hS3]; decide +kernel
  have hn3 : fill tab3 3 S3.data.toList = tab4 := by rw [hS3]; rfl
  have HX3 := Lib.hid hi3; have HA3 := Lib.hid ha3; have HN3 := Lib.hid hn3
  clear hi3 ha3 hn3 hS3
  obtain ⟨S4, hS4⟩ : ∃ S, S = memb4 := ⟨_, rfl⟩
  have hi4 : ∀ w, (Instr.index 58 A (.int .i64 4)).run Tryd.prog w = .ok (.string S4) w := fun w => by rw [← hA, hS4]; kernel_rfl
  have ha4 : ∀ (j : Nat) (hj : j < S4.size), (S4[j]'hj).toNat < 128 := by rw [hS4]; exact ascii_of (by decide +kernel)
  have hz4 : S4.size ≤ 100 := by rw [hS4]; decide +kernel
  have hn4 : fill tab4 4 S4.data.toList = tab5 := by rw [hS4]; rfl
  have HX4 := Lib.hid hi4; have HA4 := Lib.hid ha4; have HN4 := Lib.hid hn4
  clear hi4 ha4 hn4 hS4
  obtain ⟨S5, hS5⟩ : ∃ S, S = memb5 := ⟨_, rfl⟩
  have hi5 : ∀ w, (Instr.index 58 A (.int .i64 5)).run Tryd.prog w = .ok (.string S5) w := fun w => by rw [← hA, hS5]; kernel_rfl
  have ha5 : ∀ (j : Nat) (hj : j < S5.size), (S5[j]'hj).toNat < 128 := by rw [hS5]; exact ascii_of (by decide +kernel)
  have hz5 : S5.size ≤ 100 := by rw [hS5]; decide +kernel
  have hn5 : fill tab5 5 S5.data.toList = tab6 := by rw [hS5]; rfl
  have HX5 := Lib.hid hi5; have HA5 := Lib.hid ha5; have HN5 := Lib.hid hn5
  clear hi5 ha5 hn5 hS5
  clear hA
  refine wp_loop_rounds 7 ?_
  rw [rounds_succ]
  have hix := HX0.out
  go_wp2_with fail
  clear hix
  have hlt0 : H < W0.heap.size := row_lt7 HT0.out
  go_loopw [6] (fun _ wr => ∃ pos : Nat, pos ≤ S0.size ∧ Hid (wr.heap[W0.heap.size]? = some (.stringIter S0 pos)) ∧ Hid (wr.heap[H]? = some (.cells (fill tab0 0 (S0.data.toList.take pos)) 60 (0, 0))) ∧ Hid (Below w.heap.size w wr)) (fun _ wr => S0.size - wr.iterPos W0.heap.size)
  case atStart => exact ⟨0, Nat.zero_le _, Lib.hid (World.iter_heap W0 S0 0), Lib.hid ((Below.heap_alloc _ _ _ hlt0).trans HT0.out), Lib.hid (HB0.out.alloc HB0.out.size _)⟩
  case round =>
    clear HT0 HB0
    obtain ⟨pos, hp, HI, HT, HB⟩ := hrel
    by_cases hlt : pos < S0.size
    · have ha := HA0.out pos hlt
      have hnx : ∀ ty, (Instr.next (.pointer (some ⟨W0.heap.size, 0, none⟩)) true ty).run Tryd.prog wr = .ok (.tuple #[.bool true, .int .i64 pos, .int .i32 (S0[pos]'hlt).toNat]) (wr.iterAt W0.heap.size S0 (pos + 1)) := fun ty => Lib.run_next_ascii_at wr W0.heap.size S0 pos ty HI.out hlt ha
      have hI2 := Lib.iterAt_heap wr W0.heap.size S0 pos (pos + 1) HI.out
      have hT2 := (Lib.iterAt_other wr W0.heap.size H S0 (pos + 1) (by omega)).trans HT.out
      have hB2 := HB.out.trans (Lib.below_iterAt (Below.refl w.heap.size wr) (k := W0.heap.size) (by have := HH.out; omega) S0 (pos + 1))
      have HS := Lib.hid (fill_step (t := tab0) (k := 0) hlt)
      have HPI : Hid (wr.iterPos W0.heap.size = pos) := Lib.hid (by simp only [World.iterPos, HI.out])
      obtain ⟨c, hc⟩ : ∃ c, c = (S0[pos]'hlt).toNat := ⟨_, rfl⟩
      rw [← hc] at ha hnx HS
      generalize wr.iterAt W0.heap.size S0 (pos + 1) = wi at *
      obtain ⟨v, hv⟩ := fill_cell (by rw [tab0_size]) hT2 (c := c) (by omega)
      have hfz := frozen_of_row wi H c _ _ hT2
      have c0 : (0 : Int) ≤ (c : Int) := by omega
      have c1 : (c : Int) < 256 := by omega
      have HI2 := Lib.hid hI2; have HT2 := Lib.hid hT2; have HB2 := Lib.hid hB2
      clear hI2 hT2 hB2 HI HT HB hc
      go_wp2_with fail
      go_roundw
      case rel =>
        refine ⟨pos + 1, hlt, Lib.hid ((heap_setCell_other _ _ _ _ (by show W0.heap.size ≠ H; omega)).trans HI2.out), Lib.hid ?_, Lib.hid (HB2.out.setCell (p := ⟨H, c, none⟩) (by show w.heap.size ≤ H; have := HH.out; omega) _)⟩
        rw [HS.out]; exact heap_setCell_same _ _ c _ _ _ HT2.out
      case measure =>
        have e : (wi.setCell ⟨H, c, none⟩ (.int .u8 0)).iterPos W0.heap.size = pos + 1 := by
          simp only [World.iterPos, (heap_setCell_other wi ⟨H, c, none⟩ W0.heap.size (.int .u8 0) (by show W0.heap.size ≠ H; omega)).trans HI2.out]
        rw [e, HPI.out]; omega
    · have hnx : ∀ ty, (Instr.next (.pointer (some ⟨W0.heap.size, 0, none⟩)) true ty).run Tryd.prog wr = _ := fun ty => Lib.run_next_end_at wr W0.heap.size S0 pos ty HI.out hlt
      have hT := HT.out
      rw [fill_end (by omega), HN0.out] at hT
      have HT1 := Lib.hid hT
      have HB1 := HB
      clear HI HT HB hT
      go_wp2_with fail
      clear hnx
      generalize wr = W1 at *
      rw [rounds_succ]
      have hix := HX1.out
      go_wp2_with fail
      clear hix
      have hlt1 : H < W1.heap.size := row_lt7 HT1.out
      go_loopw [6] (fun _ wr => ∃ pos : Nat, pos ≤ S1.size ∧ Hid (wr.heap[W1.heap.size]? = some (.stringIter S1 pos)) ∧ Hid (wr.heap[H]? = some (.cells (fill tab1 1 (S1.data.toList.take pos)) 60 (0, 0))) ∧ Hid (Below w.heap.size w wr)) (fun _ wr => S1.size - wr.iterPos W1.heap.size)
      case atStart => exact ⟨0, Nat.zero_le _, Lib.hid (World.iter_heap W1 S1 0), Lib.hid ((Below.heap_alloc _ _ _ hlt1).trans HT1.out), Lib.hid (HB1.out.alloc HB1.out.size _)⟩
      case round =>
        clear HT1 HB1
        obtain ⟨pos, hp, HI, HT, HB⟩ := hrel
        by_cases hlt : pos < S1.size
        · have ha := HA1.out pos hlt
          have hnx : ∀ ty, (Instr.next (.pointer (some ⟨W1.heap.size, 0, none⟩)) true ty).run Tryd.prog wr = .ok (.tuple #[.bool true, .int .i64 pos, .int .i32 (S1[pos]'hlt).toNat]) (wr.iterAt W1.heap.size S1 (pos + 1)) := fun ty => Lib.run_next_ascii_at wr W1.heap.size S1 pos ty HI.out hlt ha
          have hI2 := Lib.iterAt_heap wr W1.heap.size S1 pos (pos + 1) HI.out
          have hT2 := (Lib.iterAt_other wr W1.heap.size H S1 (pos + 1) (by omega)).trans HT.out
          have hB2 := HB.out.trans (Lib.below_iterAt (Below.refl w.heap.size wr) (k := W1.heap.size) (by have := HH.out; omega) S1 (pos + 1))
          have HS := Lib.hid (fill_step (t := tab1) (k := 1) hlt)
          have HPI : Hid (wr.iterPos W1.heap.size = pos) := Lib.hid (by simp only [World.iterPos, HI.out])
          obtain ⟨c, hc⟩ : ∃ c, c = (S1[pos]'hlt).toNat := ⟨_, rfl⟩
          rw [← hc] at ha hnx HS
          generalize wr.iterAt W1.heap.size S1 (pos + 1) = wi at *
          obtain ⟨v, hv⟩ := fill_cell (by rw [tab1_size]) hT2 (c := c) (by omega)
          have hfz := frozen_of_row wi H c _ _ hT2
          have c0 : (0 : Int) ≤ (c : Int) := by omega
          have c1 : (c : Int) < 256 := by omega
          have HI2 := Lib.hid hI2; have HT2 := Lib.hid hT2; have HB2 := Lib.hid hB2
          clear hI2 hT2 hB2 HI HT HB hc
          go_wp2_with fail
          go_roundw
          case rel =>
            refine ⟨pos + 1, hlt, Lib.hid ((heap_setCell_other _ _ _ _ (by show W1.heap.size ≠ H; omega)).trans HI2.out), Lib.hid ?_, Lib.hid (HB2.out.setCell (p := ⟨H, c, none⟩) (by show w.heap.size ≤ H; have := HH.out; omega) _)⟩
            rw [HS.out]; exact heap_setCell_same _ _ c _ _ _ HT2.out
          case measure =>
            have e : (wi.setCell ⟨H, c, none⟩ (.int .u8 1)).iterPos W1.heap.size = pos + 1 := by
              simp only [World.iterPos, (heap_setCell_other wi ⟨H, c, none⟩ W1.heap.size (.int .u8 1) (by show W1.heap.size ≠ H; omega)).trans HI2.out]
            rw [e, HPI.out]; omega
        · have hnx : ∀ ty, (Instr.next (.pointer (some ⟨W1.heap.size, 0, none⟩)) true ty).run Tryd.prog wr = _ := fun ty => Lib.run_next_end_at wr W1.heap.size S1 pos ty HI.out hlt
          have hT := HT.out
          rw [fill_end (by omega), HN1.out] at hT
          have HT2 := Lib.hid hT
          have HB2 := HB
          clear HI HT HB hT
          go_wp2_with fail
          clear hnx
          generalize wr = W2 at *
          rw [rounds_succ]
          have hix := HX2.out
          go_wp2_with fail
          clear hix
          have hlt2 : H < W2.heap.size := row_lt7 HT2.out
          go_loopw [6] (fun _ wr => ∃ pos : Nat, pos ≤ S2.size ∧ Hid (wr.heap[W2.heap.size]? = some (.stringIter S2 pos)) ∧ Hid (wr.heap[H]? = some (.cells (fill tab2 2 (S2.data.toList.take pos)) 60 (0, 0))) ∧ Hid (Below w.heap.size w wr)) (fun _ wr => S2.size - wr.iterPos W2.heap.size)
          case atStart => exact ⟨0, Nat.zero_le _, Lib.hid (World.iter_heap W2 S2 0), Lib.hid ((Below.heap_alloc _ _ _ hlt2).trans HT2.out), Lib.hid (HB2.out.alloc HB2.out.size _)⟩
          case round =>
            clear HT2 HB2
            obtain ⟨pos, hp, HI, HT, HB⟩ := hrel
            by_cases hlt : pos < S2.size
            · have ha := HA2.out pos hlt
              have hnx : ∀ ty, (Instr.next (.pointer (some ⟨W2.heap.size, 0, none⟩)) true ty).run Tryd.prog wr = .ok (.tuple #[.bool true, .int .i64 pos, .int .i32 (S2[pos]'hlt).toNat]) (wr.iterAt W2.heap.size S2 (pos + 1)) := fun ty => Lib.run_next_ascii_at wr W2.heap.size S2 pos ty HI.out hlt ha
              have hI2 := Lib.iterAt_heap wr W2.heap.size S2 pos (pos + 1) HI.out
              have hT2 := (Lib.iterAt_other wr W2.heap.size H S2 (pos + 1) (by omega)).trans HT.out
              have hB2 := HB.out.trans (Lib.below_iterAt (Below.refl w.heap.size wr) (k := W2.heap.size) (by have := HH.out; omega) S2 (pos + 1))
              have HS := Lib.hid (fill_step (t := tab2) (k := 2) hlt)
              have HPI : Hid (wr.iterPos W2.heap.size = pos) := Lib.hid (by simp only [World.iterPos, HI.out])
              obtain ⟨c, hc⟩ : ∃ c, c = (S2[pos]'hlt).toNat := ⟨_, rfl⟩
              rw [← hc] at ha hnx HS
              generalize wr.iterAt W2.heap.size S2 (pos + 1) = wi at *
              obtain ⟨v, hv⟩ := fill_cell (by rw [tab2_size]) hT2 (c := c) (by omega)
              have hfz := frozen_of_row wi H c _ _ hT2
              have c0 : (0 : Int) ≤ (c : Int) := by omega
              have c1 : (c : Int) < 256 := by omega
              have HI2 := Lib.hid hI2; have HT2 := Lib.hid hT2; have HB2 := Lib.hid hB2
              clear hI2 hT2 hB2 HI HT HB hc
              go_wp2_with fail
              go_roundw
              case rel =>
                refine ⟨pos + 1, hlt, Lib.hid ((heap_setCell_other _ _ _ _ (by show W2.heap.size ≠ H; omega)).trans HI2.out), Lib.hid ?_, Lib.hid (HB2.out.setCell (p := ⟨H, c, none⟩) (by show w.heap.size ≤ H; have := HH.out; omega) _)⟩
                rw [HS.out]; exact heap_setCell_same _ _ c _ _ _ HT2.out
              case measure =>
                have e : (wi.setCell ⟨H, c, none⟩ (.int .u8 2)).iterPos W2.heap.size = pos + 1 := by
                  simp only [World.iterPos, (heap_setCell_other wi ⟨H, c, none⟩ W2.heap.size (.int .u8 2) (by show W2.heap.size ≠ H; omega)).trans HI2.out]
                rw [e, HPI.out]; omega
            · have hnx : ∀ ty, (Instr.next (.pointer (some ⟨W2.heap.size, 0, none⟩)) true ty).run Tryd.prog wr = _ := fun ty => Lib.run_next_end_at wr W2.heap.size S2 pos ty HI.out hlt
              have hT := HT.out
              rw [fill_end (by omega), HN2.out] at hT
              have HT3 := Lib.hid hT
              have HB3 := HB
              clear HI HT HB hT
              go_wp2_with fail
              clear hnx
              generalize wr = W3 at *
              rw [rounds_succ]
              have hix := HX3.out
              go_wp2_with fail
              clear hix
              have hlt3 : H < W3.heap.size := row_lt7 HT3.out
              go_loopw [6] (fun _ wr => ∃ pos : Nat, pos ≤ S3.size ∧ Hid (wr.heap[W3.heap.size]? = some (.stringIter S3 pos)) ∧ Hid (wr.heap[H]? = some (.cells (fill tab3 3 (S3.data.toList.take pos)) 60 (0, 0))) ∧ Hid (Below w.heap.size w wr)) (fun _ wr => S3.size - wr.iterPos W3.heap.size)
              case atStart => exact ⟨0, Nat.zero_le _, Lib.hid (World.iter_heap W3 S3 0), Lib.hid ((Below.heap_alloc _ _ _ hlt3).trans HT3.out), Lib.hid (HB3.out.alloc HB3.out.size _)⟩
              case round =>
                clear HT3 HB3
                obtain ⟨pos, hp, HI, HT, HB⟩ := hrel
                by_cases hlt : pos < S3.size
                · have ha := HA3.out pos hlt
                  have hnx : ∀ ty, (Instr.next (.pointer (some ⟨W3.heap.size, 0, none⟩)) true ty).run Tryd.prog wr = .ok (.tuple #[.bool true, .int .i64 pos, .int .i32 (S3[pos]'hlt).toNat]) (wr.iterAt W3.heap.size S3 (pos + 1)) := fun ty => Lib.run_next_ascii_at wr W3.heap.size S3 pos ty HI.out hlt ha
                  have hI2 := Lib.iterAt_heap wr W3.heap.size S3 pos (pos + 1) HI.out
                  have hT2 := (Lib.iterAt_other wr W3.heap.size H S3 (pos + 1) (by omega)).trans HT.out
                  have hB2 := HB.out.trans (Lib.below_iterAt (Below.refl w.heap.size wr) (k := W3.heap.size) (by have := HH.out; omega) S3 (pos + 1))
                  have HS := Lib.hid (fill_step (t := tab3) (k := 3) hlt)
                  have HPI : Hid (wr.iterPos W3.heap.size = pos) := Lib.hid (by simp only [World.iterPos, HI.out])
                  obtain ⟨c, hc⟩ : ∃ c, c = (S3[pos]'hlt).toNat := ⟨_, rfl⟩
                  rw [← hc] at ha hnx HS
                  generalize wr.iterAt W3.heap.size S3 (pos + 1) = wi at *
                  obtain ⟨v, hv⟩ := fill_cell (by rw [tab3_size]) hT2 (c := c) (by omega)
                  have hfz := frozen_of_row wi H c _ _ hT2
                  have c0 : (0 : Int) ≤ (c : Int) := by omega
                  have c1 : (c : Int) < 256 := by omega
                  have HI2 := Lib.hid hI2; have HT2 := Lib.hid hT2; have HB2 := Lib.hid hB2
                  clear hI2 hT2 hB2 HI HT HB hc
                  go_wp2_with fail
                  go_roundw
                  case rel =>
                    refine ⟨pos + 1, hlt, Lib.hid ((heap_setCell_other _ _ _ _ (by show W3.heap.size ≠ H; omega)).trans HI2.out), Lib.hid ?_, Lib.hid (HB2.out.setCell (p := ⟨H, c, none⟩) (by show w.heap.size ≤ H; have := HH.out; omega) _)⟩
                    rw [HS.out]; exact heap_setCell_same _ _ c _ _ _ HT2.out
                  case measure =>
                    have e : (wi.setCell ⟨H, c, none⟩ (.int .u8 3)).iterPos W3.heap.size = pos + 1 := by
                      simp only [World.iterPos, (heap_setCell_other wi ⟨H, c, none⟩ W3.heap.size (.int .u8 3) (by show W3.heap.size ≠ H; omega)).trans HI2.out]
                    rw [e, HPI.out]; omega
                · have hnx : ∀ ty, (Instr.next (.pointer (some ⟨W3.heap.size, 0, none⟩)) true ty).run Tryd.prog wr = _ := fun ty => Lib.run_next_end_at wr W3.heap.size S3 pos ty HI.out hlt
                  have hT := HT.out
                  rw [fill_end (by omega), HN3.out] at hT
                  have HT4 := Lib.hid hT
                  have HB4 := HB
                  clear HI HT HB hT
                  go_wp2_with fail
                  clear hnx
                  generalize wr = W4 at *
                  rw [rounds_succ]
                  have hix := HX4.out
                  go_wp2_with fail
                  clear hix
                  have hlt4 : H < W4.heap.size := row_lt7 HT4.out
                  go_loopw [6] (fun _ wr => ∃ pos : Nat, pos ≤ S4.size ∧ Hid (wr.heap[W4.heap.size]? = some (.stringIter S4 pos)) ∧ Hid (wr.heap[H]? = some (.cells (fill tab4 4 (S4.data.toList.take pos)) 60 (0, 0))) ∧ Hid (Below w.heap.size w wr)) (fun _ wr => S4.size - wr.iterPos W4.heap.size)
                  case atStart => exact ⟨0, Nat.zero_le _, Lib.hid (World.iter_heap W4 S4 0), Lib.hid ((Below.heap_alloc _ _ _ hlt4).trans HT4.out), Lib.hid (HB4.out.alloc HB4.out.size _)⟩
                  case round =>
                    clear HT4 HB4
                    obtain ⟨pos, hp, HI, HT, HB⟩ := hrel
                    by_cases hlt : pos < S4.size
                    · have ha := HA4.out pos hlt
                      have hnx : ∀ ty, (Instr.next (.pointer (some ⟨W4.heap.size, 0, none⟩)) true ty).run Tryd.prog wr = .ok (.tuple #[.bool true, .int .i64 pos, .int .i32 (S4[pos]'hlt).toNat]) (wr.iterAt W4.heap.size S4 (pos + 1)) := fun ty => Lib.run_next_ascii_at wr W4.heap.size S4 pos ty HI.out hlt ha
                      have hI2 := Lib.iterAt_heap wr W4.heap.size S4 pos (pos + 1) HI.out
                      have hT2 := (Lib.iterAt_other wr W4.heap.size H S4 (pos + 1) (by omega)).trans HT.out
                      have hB2 := HB.out.trans (Lib.below_iterAt (Below.refl w.heap.size wr) (k := W4.heap.size) (by have := HH.out; omega) S4 (pos + 1))
                      have HS := Lib.hid (fill_step (t := tab4) (k := 4) hlt)
                      have HPI : Hid (wr.iterPos W4.heap.size = pos) := Lib.hid (by simp only [World.iterPos, HI.out])
                      obtain ⟨c, hc⟩ : ∃ c, c = (S4[pos]'hlt).toNat := ⟨_, rfl⟩
                      rw [← hc] at ha hnx HS
                      generalize wr.iterAt W4.heap.size S4 (pos + 1) = wi at *
                      obtain ⟨v, hv⟩ := fill_cell (by rw [tab4_size]) hT2 (c := c) (by omega)
                      have hfz := frozen_of_row wi H c _ _ hT2
                      have c0 : (0 : Int) ≤ (c : Int) := by omega
                      have c1 : (c : Int) < 256 := by omega
                      have HI2 := Lib.hid hI2; have HT2 := Lib.hid hT2; have HB2 := Lib.hid hB2
                      clear hI2 hT2 hB2 HI HT HB hc
                      go_wp2_with fail
                      go_roundw
                      case rel =>
                        refine ⟨pos + 1, hlt, Lib.hid ((heap_setCell_other _ _ _ _ (by show W4.heap.size ≠ H; omega)).trans HI2.out), Lib.hid ?_, Lib.hid (HB2.out.setCell (p := ⟨H, c, none⟩) (by show w.heap.size ≤ H; have := HH.out; omega) _)⟩
                        rw [HS.out]; exact heap_setCell_same _ _ c _ _ _ HT2.out
                      case measure =>
                        have e : (wi.setCell ⟨H, c, none⟩ (.int .u8 4)).iterPos W4.heap.size = pos + 1 := by
                          simp only [World.iterPos, (heap_setCell_other wi ⟨H, c, none⟩ W4.heap.size (.int .u8 4) (by show W4.heap.size ≠ H; omega)).trans HI2.out]
                        rw [e, HPI.out]; omega
                    · have hnx : ∀ ty, (Instr.next (.pointer (some ⟨W4.heap.size, 0, none⟩)) true ty).run Tryd.prog wr = _ := fun ty => Lib.run_next_end_at wr W4.heap.size S4 pos ty HI.out hlt
                      have hT := HT.out
                      rw [fill_end (by omega), HN4.out] at hT
                      have HT5 := Lib.hid hT
                      have HB5 := HB
                      clear HI HT HB hT
                      go_wp2_with fail
                      clear hnx
                      generalize wr = W5 at *
                      rw [rounds_succ]
                      have hix := HX5.out
                      go_wp2_with fail
                      clear hix
                      have hlt5 : H < W5.heap.size := row_lt7 HT5.out
                      go_loopw [6] (fun _ wr => ∃ pos : Nat, pos ≤ S5.size ∧ Hid (wr.heap[W5.heap.size]? = some (.stringIter S5 pos)) ∧ Hid (wr.heap[H]? = some (.cells (fill tab5 5 (S5.data.toList.take pos)) 60 (0, 0))) ∧ Hid (Below w.heap.size w wr)) (fun _ wr => S5.size - wr.iterPos W5.heap.size)
                      case atStart => exact ⟨0, Nat.zero_le _, Lib.hid (World.iter_heap W5 S5 0), Lib.hid ((Below.heap_alloc _ _ _ hlt5).trans HT5.out), Lib.hid (HB5.out.alloc HB5.out.size _)⟩
                      case round =>
                        clear HT5 HB5
                        obtain ⟨pos, hp, HI, HT, HB⟩ := hrel
                        by_cases hlt : pos < S5.size
                        · have ha := HA5.out pos hlt
                          have hnx : ∀ ty, (Instr.next (.pointer (some ⟨W5.heap.size, 0, none⟩)) true ty).run Tryd.prog wr = .ok (.tuple #[.bool true, .int .i64 pos, .int .i32 (S5[pos]'hlt).toNat]) (wr.iterAt W5.heap.size S5 (pos + 1)) := fun ty => Lib.run_next_ascii_at wr W5.heap.size S5 pos ty HI.out hlt ha
                          have hI2 := Lib.iterAt_heap wr W5.heap.size S5 pos (pos + 1) HI.out
                          have hT2 := (Lib.iterAt_other wr W5.heap.size H S5 (pos + 1) (by omega)).trans HT.out
                          have hB2 := HB.out.trans (Lib.below_iterAt (Below.refl w.heap.size wr) (k := W5.heap.size) (by have := HH.out; omega) S5 (pos + 1))
                          have HS := Lib.hid (fill_step (t := tab5) (k := 5) hlt)
                          have HPI : Hid (wr.iterPos W5.heap.size = pos) := Lib.hid (by simp only [World.iterPos, HI.out])
                          obtain ⟨c, hc⟩ : ∃ c, c = (S5[pos]'hlt).toNat := ⟨_, rfl⟩
                          rw [← hc] at ha hnx HS
                          generalize wr.iterAt W5.heap.size S5 (pos + 1) = wi at *
                          obtain ⟨v, hv⟩ := fill_cell (by rw [tab5_size]) hT2 (c := c) (by omega)
                          have hfz := frozen_of_row wi H c _ _ hT2
                          have c0 : (0 : Int) ≤ (c : Int) := by omega
                          have c1 : (c : Int) < 256 := by omega
                          have HI2 := Lib.hid hI2; have HT2 := Lib.hid hT2; have HB2 := Lib.hid hB2
                          clear hI2 hT2 hB2 HI HT HB hc
                          go_wp2_with fail
                          go_roundw
                          case rel =>
                            refine ⟨pos + 1, hlt, Lib.hid ((heap_setCell_other _ _ _ _ (by show W5.heap.size ≠ H; omega)).trans HI2.out), Lib.hid ?_, Lib.hid (HB2.out.setCell (p := ⟨H, c, none⟩) (by show w.heap.size ≤ H; have := HH.out; omega) _)⟩
                            rw [HS.out]; exact heap_setCell_same _ _ c _ _ _ HT2.out
                          case measure =>
                            have e : (wi.setCell ⟨H, c, none⟩ (.int .u8 5)).iterPos W5.heap.size = pos + 1 := by
                              simp only [World.iterPos, (heap_setCell_other wi ⟨H, c, none⟩ W5.heap.size (.int .u8 5) (by show W5.heap.size ≠ H; omega)).trans HI2.out]
                            rw [e, HPI.out]; omega
                        · have hnx : ∀ ty, (Instr.next (.pointer (some ⟨W5.heap.size, 0, none⟩)) true ty).run Tryd.prog wr = _ := fun ty => Lib.run_next_end_at wr W5.heap.size S5 pos ty HI.out hlt
                          have hT := HT.out
                          rw [fill_end (by omega), HN5.out] at hT
                          have HT6 := Lib.hid hT
                          have HB6 := HB
                          clear HI HT HB hT
                          go_wp2_with fail
                          clear hnx
                          generalize wr = W6 at *
                          rw [rounds_succ]
                          have hmf := HMF.out
                          go_wp2_with fail
                          go_ret
                          exact ⟨H, rfl, by have := HH.out; omega, by rw [← tab_all]; exact HT6.out, HB6.out⟩
end Go.Proofs.YtffolfnaalijnaaDoor
