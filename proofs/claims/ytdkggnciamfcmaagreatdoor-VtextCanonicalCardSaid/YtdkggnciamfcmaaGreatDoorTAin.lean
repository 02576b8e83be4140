/-
  Layer 3: an integer appended in decimal: every block but the row itself stays.
-/
import Derived.Test.YtdkggnciamfcmaaGreatDoorTApp
import Derived.Test.YtdkggnciamfcmaaGreatDoorLibP
import Derived.Lib.AppendIntMem
import Derived.Lib.ItoaLen
import Derived.CellFam
namespace Go.Proofs.YtdkggnciamfcmaaGreatDoor
set_option linter.unusedVariables false
open Go.RowKit

/-- The digits that lie in the array. -/
theorem digits_rb {w W : World} {u k v' : Nat} {dk : Array UInt8} {T : TypeId} (hn : Lib.nDigits u ≤ 20) (hF : Lib.FmtInv (Lib.nDigits u) u 0 v' dk)
    (hW : W = (Sort.putRow (fun (b : UInt8) => Value.int .u8 (b.toNat : Int)) (w.alloc (.cells Lib.zeros24 T)) w.heap.size 0 dk).drewN k) :
    RB W w.heap.size W.heap.size (some ⟨w.heap.size, 0, none⟩) (Lib.nDigits u) 24 (Lib.decDigits u) ∧ Below w.heap.size w W := by
  have hds : dk.size = Lib.nDigits u := hF.size
  have hb : Below w.heap.size w W := by
    obtain ⟨os, eo⟩ := Lib.fin_at w (.cells Lib.zeros24 T) dk k 0
    rw [hW, eo]; exact Lib.below_grow _ w (Nat.le_refl _) k os
  have hcell : ∀ j, j < Lib.nDigits u → W.cell? ⟨w.heap.size, 0 + j, none⟩ = some (.int .u8 (((Lib.decDigits u).getD j 0).toNat : Int)) := fun j hj => by
    have hjl : j < (Lib.decDigits u).length := by rw [Lib.decDigits_length]; exact hj
    rw [hW, World.cell?_drewN]
    have h := Sort.cell?_putRow (fun (b : UInt8) => Value.int .u8 (b.toNat : Int)) (w.alloc (.cells Lib.zeros24 T)) w.heap.size 0 _ dk (Lib.holds_zero0 w T (Lib.nDigits u) (by omega)) (by rw [Array.size_replicate]; exact hds) j (by rw [hds]; exact hj)
    rw [h, ← Lib.row_is_numeral hF j hjl]
    simp [List.getD, hjl]
  refine ⟨⟨Lib.decDigits_length u, by omega, by unfold maxLen; omega, (fun e => by cases e), fun h0 => ⟨w.heap.size, 0, rfl, Nat.le_refl _, ?_, hcell⟩⟩, hb⟩
  have := World.block_lt_of_cell? W _ (hcell 0 h0)
  exact this

set_option maxRecDepth 100000 in
set_option maxHeartbeats 2000000 in
theorem uintP {base : Nat} {v : Value} {l : List UInt8} (u : Nat) (hu : u < 18446744073709551616) (w : World) (h : OB w base v l) (hbase : base ≤ w.heap.size) (hb : l.length + 20 ≤ 140737488355328)
    (ht : Lib.TabIs Tryz.prog w "internal/strconv.uint64pow10" .u64 Lib.pow10Tab) :
    Calls Tryz.prog 94 #[v, .int .u64 (u : Int), .int .i64 10] w (Adds base (l ++ Lib.decDigits u) v w) := by
  have hlen : (Lib.decDigits u).length ≤ 20 := by rw [Lib.decDigits_length]; exact Lib.nDigits_le20 u hu
  have hpos : 0 < (Lib.decDigits u).length := by rw [Lib.decDigits]; split <;> simp
  by_cases hs : u < 100
  · have hsm := Tryz.internal_strconv_small u hs w
    obtain ⟨D, hD⟩ : ∃ D : ByteArray, D = ⟨(Lib.decDigits u).toArray⟩ := ⟨_, rfl⟩
    have hDl : D.data.toList = Lib.decDigits u := by rw [hD]
    have hDs : D.size = (Lib.decDigits u).length := by rw [hD]; simp [ByteArray.size]
    rw [← hD] at hsm
    rw [← hDl]
    rw [← hDs] at hlen hpos
    have HS := Lib.hid hsm; have HP := Lib.hid hpos; have HL := Lib.hid hlen
    have hsi : (u : Int) < 100 := by omega
    clear hsm hD hDl hDs hlen hpos ht
    go_enter Tryz.func94, Tryz.ntmps94
    go_wp2_with fail
    refine (HS.out).mono ?_
    rintro e w1 ⟨rfl, rfl⟩
    go_wp2_with (at_builtin; refine wpList_append_strx rfl _ _ rfl base _ l rfl h D rfl HP.out ?b1 hbase ?_)
    case b1 => have := HL.out; omega
    intro v' w' hown' hg' hn'
    go_wp2
    go_ret
    exact ⟨_, rfl, hown', hg', hn'⟩
  · have hn20 : Lib.nDigits u ≤ 20 := Lib.nDigits_le20 u hu
    have hal : Tryz.prog.arrayLen 99 = 24 := by simp [Program.arrayLen, Tryz.underlying99]
    have hH0 := Lib.holds_zero0 w 99 (Lib.nDigits u) (by omega)
    have hfmt := Tryz.internal_strconv_formatBase10 w.heap.size 0 24 u (Array.replicate (Lib.nDigits u) 0) (w.alloc (.cells Lib.zeros24 99)) hH0 (by rw [Array.size_replicate]; exact Lib.lt_pow_nDigits u) hu (by rw [Array.size_replicate]; omega)
    have hnum := Tryz.internal_strconv_numDigits u (by omega) hu (w.alloc (.cells Lib.zeros24 99)) (Lib.tabIs_alloc ht _)
    rw [Array.size_replicate] at hfmt
    obtain ⟨nd, hnd⟩ : ∃ nd, nd = Lib.nDigits u := ⟨_, rfl⟩
    rw [← hnd] at hfmt hnum hn20
    have hsl : ∀ W, (Instr.sliceAt 99 (.pointer (some ⟨w.heap.size, 0, none⟩)) none (some (.int .i64 (nd : Int))) none).run Tryz.prog W = .ok (.slice (some ⟨w.heap.size, 0, none⟩) nd 24) W := fun W => by
      rw [run_sliceAt_array_h W 99 ⟨w.heap.size, 0, none⟩ (by simp [Program.arrayLen, Program.elem, Tryz.underlying99]) .i64 (nd : Int) (by omega) (by rw [hal]; omega)]
      go_simp
    have HF := Lib.hid hfmt; have HN := Lib.hid hnum; have HND := Lib.hid hnd; have HL := Lib.hid hlen; have HO := Lib.hid h
    have hsi : ¬ (u : Int) < 100 := by omega
    clear hfmt hnum hnd hH0 hal hlen hpos ht h hs
    go_enter Tryz.func94, Tryz.ntmps94
    go_wp2_with fail
    refine (HN.out).mono ?_
    rintro e w1 ⟨rfl, rfl⟩
    go_wp2_with fail
    refine (HF.out).mono ?_
    rintro e w2 ⟨rfl, k, v2, dk, hw2, hF2⟩
    rw [HND.out] at hF2
    obtain ⟨hr, hbel⟩ := digits_rb (T := 99) (by rw [← HND.out]; omega) hF2 hw2
    have ho2 := HO.out.below hbel (Nat.le_refl _)
    have hsz := hbel.size
    have HR : Hid (RB w2 w.heap.size w2.heap.size (some ⟨w.heap.size, 0, none⟩) nd 24 (Lib.decDigits u)) := Lib.hid (by rw [HND.out]; exact hr)
    have HO2 := Lib.hid ho2
    have HG2 : Hid (w.grownBy w2 v.ownBlock) := Lib.hid ⟨hbel.os, hbel.tape, hbel.output, hbel.size, fun k hk _ => hbel.block k hk⟩
    clear hr hbel ho2 hF2 hw2 HF HN
    go_wp2_with (at_builtin; refine wpList_append_rbx rfl _ _ rfl base _ l rfl HO2.out _ _ ⟨w.heap.size, 0, none⟩ nd 24 (Lib.decDigits u) rfl HR.out ?b1 ?b2 ?_)
    case b1 => omega
    case b2 => omega
    intro v' w' hown' hg' hn'
    have HG3 := Lib.hid (HG2.out.trans hg'); have HN3 := Lib.hid (hn'.mono hsz); have HO3 := Lib.hid hown'
    clear hown' hg' hn'
    go_wp2
    go_ret
    exact ⟨_, rfl, HO3.out, HG3.out, HN3.out⟩

/-- The table of powers of ten, whatever is done from block B on. -/
def TB (B : Nat) (w : World) : Prop := Lib.TabBelow Tryz.prog B w "internal/strconv.uint64pow10" .u64 Lib.pow10Tab
theorem TB.on {B : Nat} {w w1 : World} (h : TB B w) (hb : Below B w w1) : TB B w1 := Lib.TabBelow.on h hb

set_option maxRecDepth 100000 in
set_option maxHeartbeats 2000000 in
theorem iintP {base : Nat} {v : Value} {l : List UInt8} (n : Int) (w : World) (h : OB w base v l) (hbase : base ≤ w.heap.size) (hb : l.length + 21 ≤ 140737488355328) (h0 : -9223372036854775808 ≤ n) (h1 : n ≤ 9223372036854775807) (ht : TB base w) :
    Calls Tryz.prog 68 #[v, .int .i64 n, .int .i64 10] w (Adds base (l ++ Lib.itoa n) v w) := by
  by_cases hn : n < 0
  · obtain ⟨u, rfl⟩ : ∃ u : Nat, n = -(u : Int) := ⟨n.natAbs, by omega⟩
    have hu : u < 18446744073709551616 := by omega
    have hwr : IntKind.u64.wrap (-IntKind.u64.wrap (-(u : Int))) = (u : Int) := by rw [IntKind.wrap_u64, IntKind.wrap_u64]; omega
    have HI := Lib.hid (Lib.itoa_neg u (by omega))
    have HT := Lib.hid ht; have HO := Lib.hid h
    have hu1 : 0 < u := by omega
    clear ht h0 h1 h
    go_enter Tryz.func68, Tryz.ntmps68
    go_wp2_with (at_builtin; refine wpList_append_rbx rfl _ _ rfl base _ l rfl (HO.out.alloc _) _ _ _ _ _ [45] rfl (RB.one _ rfl) ?b1 ?b2 ?_)
    case b1 => omega
    case b2 => simp; omega
    intro v1 w1 hown1 hg1 hn1
    have hg := grow_alloc hg1
    have hx := hn1.mono (w0 := w) (by simp)
    have HT1 := Lib.hid (HT.out.on (below_own HO.out hbase hg))
    have hsz := hg.size
    have HG1 := Lib.hid hg; have HN1 := Lib.hid hx; have HO1 := Lib.hid hown1
    clear hg1 hn1 hg hx hown1
    go_wp2_with fail
    refine (uintP u hu w1 HO1.out (by omega) (by simp; omega) HT1.out.here).mono ?_
    rintro e w2 ⟨v2, rfl, ho2, hg2, hn2⟩
    have HO2 : Hid (OB w2 base v2 (l ++ Lib.itoa (-(u : Int)))) := Lib.hid (by rw [HI.out]; simpa using ho2)
    have HG2 := Lib.hid (grow2 HG1.out HN1.out hg2)
    have HN2 := Lib.hid (HN1.out.trans hsz hn2)
    clear ho2 hg2 hn2
    go_wp2
    go_ret
    exact ⟨_, rfl, HO2.out, HG2.out, HN2.out⟩
  · obtain ⟨u, rfl⟩ : ∃ u : Nat, n = (u : Int) := ⟨n.toNat, by omega⟩
    have hu : u < 18446744073709551616 := by omega
    rw [Lib.itoa_nonneg]
    have HT := Lib.hid ht
    clear ht
    go_enter Tryz.func68, Tryz.ntmps68
    go_wp2_with fail
    refine (uintP u hu w h hbase (by omega) HT.out.here).mono ?_
    rintro e w2 ⟨v2, rfl, ho2, hg2, hn2⟩
    go_wp2
    go_ret
    exact ⟨_, rfl, ho2, hg2, hn2⟩

set_option maxRecDepth 100000 in
set_option maxHeartbeats 400000 in
theorem intP {base : Nat} {v : Value} {l : List UInt8} (n : Int) (w : World) (h : OB w base v l) (hbase : base ≤ w.heap.size) (hb : l.length ≤ 140737488355000) (h0 : -9223372036854775808 ≤ n) (h1 : n ≤ 9223372036854775807) (ht : TB base w) :
    Calls Tryz.prog 39 #[v, .int .i64 n, .int .i64 10] w (Adds base (l ++ Lib.itoa n) v w) := by
  have HI := Lib.hid (iintP n w h hbase (by omega) h0 h1 ht)
  clear ht
  go_enter Tryz.func39, Tryz.ntmps39
  go_wp2_with fail
  refine (HI.out).mono ?_
  rintro e w2 ⟨v2, rfl, ho2, hg2, hn2⟩
  go_wp2
  go_ret
  exact ⟨_, rfl, ho2, hg2, hn2⟩

set_option maxRecDepth 100000 in
set_option maxHeartbeats 400000 in
theorem iboolP {base : Nat} {v : Value} {l : List UInt8} (b : Bool) (w : World) (h : OB w base v l) (hbase : base ≤ w.heap.size) (hb : l.length ≤ 140737488355000) :
    Calls Tryz.prog 67 #[v, .bool b] w (Adds base (l ++ if b = true then [116, 114, 117, 101] else [102, 97, 108, 115, 101]) v w) := by
  cases b
  · go_enter Tryz.func67, Tryz.ntmps67
    go_wp2_with (at_builtin; refine wpList_append_strx rfl _ _ rfl base _ l rfl h ⟨#[102, 97, 108, 115, 101]⟩ rfl (by decide) ?b1 hbase ?_)
    case b1 => simp [ByteArray.size]; omega
    intro v' w' hown' hbel' hkc'
    go_wp2
    go_ret
    exact ⟨_, rfl, hown', hbel', hkc'⟩
  · go_enter Tryz.func67, Tryz.ntmps67
    go_wp2_with (at_builtin; refine wpList_append_strx rfl _ _ rfl base _ l rfl h ⟨#[116, 114, 117, 101]⟩ rfl (by decide) ?b1 hbase ?_)
    case b1 => simp [ByteArray.size]; omega
    intro v' w' hown' hbel' hkc'
    go_wp2
    go_ret
    exact ⟨_, rfl, hown', hbel', hkc'⟩
set_option maxHeartbeats 400000 in
theorem boolP {base : Nat} {v : Value} {l : List UInt8} (b : Bool) (w : World) (h : OB w base v l) (hbase : base ≤ w.heap.size) (hb : l.length ≤ 140737488355000) :
    Calls Tryz.prog 38 #[v, .bool b] w (Adds base (l ++ if b = true then [116, 114, 117, 101] else [102, 97, 108, 115, 101]) v w) := by
  obtain ⟨L, hL⟩ : ∃ L, L = l ++ if b = true then [116, 114, 117, 101] else [102, 97, 108, 115, 101] := ⟨_, rfl⟩
  have hi := iboolP b w h hbase hb
  rw [← hL] at hi ⊢
  have HI := Lib.hid hi
  clear hi hL
  go_enter Tryz.func38, Tryz.ntmps38
  go_wp2_with fail
  refine (HI.out).mono ?_
  rintro e w1 ⟨v1, rfl, ho, hb, hk⟩
  go_wp2_with fail
  go_ret
  exact ⟨_, rfl, ho, hb, hk⟩
end Go.Proofs.YtdkggnciamfcmaaGreatDoor
