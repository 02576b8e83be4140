/-
  Layer 2: values in memory, more laws.
-/
import Derived.Test.YtdkggnciamfcmaaGreatDoorVMem
namespace Go.Proofs.YtdkggnciamfcmaaGreatDoor
set_option linter.unusedVariables false
open Go.RowKit
open M (V)
section
variable {w w' : World} {lo hi n c d B : Nat} {A : Option Addr} {l : List V} {ks : List ByteArray} {v : Value} {t : V}
theorem VB.later (h : VB w lo hi d v t) (hb : Below B w w') (hB : hi ≤ B) : VB w' lo hi d v t := h.kept (Kept.of_below hb hB)
theorem IS.later (h : IS w lo hi (VB w lo hi d) A n c l) (hb : Below B w w') (hB : hi ≤ B) : IS w' lo hi (VB w' lo hi d) A n c l :=
  IS.kept h (Kept.of_below hb hB) fun _ _ r => VB.kept (Kept.of_below hb hB) r
theorem KS.later (h : KS w lo hi A n c ks) (hb : Below B w w') (hB : hi ≤ B) : KS w' lo hi A n c ks := h.kept (Kept.of_below hb hB)
theorem VB.alloc (h : VB w lo hi d v t) (hh : hi ≤ w.heap.size) (o : Obj) : VB (w.alloc o) lo hi d v t := h.kept fun b _ h2 => Below.heap_alloc _ _ b (by omega)
theorem VB.alloc2 (h : VB w lo hi d v t) (hh : hi ≤ w.heap.size) (o o' : Obj) : VB ((w.alloc o).alloc o') lo hi d v t := (h.alloc hh o).alloc (by simp; omega) o'
theorem VB.lenlt {k i : Int} (h : VB w lo hi d v t) : True := trivial
end
theorem pair_below (w : World) (o o' : Obj) : Below w.heap.size w ((w.alloc o).alloc o') := ((Below.refl _ _).alloc (Nat.le_refl _) _).alloc (by simp) _
end Go.Proofs.YtdkggnciamfcmaaGreatDoor
