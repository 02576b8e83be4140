/-
  Layer 1: the reference PutBool, and 'equal'.
-/
import Derived.Test.YtkodmhopollnpaaGreatPutT
import Derived.Test.YtkodmhopollnpaaGreatPutY
namespace Go.Proofs.YtkodmhopollnpaaGreat
open Go.RowKit


theorem take_same {l r : List UInt8} {k : Nat} (h1 : k < l.length) (h2 : k < r.length) (h : l.take k = r.take k) (hk : (!(((l[k]?.getD 0).toNat : Int) == ((r[k]?.getD 0).toNat : Int))) = false) :
    l.take (k + 1) = r.take (k + 1) := by
  rw [List.take_succ_eq_append_getElem h1, List.take_succ_eq_append_getElem h2, h]
  simp only [List.getElem?_eq_getElem h1, List.getElem?_eq_getElem h2, Option.getD_some, Bool.not_eq_false', beq_iff_eq] at hk
  congr 2
  apply UInt8.toNat.inj
  omega
theorem differ_at {l r : List UInt8} {k : Nat} (hk : (!(((l[k]?.getD 0).toNat : Int) == ((r[k]?.getD 0).toNat : Int))) = true) : false = decide (l = r) := by
  symm
  rw [decide_eq_false_iff_not]
  rintro rfl
  simp at hk

end Go.Proofs.YtkodmhopollnpaaGreat
