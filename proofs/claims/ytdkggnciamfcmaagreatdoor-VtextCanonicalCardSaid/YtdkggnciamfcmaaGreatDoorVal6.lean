/-
  Plain mathematics of layer 2: the encoding of values.
-/
import Derived.Test.YtdkggnciamfcmaaGreatDoorVal5
namespace Go.Proofs.YtdkggnciamfcmaaGreatDoor.M

def sby (s : ByteArray) : List UInt8 := enc (zig (s.data.toList.length : Int)) ++ s.data.toList
mutual
def V.encv : V → List UInt8
  | .mk k n s its ks => enc (zig k) ++ (if k = 1 ∨ k = 2 ∨ k = 6 then enc (zig n) else if k = 3 then sby s else if k = 4 ∨ k = 5 then enc (zig (its.length : Int)) ++ V.encs (k == 5) its ks else [])
def V.encs : Bool → List V → List ByteArray → List UInt8
  | _, [], _ => []
  | m, x :: r, ks => (if m = true then sby (ks.headD ByteArray.empty) else []) ++ (x.encv ++ V.encs m r ks.tail)
end
theorem V.encs_step {m : Bool} {its : List V} {ks : List ByteArray} {i : Nat} (h : i < its.length) :
    V.encs m (its.drop i) (ks.drop i) = (if m = true then sby (ks.getD i ByteArray.empty) else []) ++ ((its.getD i default).encv ++ V.encs m (its.drop (i + 1)) (ks.drop (i + 1))) := by
  rw [drop_cons h, V.encs, headD_drop, List.tail_drop]
theorem V.encs_end {m : Bool} {its : List V} {ks : List ByteArray} {i : Nat} (h : its.length ≤ i) : V.encs m (its.drop i) (ks.drop i) = [] := by
  rw [List.drop_eq_nil_of_le h, V.encs]
section
variable {k n : Int} {s : ByteArray} {its : List V} {ks : List ByteArray}
theorem V.enc_int (h : k = 1 ∨ k = 2 ∨ k = 6) : V.encv (.mk k n s its ks) = enc (zig k) ++ enc (zig n) := by rw [V.encv, if_pos h]
theorem V.enc_text : V.encv (.mk 3 n s its ks) = enc (zig 3) ++ sby s := by rw [V.encv, if_neg (by omega), if_pos rfl]
theorem V.enc_items (h : k = 4 ∨ k = 5) : V.encv (.mk k n s its ks) = enc (zig k) ++ (enc (zig (its.length : Int)) ++ V.encs (k == 5) its ks) := by rw [V.encv, if_neg (by omega), if_neg (by omega), if_pos h]
theorem V.enc_none (h1 : k ≠ 1) (h2 : k ≠ 2) (h3 : k ≠ 3) (h4 : k ≠ 4) (h5 : k ≠ 5) (h6 : k ≠ 6) : V.encv (.mk k n s its ks) = enc (zig k) := by
  rw [V.encv, if_neg (by omega), if_neg h3, if_neg (by omega), List.append_nil]
end
end Go.Proofs.YtdkggnciamfcmaaGreatDoor.M
