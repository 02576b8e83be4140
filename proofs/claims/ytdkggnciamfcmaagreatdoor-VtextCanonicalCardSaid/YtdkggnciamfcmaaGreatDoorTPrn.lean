/-
  Plain mathematics of layer 3 (no program): literals and the canonical text.
-/
import Derived.Test.YtdkggnciamfcmaaGreatDoorVal7
import Derived.Lib.ItoaNum
namespace Go.Proofs.YtdkggnciamfcmaaGreatDoor.M

/-- A hexadecimal digit. -/
def hexc (n : Nat) : UInt8 := if n < 10 then UInt8.ofNat (48 + n) else UInt8.ofNat (87 + n)
/-- What stands for a byte in a literal. -/
def esc1 (c : Nat) : List UInt8 :=
  if c = 34 ∨ c = 92 then [92, UInt8.ofNat c] else if c = 10 then [92, 110] else if c = 9 then [92, 116]
  else if 32 ≤ c ∧ c ≤ 126 then [UInt8.ofNat c] else [92, 120, hexc (c / 16), hexc (c % 16)]
def escs (l : List UInt8) : List UInt8 := l.flatMap fun c => esc1 c.toNat
def quote (l : List UInt8) : List UInt8 := 34 :: escs l ++ [34]
theorem escs_nil : escs [] = [] := rfl
theorem escs_cons (c : UInt8) (l : List UInt8) : escs (c :: l) = esc1 c.toNat ++ escs l := by unfold escs; rw [List.flatMap_cons]
theorem escs_append (a b : List UInt8) : escs (a ++ b) = escs a ++ escs b := by unfold escs; rw [List.flatMap_append]
theorem escs_snoc (l : List UInt8) (c : UInt8) : escs (l ++ [c]) = escs l ++ esc1 c.toNat := by rw [escs_append, escs_cons, escs_nil, List.append_nil]
theorem escs_take {l : List UInt8} {k : Nat} (h : k < l.length) : escs (l.take (k + 1)) = escs (l.take k) ++ esc1 (l[k]).toNat := by
  rw [List.take_succ_eq_append_getElem h, escs_snoc]
theorem esc1_len (c : Nat) : 1 ≤ (esc1 c).length ∧ (esc1 c).length ≤ 4 := by
  unfold esc1; split
  · simp
  split
  · simp
  split
  · simp
  split <;> simp
theorem escs_len (l : List UInt8) : (escs l).length ≤ 4 * l.length := by
  induction l with
  | nil => simp [escs_nil]
  | cons c l ih => rw [escs_cons, List.length_append, List.length_cons]; have := (esc1_len c.toNat).2; omega
theorem quote_len (l : List UInt8) : (quote l).length ≤ 4 * l.length + 2 := by
  unfold quote; have := escs_len l; simp; omega

theorem escs_take_le (l : List UInt8) (k : Nat) : (escs (l.take k)).length ≤ (escs l).length := by
  have h := escs_append (l.take k) (l.drop k)
  rw [List.take_append_drop] at h
  rw [h, List.length_append]; omega
theorem escs_ge (l : List UInt8) : l.length ≤ (escs l).length := by
  induction l with
  | nil => simp [escs_nil]
  | cons c l ih => rw [escs_cons, List.length_append, List.length_cons]; have := (esc1_len c.toNat).1; omega
theorem quote_ge (l : List UInt8) : (quote l).length = (escs l).length + 2 := by unfold quote; simp

def sep (f : Bool) : List UInt8 := if f = true then [] else [44, 32]
mutual
/-- The canonical text. -/
def txt : V → List UInt8
  | .mk k n s its ks => if k = 1 then (if n = 1 then [116, 114, 117, 101] else [102, 97, 108, 115, 101]) else if k = 2 then Lib.itoa n else if k = 3 then quote s.data.toList
      else if k = 4 then 91 :: txts true its ++ [93] else if k = 5 then 123 :: txtp true its ks ++ [125] else [110, 117, 108, 108]
def txts : Bool → List V → List UInt8
  | _, [] => []
  | f, x :: r => sep f ++ txt x ++ txts false r
def txtp : Bool → List V → List ByteArray → List UInt8
  | _, [], _ => []
  | f, x :: r, ks => sep f ++ quote (ks.headD ByteArray.empty).data.toList ++ [58, 32] ++ txt x ++ txtp false r ks.tail
end
theorem txts_snoc (x : V) : ∀ (l : List V) (f : Bool), txts f (l ++ [x]) = txts f l ++ sep (f && l.isEmpty) ++ txt x
  | [], f => by simp [txts]
  | y :: l, f => by
    rw [List.cons_append, txts, txts_snoc x l false, txts]
    simp [sep]
theorem txtp_snoc (x : V) : ∀ (l : List V) (ks : List ByteArray) (f : Bool), txtp f (l ++ [x]) ks = txtp f l ks ++ sep (f && l.isEmpty) ++ quote (ks.getD l.length ByteArray.empty).data.toList ++ [58, 32] ++ txt x
  | [], ks, f => by cases ks <;> simp [txtp, List.headD]
  | y :: l, ks, f => by
    rw [List.cons_append, txtp, txtp_snoc x l ks.tail false, txtp]
    cases ks <;> simp [sep]
theorem take_snocV {l : List V} {i : Nat} (h : i < l.length) : l.take (i + 1) = l.take i ++ [l.getD i default] := by
  rw [List.take_succ_eq_append_getElem h]; simp [List.getD, h]
theorem txts_take {l : List V} {i : Nat} (h : i < l.length) : txts true (l.take (i + 1)) = txts true (l.take i) ++ sep (decide (i = 0)) ++ txt (l.getD i default) := by
  rw [take_snocV h, txts_snoc]
  congr 2
  cases i with
  | zero => rfl
  | succ i => cases l with
    | nil => simp at h
    | cons a l => simp
theorem txtp_take {l : List V} {ks : List ByteArray} {i : Nat} (h : i < l.length) : txtp true (l.take (i + 1)) ks = txtp true (l.take i) ks ++ sep (decide (i = 0)) ++ quote (ks.getD i ByteArray.empty).data.toList ++ [58, 32] ++ txt (l.getD i default) := by
  have e : (l.take i).length = i := by rw [List.length_take]; omega
  rw [take_snocV h, txtp_snoc, e]
  congr 4
  cases i with
  | zero => rfl
  | succ i => cases l with
    | nil => simp at h
    | cons a l => simp
theorem dropC {α : Type} {l : List α} {d : α} {i : Nat} (h : i < l.length) : l.drop i = l.getD i d :: l.drop (i + 1) := by
  rw [List.drop_eq_getElem_cons h]; simp [List.getD, h]
theorem txts_step {l : List V} {i : Nat} (f : Bool) (h : i < l.length) : txts f (l.drop i) = sep f ++ (txt (l.getD i default) ++ txts false (l.drop (i + 1))) := by
  rw [dropC (d := default) h, txts, List.append_assoc]
theorem txtp_step {l : List V} {ks : List ByteArray} {i : Nat} (f : Bool) (h : i < l.length) (hk : i < ks.length) : txtp f (l.drop i) (ks.drop i) = sep f ++ (quote (ks.getD i ByteArray.empty).data.toList ++ ([58, 32] ++ (txt (l.getD i default) ++ txtp false (l.drop (i + 1)) (ks.drop (i + 1))))) := by
  rw [dropC (d := default) h, dropC (d := ByteArray.empty) hk, txtp]
  simp [List.headD]
theorem txts_end {l : List V} {i : Nat} (f : Bool) (h : l.length ≤ i) : txts f (l.drop i) = [] := by rw [List.drop_eq_nil_of_le h, txts]
theorem txtp_end {l : List V} {ks : List ByteArray} {i : Nat} (f : Bool) (h : l.length ≤ i) : txtp f (l.drop i) ks = [] := by rw [List.drop_eq_nil_of_le h, txtp]
theorem txt_bool {n : Int} {s : ByteArray} {its : List V} {ks : List ByteArray} : txt (.mk 1 n s its ks) = if n = 1 then [116, 114, 117, 101] else [102, 97, 108, 115, 101] := by rw [txt, if_pos rfl]
theorem txt_int {n : Int} {s : ByteArray} {its : List V} {ks : List ByteArray} : txt (.mk 2 n s its ks) = Lib.itoa n := by rw [txt, if_neg (by decide), if_pos rfl]
theorem txt_text {n : Int} {s : ByteArray} {its : List V} {ks : List ByteArray} : txt (.mk 3 n s its ks) = quote s.data.toList := by rw [txt, if_neg (by decide), if_neg (by decide), if_pos rfl]
theorem txt_list {n : Int} {s : ByteArray} {its : List V} {ks : List ByteArray} : txt (.mk 4 n s its ks) = 91 :: txts true its ++ [93] := by rw [txt, if_neg (by decide), if_neg (by decide), if_neg (by decide), if_pos rfl]
theorem txt_map {n : Int} {s : ByteArray} {its : List V} {ks : List ByteArray} : txt (.mk 5 n s its ks) = 123 :: txtp true its ks ++ [125] := by rw [txt, if_neg (by decide), if_neg (by decide), if_neg (by decide), if_neg (by decide), if_pos rfl]
theorem txt_other {k n : Int} {s : ByteArray} {its : List V} {ks : List ByteArray} (h1 : k ≠ 1) (h2 : k ≠ 2) (h3 : k ≠ 3) (h4 : k ≠ 4) (h5 : k ≠ 5) : txt (.mk k n s its ks) = [110, 117, 108, 108] := by rw [txt, if_neg h1, if_neg h2, if_neg h3, if_neg h4, if_neg h5]
end Go.Proofs.YtdkggnciamfcmaaGreatDoor.M
