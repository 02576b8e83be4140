/-
  Several texts in one: DMath DCodA DRow DCodB DCodC DCodE DCodF DCodG.
-/
import Derived.Test.YtkodmhopollnpaaGreatVal
import Derived.Test.YtkodmhopollnpaaGreatMathB
import Derived.Test.YtkodmhopollnpaaGreatReadC
import Derived.Test.YtkodmhopollnpaaGreatVMem4
import Derived.Test.YtkodmhopollnpaaGreatVCodC
import Derived.Test.YtkodmhopollnpaaGreatVPush
import Derived.Test.YtkodmhopollnpaaGreatVCodA
import Derived.IntWalk
import Derived.Deep.RegionLaw
import Derived.Test.YtkodmhopollnpaaGreatVRefK
namespace Go.Proofs.YtkodmhopollnpaaGreat.M

def St.num (s : St) : Int × St := s.int (-9223372036854775808) 9223372036854775807
def St.str (s : St) : ByteArray × St := (⟨(s.text 9223372036854775807).1.toArray⟩, (s.text 9223372036854775807).2)
/-- Fail with ErrForm. -/
def St.bad (s : St) : St := s.fail 3
/-- A text of at most 4096 bytes. -/
def tx (s : St) : ByteArray × St := (s.str.1, if 4096 < s.str.1.size then s.str.2.bad else s.str.2)
/-- A key that follows those before it. -/
def after (ks : List ByteArray) (k : ByteArray) : Bool := decide (ks.length = 0) || Go.Op.bytesLess (ks.getD (ks.length - 1) ByteArray.empty).toList k.toList
def kx (s : St) (ks : List ByteArray) : ByteArray × St := ((tx s).1, if after ks (tx s).1 = true then (tx s).2 else (tx s).2.bad)
/-- A bit; a number of items. -/
def bx (s : St) : Int × St := (s.num.1, if s.num.1 = 0 ∨ s.num.1 = 1 then s.num.2 else s.num.2.bad)
def cx (s : St) : Nat × St := if s.num.1 < 0 ∨ 1000 < s.num.1 then (0, s.num.2.bad) else (s.num.1.toNat, s.num.2)

def dL (rec : St → Nat → St × Nat × V) : Nat → St → Nat → List V → St × Nat × List V
  | 0, s, b, its => (s, b, its)
  | n + 1, s, b, its =>
    if (rec s b).1.e = 0 then dL rec n (rec s b).1 (rec s b).2.1 (its ++ [(rec s b).2.2]) else ((rec s b).1, (rec s b).2.1, its ++ [(rec s b).2.2])
def dP (rec : St → Nat → St × Nat × V) : Nat → St → Nat → List ByteArray → List V → St × Nat × List ByteArray × List V
  | 0, s, b, ks, its => (s, b, ks, its)
  | n + 1, s, b, ks, its =>
    if (rec (kx s ks).2 b).1.e = 0 then dP rec n (rec (kx s ks).2 b).1 (rec (kx s ks).2 b).2.1 (ks ++ [(kx s ks).1]) (its ++ [(rec (kx s ks).2 b).2.2])
    else ((rec (kx s ks).2 b).1, (rec (kx s ks).2 b).2.1, ks ++ [(kx s ks).1], its ++ [(rec (kx s ks).2 b).2.2])
def dv : Nat → St → Nat → St × Nat × V
  | 0, s, b => (s.bad, b, V.null)
  | f + 1, s, b =>
    if 1000 ≤ b then (s.bad, b, V.null)
    else if s.num.1 = 0 then (s.num.2, b + 1, V.null)
    else if s.num.1 = 1 then ((bx s.num.2).2, b + 1, .mk 1 (if (bx s.num.2).1 = 1 then 1 else 0) ByteArray.empty [] [])
    else if s.num.1 = 2 then (s.num.2.num.2, b + 1, .mk 2 s.num.2.num.1 ByteArray.empty [] [])
    else if s.num.1 = 3 then ((tx s.num.2).2, b + 1, .mk 3 0 (tx s.num.2).1 [] [])
    else if s.num.1 = 4 then ((dL (dv f) (cx s.num.2).1 (cx s.num.2).2 (b + 1) []).1, (dL (dv f) (cx s.num.2).1 (cx s.num.2).2 (b + 1) []).2.1, .mk 4 0 ByteArray.empty (dL (dv f) (cx s.num.2).1 (cx s.num.2).2 (b + 1) []).2.2 [])
    else if s.num.1 = 5 then ((dP (dv f) (cx s.num.2).1 (cx s.num.2).2 (b + 1) [] []).1, (dP (dv f) (cx s.num.2).1 (cx s.num.2).2 (b + 1) [] []).2.1, .mk 5 0 ByteArray.empty (dP (dv f) (cx s.num.2).1 (cx s.num.2).2 (b + 1) [] []).2.2.2 (dP (dv f) (cx s.num.2).1 (cx s.num.2).2 (b + 1) [] []).2.2.1)
    else (s.num.2.bad, b + 1, V.null)

section
variable {s : St} {f b : Nat}
theorem dv_zero : dv 0 s b = (s.bad, b, V.null) := by rw [dv]
theorem dv_full (h : 1000 ≤ b) : dv f s b = (s.bad, b, V.null) := by cases f with | zero => rw [dv] | succ f => rw [dv, if_pos h]
theorem dv_null (h : b < 1000) (hk : s.num.1 = 0) : dv (f + 1) s b = (s.num.2, b + 1, V.null) := by rw [dv, if_neg (by omega), if_pos hk]
theorem dv_bool (h : b < 1000) (hk : s.num.1 = 1) : dv (f + 1) s b = ((bx s.num.2).2, b + 1, .mk 1 (if (bx s.num.2).1 = 1 then 1 else 0) ByteArray.empty [] []) := by
  rw [dv, if_neg (by omega), if_neg (by omega), if_pos hk]
theorem dv_int (h : b < 1000) (hk : s.num.1 = 2) : dv (f + 1) s b = (s.num.2.num.2, b + 1, .mk 2 s.num.2.num.1 ByteArray.empty [] []) := by
  rw [dv, if_neg (by omega), if_neg (by omega), if_neg (by omega), if_pos hk]
theorem dv_text (h : b < 1000) (hk : s.num.1 = 3) : dv (f + 1) s b = ((tx s.num.2).2, b + 1, .mk 3 0 (tx s.num.2).1 [] []) := by
  rw [dv, if_neg (by omega), if_neg (by omega), if_neg (by omega), if_neg (by omega), if_pos hk]
theorem dv_list (h : b < 1000) (hk : s.num.1 = 4) : dv (f + 1) s b = ((dL (dv f) (cx s.num.2).1 (cx s.num.2).2 (b + 1) []).1, (dL (dv f) (cx s.num.2).1 (cx s.num.2).2 (b + 1) []).2.1, .mk 4 0 ByteArray.empty (dL (dv f) (cx s.num.2).1 (cx s.num.2).2 (b + 1) []).2.2 []) := by
  rw [dv, if_neg (by omega), if_neg (by omega), if_neg (by omega), if_neg (by omega), if_neg (by omega), if_pos hk]
theorem dv_map (h : b < 1000) (hk : s.num.1 = 5) : dv (f + 1) s b = ((dP (dv f) (cx s.num.2).1 (cx s.num.2).2 (b + 1) [] []).1, (dP (dv f) (cx s.num.2).1 (cx s.num.2).2 (b + 1) [] []).2.1, .mk 5 0 ByteArray.empty (dP (dv f) (cx s.num.2).1 (cx s.num.2).2 (b + 1) [] []).2.2.2 (dP (dv f) (cx s.num.2).1 (cx s.num.2).2 (b + 1) [] []).2.2.1) := by
  rw [dv, if_neg (by omega), if_neg (by omega), if_neg (by omega), if_neg (by omega), if_neg (by omega), if_neg (by omega), if_pos hk]
theorem dv_kind (h : b < 1000) (h0 : s.num.1 < 0 ∨ 5 < s.num.1) : dv (f + 1) s b = (s.num.2.bad, b + 1, V.null) := by
  rw [dv, if_neg (by omega), if_neg (by omega), if_neg (by omega), if_neg (by omega), if_neg (by omega), if_neg (by omega), if_neg (by omega)]

theorem dL_zero {rec : St → Nat → St × Nat × V} {its : List V} : dL rec 0 s b its = (s, b, its) := by rw [dL]
theorem dL_live {rec : St → Nat → St × Nat × V} {its : List V} {n : Nat} (h : (rec s b).1.e = 0) : dL rec (n + 1) s b its = dL rec n (rec s b).1 (rec s b).2.1 (its ++ [(rec s b).2.2]) := by rw [dL, if_pos h]
theorem dL_dead {rec : St → Nat → St × Nat × V} {its : List V} {n : Nat} (h : ¬ (rec s b).1.e = 0) : dL rec (n + 1) s b its = ((rec s b).1, (rec s b).2.1, its ++ [(rec s b).2.2]) := by rw [dL, if_neg h]
theorem dP_zero {rec : St → Nat → St × Nat × V} {its : List V} {ks : List ByteArray} : dP rec 0 s b ks its = (s, b, ks, its) := by rw [dP]
theorem dP_live {rec : St → Nat → St × Nat × V} {its : List V} {ks : List ByteArray} {n : Nat} (h : (rec (kx s ks).2 b).1.e = 0) :
    dP rec (n + 1) s b ks its = dP rec n (rec (kx s ks).2 b).1 (rec (kx s ks).2 b).2.1 (ks ++ [(kx s ks).1]) (its ++ [(rec (kx s ks).2 b).2.2]) := by rw [dP, if_pos h]
theorem dP_dead {rec : St → Nat → St × Nat × V} {its : List V} {ks : List ByteArray} {n : Nat} (h : ¬ (rec (kx s ks).2 b).1.e = 0) :
    dP rec (n + 1) s b ks its = ((rec (kx s ks).2 b).1, (rec (kx s ks).2 b).2.1, ks ++ [(kx s ks).1], its ++ [(rec (kx s ks).2 b).2.2]) := by rw [dP, if_neg h]
end

/-! ### What an error does; what is left grows no longer -/
theorem num_dead {s : St} (h : s.e ≠ 0) : s.num = (0, s) := St.int_dead h _ _
theorem str_dead {s : St} (h : s.e ≠ 0) : s.str = (ByteArray.empty, s) := by
  unfold St.str
  rw [St.text_dead (t := s) (by rw [St.int_dead h]) h]
  rfl
theorem bad_dead {s : St} (h : s.e ≠ 0) : s.bad = s := St.fail_dead h 3
theorem bad_e (s : St) : s.bad.e ≠ 0 := by
  unfold St.bad
  by_cases h : s.e = 0
  · rw [St.fail_live h (by omega)]; simp
  · rw [St.fail_dead h]; exact h
theorem bad_len (s : St) : s.bad.l.length ≤ s.l.length := by
  unfold St.bad
  by_cases h : s.e = 0
  · rw [St.fail_live h (by omega)]; simp
  · rw [St.fail_dead h]; exact Nat.le_refl _
theorem tx_dead {s : St} (h : s.e ≠ 0) : tx s = (ByteArray.empty, s) := by
  unfold tx; rw [str_dead h]; rfl
theorem kx_dead {s : St} (h : s.e ≠ 0) (ks : List ByteArray) : kx s ks = (ByteArray.empty, s) := by
  unfold kx
  rw [tx_dead h]
  split
  · rfl
  · rw [bad_dead h]
theorem dv_dead {f b : Nat} {s : St} (h : s.e ≠ 0) : (dv f s b).1 = s := by
  cases f with
  | zero => rw [dv_zero]; exact bad_dead h
  | succ f =>
    by_cases hb : 1000 ≤ b
    · rw [dv_full hb]; exact bad_dead h
    · rw [dv_null (by omega) (by rw [num_dead h]), num_dead h]
theorem int_len (s : St) (lo hi : Int) : (s.int lo hi).2.l.length ≤ s.l.length := by
  unfold St.int
  split
  · exact Nat.le_refl _
  · split
    · exact Nat.zero_le _
    · split
      · exact Nat.zero_le _
      · show (s.l.drop _).length ≤ _; rw [List.length_drop]; omega
theorem num_len (s : St) : s.num.2.l.length ≤ s.l.length := int_len s _ _
theorem text_len (s : St) (y : Int) : (s.text y).2.l.length ≤ s.l.length ∧ (s.text y).1.length ≤ s.l.length := by
  have h := int_len s 0 y
  unfold St.text
  split
  · exact ⟨h, Nat.zero_le _⟩
  · split
    · exact ⟨Nat.zero_le _, Nat.zero_le _⟩
    · exact ⟨by show (List.drop _ _).length ≤ _; rw [List.length_drop]; omega, by show (List.take _ _).length ≤ _; rw [List.length_take]; omega⟩
theorem str_len (s : St) : s.str.2.l.length ≤ s.l.length ∧ s.str.1.size ≤ s.l.length := ⟨(text_len s _).1, by show (List.toArray _).size ≤ _; rw [List.size_toArray]; exact (text_len s _).2⟩
theorem tx_len (s : St) : (tx s).2.l.length ≤ s.l.length ∧ (tx s).1.size ≤ s.l.length := by
  have h := str_len s
  unfold tx
  refine ⟨?_, h.2⟩
  split
  · exact Nat.le_trans (bad_len _) h.1
  · exact h.1
theorem kx_len (s : St) (ks : List ByteArray) : (kx s ks).2.l.length ≤ s.l.length ∧ (kx s ks).1.size ≤ s.l.length := by
  have h := tx_len s
  unfold kx
  refine ⟨?_, h.2⟩
  split
  · exact h.1
  · exact Nat.le_trans (bad_len _) h.1
theorem bx_len (s : St) : (bx s).2.l.length ≤ s.l.length := by
  have h := num_len s
  unfold bx
  split
  · exact h
  · exact Nat.le_trans (bad_len _) h
theorem cx_len (s : St) : (cx s).2.l.length ≤ s.l.length ∧ (cx s).1 ≤ 1000 := by
  have h := num_len s
  unfold cx
  split
  · exact ⟨Nat.le_trans (bad_len _) h, Nat.zero_le _⟩
  · exact ⟨h, by show Int.toNat _ ≤ _; omega⟩
theorem int_in (s : St) : -9223372036854775808 ≤ s.num.1 ∧ s.num.1 ≤ 9223372036854775807 := by
  unfold St.num St.int
  split
  · exact ⟨by show (-9223372036854775808 : Int) ≤ 0; omega, by show (0 : Int) ≤ _; omega⟩
  · split
    · exact ⟨by show (-9223372036854775808 : Int) ≤ 0; omega, by show (0 : Int) ≤ _; omega⟩
    · split
      · exact ⟨by show (-9223372036854775808 : Int) ≤ 0; omega, by show (0 : Int) ≤ _; omega⟩
      · rename_i h; exact ⟨by show _ ≤ zag _; omega, by show zag _ ≤ _; omega⟩
/-- What begins is counted to 1000. -/
def Small (rec : St → Nat → St × Nat × V) : Prop := ∀ s b, (rec s b).1.l.length ≤ s.l.length ∧ (b ≤ 1000 → (rec s b).2.1 ≤ 1000)
theorem dL_small {rec : St → Nat → St × Nat × V} (h : Small rec) : ∀ (n : Nat) (s : St) (b : Nat) (its : List V), (dL rec n s b its).1.l.length ≤ s.l.length ∧ (b ≤ 1000 → (dL rec n s b its).2.1 ≤ 1000)
  | 0, s, b, its => by rw [dL_zero]; exact ⟨Nat.le_refl _, fun h => h⟩
  | n + 1, s, b, its => by
    have h1 := h s b
    by_cases he : (rec s b).1.e = 0
    · rw [dL_live he]
      have h2 := dL_small h n (rec s b).1 (rec s b).2.1 (its ++ [(rec s b).2.2])
      exact ⟨Nat.le_trans h2.1 h1.1, fun hb => h2.2 (h1.2 hb)⟩
    · rw [dL_dead he]; exact h1
theorem dP_small {rec : St → Nat → St × Nat × V} (h : Small rec) : ∀ (n : Nat) (s : St) (b : Nat) (ks : List ByteArray) (its : List V), (dP rec n s b ks its).1.l.length ≤ s.l.length ∧ (b ≤ 1000 → (dP rec n s b ks its).2.1 ≤ 1000)
  | 0, s, b, ks, its => by rw [dP_zero]; exact ⟨Nat.le_refl _, fun h => h⟩
  | n + 1, s, b, ks, its => by
    have h0 := (kx_len s ks).1
    have h1 := h (kx s ks).2 b
    by_cases he : (rec (kx s ks).2 b).1.e = 0
    · rw [dP_live he]
      have h2 := dP_small h n (rec (kx s ks).2 b).1 (rec (kx s ks).2 b).2.1 (ks ++ [(kx s ks).1]) (its ++ [(rec (kx s ks).2 b).2.2])
      exact ⟨Nat.le_trans h2.1 (Nat.le_trans h1.1 h0), fun hb => h2.2 (h1.2 hb)⟩
    · rw [dP_dead he]; exact ⟨Nat.le_trans h1.1 h0, h1.2⟩
theorem dv_small : ∀ f, Small (dv f)
  | 0 => fun s b => by rw [dv_zero]; exact ⟨bad_len s, fun h => h⟩
  | f + 1 => fun s b => by
    have hn := num_len s
    by_cases hb : 1000 ≤ b
    · rw [dv_full hb]; exact ⟨bad_len s, fun h => h⟩
    · have hb' : b < 1000 := by omega
      rcases (show s.num.1 = 0 ∨ s.num.1 = 1 ∨ s.num.1 = 2 ∨ s.num.1 = 3 ∨ s.num.1 = 4 ∨ s.num.1 = 5 ∨ (s.num.1 < 0 ∨ 5 < s.num.1) by omega) with h | h | h | h | h | h | h
      · rw [dv_null hb' h]; exact ⟨hn, fun _ => by show b + 1 ≤ _; omega⟩
      · rw [dv_bool hb' h]; exact ⟨Nat.le_trans (bx_len _) hn, fun _ => by show b + 1 ≤ _; omega⟩
      · rw [dv_int hb' h]; exact ⟨Nat.le_trans (num_len _) hn, fun _ => by show b + 1 ≤ _; omega⟩
      · rw [dv_text hb' h]; exact ⟨Nat.le_trans (tx_len _).1 hn, fun _ => by show b + 1 ≤ _; omega⟩
      · rw [dv_list hb' h]
        have h2 := dL_small (dv_small f) (cx s.num.2).1 (cx s.num.2).2 (b + 1) []
        exact ⟨Nat.le_trans h2.1 (Nat.le_trans (cx_len _).1 hn), fun _ => h2.2 (by omega)⟩
      · rw [dv_map hb' h]
        have h2 := dP_small (dv_small f) (cx s.num.2).1 (cx s.num.2).2 (b + 1) [] []
        exact ⟨Nat.le_trans h2.1 (Nat.le_trans (cx_len _).1 hn), fun _ => h2.2 (by omega)⟩
      · rw [dv_kind hb' h]; exact ⟨Nat.le_trans (bad_len _) hn, fun _ => by show b + 1 ≤ _; omega⟩
end Go.Proofs.YtkodmhopollnpaaGreat.M

namespace Go.Proofs.YtkodmhopollnpaaGreat
set_option linter.unusedVariables false
open Go.RowKit
open M (V)

/-- Of the blocks below n, only block l and the one ahead of B have changed. -/
structure Frm (n l B : Nat) (w w' : World) : Prop where
  os : w'.os = w.os
  tape : w'.tape = w.tape
  output : w'.output = w.output
  size : w.heap.size ≤ w'.heap.size
  blk : ∀ b, b < n → b ≠ l ∧ b + 1 ≠ B → w'.heap[b]? = w.heap[b]?
section
variable {w w1 w2 : World} {n m l B : Nat}
theorem Frm.block (h : Frm n l B w w1) (b : Nat) (hb : b < n) (hc : (b < l ∧ b + 1 < B) ∨ (l < b ∧ B ≤ b)) : w1.heap[b]? = w.heap[b]? := h.blk b hb ⟨by omega, by omega⟩
theorem Frm.refl (n l B : Nat) (w : World) : Frm n l B w w := ⟨rfl, rfl, rfl, Nat.le_refl _, fun _ _ _ => rfl⟩
theorem Frm.trans (h : Frm n l B w w1) (h2 : Frm m l B w1 w2) (hm : n ≤ m) : Frm n l B w w2 :=
  ⟨h2.os.trans h.os, h2.tape.trans h.tape, h2.output.trans h.output, Nat.le_trans h.size h2.size, fun b h3 h4 => (h2.blk b (by omega) h4).trans (h.blk b h3 h4)⟩
theorem Frm.mono (h : Frm n l B w w1) (hm : m ≤ n) : Frm m l B w w1 := ⟨h.os, h.tape, h.output, h.size, fun b h3 h4 => h.blk b (by omega) h4⟩
theorem Frm.of_below (h : Below n w w1) : Frm n l B w w1 := ⟨h.os, h.tape, h.output, h.size, fun b h3 _ => h.block b h3⟩
theorem Frm.of_only {g : Nat} (h : w.grownBy w1 (some g)) : Frm w.heap.size g B w w1 :=
  ⟨h.os, h.tape, h.output, h.size, fun b h3 h4 => h.block b h3 (fun e => by injection e; omega)⟩
theorem Frm.step (h : Frm w.heap.size l B w w1) (h2 : Frm w1.heap.size l B w1 w2) : Frm w.heap.size l B w w2 := h.trans h2 h.size
theorem Frm.set (h : Frm n l B w w1) {p : Addr} (hp : (p.block = l ∨ p.block + 1 = B) ∨ n ≤ p.block) (u : Value) : Frm n l B w (w1.setCell p u) :=
  ⟨h.os, h.tape, h.output, by simpa [World.setCell] using h.size, fun b h3 h4 => (heap_setCell_other _ _ _ _ (by omega)).trans (h.blk b h3 h4)⟩
theorem Frm.kept (h : Frm n l B w w1) {lo hi : Nat} (h0 : l < lo) (h1 : B ≤ lo) (h2 : hi ≤ n) : Kept lo hi w w1 := fun b b1 b2 => h.blk b (by omega) ⟨by omega, by omega⟩
theorem own_frm {base e size k : Nat} {v : Value} {xs : List Value} (h : w.ownsRow base e size v k xs) (hf : Frm n l B w w1) (hn : w.heap.size ≤ n) (hl : l < base) (hB : B ≤ base) : w1.ownsRow base e size v k xs := by
  obtain ⟨h1, h2⟩ := h
  refine ⟨h1, ?_⟩
  rcases h2 with h2 | ⟨g, cap, cur, hv, hg, hh, r⟩
  · exact .inl h2
  · exact .inr ⟨g, cap, cur, hv, hg, by rw [hf.blk g (by have := row_lt hh; omega) ⟨by omega, by omega⟩]; exact hh, r⟩
end

/-- The decoder in block D, over the reader in block g. -/
structure Dec (w : World) (lo g D : Nat) (s : M.St) (b : Nat) : Prop where
  rd : RdX w lo g s
  blk : w.heap[D]? = some (.cells #[.pointer (some ⟨g, 0, none⟩), .int .i64 (b : Int)] 57 (0, 0))
  lt : g < D
  low : lo ≤ g
section
variable {w w' : World} {lo g D : Nat} {s s' : M.St} {b : Nat}
theorem Dec.kept (h : Dec w lo g D s b) (k : Kept lo (D + 1) w w') : Dec w' lo g D s b :=
  ⟨h.rd.kept (fun x h1 h2 => k x h1 (by have := h.lt; omega)), (k D (by have := h.lt; have := h.low; omega) (by omega)).trans h.blk, h.lt, h.low⟩
theorem Dec.next (h : Dec w lo g D s b) (hr : RdX w' lo g s') (hg : w.grownBy w' (some g)) : Dec w' lo g D s' b :=
  ⟨hr, (hg.block D (row_lt h.blk) (fun e => by injection e with e; have := h.lt; omega)).trans h.blk, h.lt, h.low⟩
theorem Dec.size (h : Dec w lo g D s b) : D < w.heap.size := row_lt h.blk
theorem Dec.cells (h : Dec w lo g D s b) : w.cell? ⟨D, 0, none⟩ = some (.pointer (some ⟨g, 0, none⟩)) ∧ w.cell? ⟨D, 1, none⟩ = some (.int .i64 (b : Int)) ∧ w.frozen? ⟨D, 1, none⟩ = false :=
  ⟨cell_of_row w D 0 _ _ _ h.blk, cell_of_row w D 1 _ _ _ h.blk, frozen_of_row w D 1 _ _ h.blk⟩
theorem Dec.frm (h : Dec w lo g D s b) (hg : w.grownBy w' (some g)) : Frm w.heap.size g (D + 1) w w' := Frm.of_only hg
theorem Dec.below (h : Dec w lo g D s b) (hb : Below w.heap.size w w') : Dec w' lo g D s b := h.kept (Kept.of_below hb h.size)
end

def NewN (lo g D : Nat) (s : M.St) (b : Nat) (v : Value) (w : World) (e : Ending) (w' : World) : Prop := e = .returned v ∧ Dec w' lo g D s b ∧ Frm w.heap.size g (D + 1) w w'

set_option maxHeartbeats 400000 in
theorem integer_any {w : World} {lo g D b : Nat} {s : M.St} (h : Dec w lo g D s b) :
    Calls Tryz.prog 49 #[.pointer (some ⟨D, 0, none⟩)] w (NewN lo g D s.num.2 b (.int .i64 s.num.1) w) := by
  obtain ⟨c0, -, -⟩ := h.cells
  go_enter Tryz.func49, Tryz.ntmps49
  go_wp2_with fail
  refine (intX _ _ h.rd).mono ?_
  rintro e w1 ⟨rfl, h1, hg⟩
  have HD := Lib.hid h
  clear h c0
  go_wp2_with fail
  go_ret
  exact ⟨rfl, HD.out.next h1 hg, HD.out.frm hg⟩

set_option maxHeartbeats 400000 in
theorem dfail_any {w : World} {lo g D b : Nat} {s : M.St} (h : Dec w lo g D s b) :
    Calls Tryz.prog 48 #[.pointer (some ⟨D, 0, none⟩)] w (NewN lo g D s.bad b (.tuple #[]) w) := by
  obtain ⟨c0, -, -⟩ := h.cells
  go_enter Tryz.func48, Tryz.ntmps48
  go_wp2_with fail
  refine (failX _ h.rd).mono ?_
  rintro e w1 ⟨rfl, h1, hg⟩
  have HD := Lib.hid h
  clear h c0
  go_wp2_with fail
  go_end0
  exact ⟨rfl, HD.out.next h1 hg, HD.out.frm hg⟩

set_option maxHeartbeats 400000 in
theorem failed_any {w : World} {lo g D b : Nat} {s : M.St} (h : Dec w lo g D s b) :
    Calls Tryz.prog 27 #[.pointer (some ⟨D, 0, none⟩)] w fun e w' => e = .returned (.bool (s.e != 0)) ∧ w = w' := by
  obtain ⟨c0, -, -⟩ := h.cells
  go_enter Tryz.func27, Tryz.ntmps27
  go_wp2_with fail
  refine (errX h.rd).mono ?_
  rintro e w1 ⟨rfl, rfl⟩
  go_wp2_with fail
  go_ret
  exact ⟨rfl, rfl⟩

theorem str_eq (s : M.St) : strOf (s.text 9223372036854775807).1 = s.str.1 := rfl

set_option maxHeartbeats 1000000 in
theorem dtext_any {w : World} {lo g D b : Nat} {s : M.St} (h : Dec w lo g D s b) (hs : s.l.length ≤ 100000000) :
    Calls Tryz.prog 52 #[.pointer (some ⟨D, 0, none⟩)] w (NewN lo g D (M.tx s).2 b (.string (M.tx s).1) w) := by
  obtain ⟨c0, -, -⟩ := h.cells
  have hl := (M.str_len s).2
  go_enter Tryz.func52, Tryz.ntmps52
  go_wp2_with fail
  refine (textX _ h.rd).mono ?_
  rintro e w1 ⟨rfl, h1, hg⟩
  rw [str_eq]
  have HD := Lib.hid (h.next h1 hg)
  have HF := Lib.hid (h.frm hg)
  clear h c0 h1 hg
  by_cases hb : 4096 < s.str.1.size
  · have HT : Hid ((M.tx s).2 = s.str.2.bad) := Lib.hid (by unfold M.tx; rw [if_pos hb])
    go_wp2_with fail
    refine (tooLong_any _ _ (by omega)).mono ?_
    rintro e w2 ⟨rfl, rfl⟩
    rw [M.fits_no hb, Bool.not_false]
    go_wp2_with fail
    refine (dfail_any HD.out).mono ?_
    rintro e w2 ⟨rfl, h2, h3⟩
    go_wp2_with fail
    go_ret
    exact ⟨rfl, by rw [HT.out]; exact h2, HF.out.step h3⟩
  · have HT : Hid ((M.tx s).2 = s.str.2) := Lib.hid (by unfold M.tx; rw [if_neg hb])
    go_wp2_with fail
    refine (tooLong_any _ _ (by omega)).mono ?_
    rintro e w2 ⟨rfl, rfl⟩
    rw [M.fits_yes hb, Bool.not_true]
    go_wp2_with fail
    go_ret
    exact ⟨rfl, by rw [HT.out]; exact HD.out, HF.out⟩
end Go.Proofs.YtkodmhopollnpaaGreat

namespace Go.Proofs.YtkodmhopollnpaaGreat
set_option linter.unusedVariables false
open Go.RowKit
open M (V)

/-- Element q of a row that still grows: what it refers to lies beside both rows. -/
def ElemB (w : World) (lo d : Nat) (r1 r2 : Option Nat) (cs : Array Value) (q : Nat) (t : V) : Prop := ∃ a b, lo ≤ a ∧ b ≤ w.heap.size ∧ (∀ k, r1 = some k → k < a ∨ b ≤ k) ∧ (∀ k, r2 = some k → k < a ∨ b ≤ k) ∧ Elem w a b d cs q t
/-- The box M of a value whose rows grow. -/
structure Grw (w : World) (base M d : Nat) (u0 u1 u2 vI vK : Value) (cI : List Value) (ks : List ByteArray) (its : List V) (T : TypeId) : Prop where
  box : w.heap[M]? = some (.cells #[u0, u1, u2, vI, vK] T (0, 0))
  ov : OV w base vI cI its.length
  os : OS w base vK ks
  el : ∀ q, q < its.length → ElemB w base d vI.ownBlock vK.ownBlock cI.toArray q (its.getD q default)
  low : M < base
  high : base ≤ w.heap.size

section
variable {w w1 w2 w3 : World} {base M d l B g cap : Nat} {u0 u1 u2 vI vK : Value} {cI : List Value} {ks : List ByteArray} {its : List V} {T : TypeId} {o : Obj}
theorem Grw.frm (h : Grw w base M d u0 u1 u2 vI vK cI ks its T) (hf : Frm w.heap.size l B w w1) (hl : l < M) (hB : B ≤ M) : Grw w1 base M d u0 u1 u2 vI vK cI ks its T := by
  have h1 := h.low
  have h2 := h.high
  refine ⟨(hf.block M (by omega) (.inr ⟨hl, hB⟩)).trans h.box, own_frm h.ov hf (Nat.le_refl _) (by omega) (by omega), own_frm h.os hf (Nat.le_refl _) (by omega) (by omega), fun q hq => ?_, h1, Nat.le_trans h2 hf.size⟩
  obtain ⟨a, b, e1, e2, e3, e4, e5⟩ := h.el q hq
  exact ⟨a, b, e1, Nat.le_trans e2 hf.size, e3, e4, e5.kept (hf.kept (by omega) (by omega) e2)⟩
theorem Grw.ne1 (h : Grw w base M d u0 u1 u2 vI vK cI ks its T) : some M ≠ vI.ownBlock := fun e => by have := (h.ov.lt _ e.symm).1; have := h.low; omega
theorem Grw.ne2 (h : Grw w base M d u0 u1 u2 vI vK cI ks its T) : some M ≠ vK.ownBlock := fun e => by have := (World.ownsRow.lt h.os _ e.symm).1; have := h.low; omega
theorem Grw.start (hb : w.heap[M]? = some (.cells #[u0, u1, u2, .slice none 0 0, .slice none 0 0] T (0, 0))) (h1 : M < base) (h2 : base ≤ w.heap.size) : Grw w base M d u0 u1 u2 (.slice none 0 0) (.slice none 0 0) [] [] [] T :=
  ⟨hb, World.ownsRow_nil _ _ _ _, OS.empty _ _, fun q hq => absurd hq (Nat.not_lt_zero _), h1, h2⟩
/-- What a push leaves: the blocks below base but for the box, and the frame. -/
theorem push_frame {u : Value} {f : Nat} {row : Option Nat} (hM : M < base) (hbase : base ≤ w2.heap.size) (hg : (w2.alloc o).grownBy w3 row) (hr : ∀ k, row = some k → base ≤ k) :
    (∀ b, b < base → b ≠ M → (w3.setCell ⟨M, f, none⟩ u).heap[b]? = w2.heap[b]?) ∧ Frm M l B w2 (w3.setCell ⟨M, f, none⟩ u) ∧ w2.heap.size + 1 ≤ (w3.setCell ⟨M, f, none⟩ u).heap.size := by
  have hs := hg.size
  simp only [World.size_alloc] at hs
  have hg1 : w2.grownBy w3 row := (World.grownBy_alloc w2 o row).trans hg
  have hk : ∀ b, b < base → w3.heap[b]? = w2.heap[b]? := fun b hb => hg1.block b (by omega) (fun e => by have := hr b e.symm; omega)
  refine ⟨fun b h1 h2 => ?_, ⟨hg1.os, hg1.tape, hg1.output, by rw [set_size]; omega, fun b h1 _ => ?_⟩, by rw [set_size]; omega⟩
  · rw [heap_setCell_other _ _ _ _ (by simpa using h2)]; exact hk b h1
  · rw [heap_setCell_other _ _ _ _ (by show b ≠ M; omega)]; exact hk b (by omega)
/-- One more item. -/
theorem Grw.item {k i : Int} {s : ByteArray} {x y : Value} {t : V} (h : Grw w1 base M d u0 u1 u2 vI vK cI ks its T) (hf : Frm w1.heap.size l B w1 w2) (hl : l < M) (hB : B ≤ M)
    (hv : VB w2 w1.heap.size w2.heap.size d (.agg #[.int .i64 k, .int .i64 i, .string s, x, y]) t)
    (h1 : w3.ownsRow base 31 5 (.slice (some ⟨g, 0, none⟩) (its.length + 1) cap) (its.length + 1) (cI ++ [.int .i64 k, .int .i64 i, .string s, x, y])) (h2 : (w2.alloc o).grownBy w3 vI.ownBlock)
    (h3 : vI.ownBlock = some g ∨ w2.heap.size + 1 ≤ g) :
    Grw (w3.setCell ⟨M, 3, none⟩ (.slice (some ⟨g, 0, none⟩) (its.length + 1) cap)) base M d u0 u1 u2 (.slice (some ⟨g, 0, none⟩) (its.length + 1) cap) vK (cI ++ [.int .i64 k, .int .i64 i, .string s, x, y]) ks (its ++ [t]) T := by
  have hG := h.frm hf hl hB
  have hlow := h.low
  have hhigh := h.high
  have hs1 := hf.size
  have hs2 := h2.size
  simp only [World.size_alloc] at hs2
  have hg1 : w2.grownBy w3 vI.ownBlock := (World.grownBy_alloc w2 o vI.ownBlock).trans h2
  have hM3 : w3.heap[M]? = some (.cells #[u0, u1, u2, vI, vK] T (0, 0)) := (hg1.block M (by omega) h.ne1).trans hG.box
  have hset : w3.grownBy (w3.setCell ⟨M, 3, none⟩ (.slice (some ⟨g, 0, none⟩) (its.length + 1) cap)) (some M) := ⟨rfl, rfl, rfl, by simp [World.setCell], fun k _ hk => heap_setCell_other w3 ⟨M, 3, none⟩ k _ (by intro e; exact hk (by rw [e]))⟩
  have hgM : g ≠ M := by rcases h3 with e | e
                         · have := (h.ov.lt _ e).1; omega
                         · omega
  have hgs : base ≤ g := by rcases h3 with e | e
                            · exact (h.ov.lt _ e).1
                            · omega
  have hlen : (its ++ [t]).length = its.length + 1 := by simp
  refine ⟨heap_setCell_same _ _ 3 _ _ _ hM3, by rw [hlen]; exact World.ownsRow.kept h1 hset (.inr (fun e => hgM (by injection e))), ?_, ?_, hlow, by rw [set_size]; omega⟩
  · have e3 := World.ownsRow.kept hG.os hg1 (own_other (w' := w2) hG.os hG.ov (by decide))
    exact World.ownsRow.kept e3 hset (.inr (fun e => by have := (World.ownsRow.lt e3 _ e).1; omega))
  · intro q hq
    rw [hlen] at hq
    rcases Nat.lt_or_ge q its.length with hql | hql
    · obtain ⟨a, b, e1, e2, e3, e4, e5⟩ := hG.el q hql
      rw [show (its ++ [t]).getD q default = its.getD q default by simp [List.getD, List.getElem?_append_left hql]]
      refine ⟨a, b, e1, by rw [set_size]; omega, fun k' hk' => ?_, e4, ?_⟩
      · injection hk' with hk'
        have hk' : g = k' := hk'
        subst hk'
        rcases h3 with e | e
        · exact e3 _ e
        · exact .inr (by omega)
      · refine ((e5.kept fun k' k1 k2 => ?_).same fun i' i1 i2 => ?_)
        · rw [heap_setCell_other _ _ _ _ (show k' ≠ M by omega)]
          exact hg1.block k' (by omega) (fun e => by rcases e3 k' e.symm with h | h <;> omega)
        · simp only [List.getElem?_toArray]
          exact List.getElem?_append_left (by have := h.ov.1; omega)
    · obtain rfl : q = its.length := by omega
      rw [show (its ++ [t]).getD its.length default = t by simp [List.getD]]
      have gl : ∀ r, (cI ++ [Value.int .i64 k, .int .i64 i, .string s, x, y]).toArray[its.length * 5 + r]? = [Value.int .i64 k, .int .i64 i, .string s, x, y][r]? := fun r => by
        simp only [List.getElem?_toArray]
        rw [List.getElem?_append_right (by have := h.ov.1; omega), h.ov.1]
        congr 1; omega
      refine ⟨w1.heap.size, w2.heap.size, hhigh, by rw [set_size]; omega, fun k' hk' => ?_, fun k' hk' => .inl (World.ownsRow.lt h.os _ hk').2, k, i, s, x, y, gl 0, gl 1, gl 2, gl 3, gl 4, ?_⟩
      · injection hk' with hk'
        have hk' : g = k' := hk'
        subst hk'
        rcases h3 with e | e
        · exact .inl (h.ov.lt _ e).2
        · exact .inr (by omega)
      · refine hv.kept fun b b1 b2 => ?_
        rw [heap_setCell_other _ _ _ _ (show b ≠ M by omega)]
        exact hg1.block b (by omega) (fun e => by have := (h.ov.lt _ e.symm).2; omega)
/-- One more key. -/
theorem Grw.key {key : ByteArray} (h : Grw w1 base M d u0 u1 u2 vI vK cI ks its T) (hf : Frm w1.heap.size l B w1 w2) (hl : l < M) (hB : B ≤ M)
    (h1 : w3.ownsRow base 9 1 (.slice (some ⟨g, 0, none⟩) (ks.length + 1) cap) (ks.length + 1) (ks.map Value.string ++ [.string key])) (h2 : (w2.alloc o).grownBy w3 vK.ownBlock)
    (h3 : vK.ownBlock = some g ∨ w2.heap.size + 1 ≤ g) :
    Grw (w3.setCell ⟨M, 4, none⟩ (.slice (some ⟨g, 0, none⟩) (ks.length + 1) cap)) base M d u0 u1 u2 vI (.slice (some ⟨g, 0, none⟩) (ks.length + 1) cap) cI (ks ++ [key]) its T := by
  have hG := h.frm hf hl hB
  have hlow := h.low
  have hhigh := h.high
  have hs1 := hf.size
  have hs2 := h2.size
  simp only [World.size_alloc] at hs2
  have hg1 : w2.grownBy w3 vK.ownBlock := (World.grownBy_alloc w2 o vK.ownBlock).trans h2
  have hM3 : w3.heap[M]? = some (.cells #[u0, u1, u2, vI, vK] T (0, 0)) := (hg1.block M (by omega) h.ne2).trans hG.box
  have hset : w3.grownBy (w3.setCell ⟨M, 4, none⟩ (.slice (some ⟨g, 0, none⟩) (ks.length + 1) cap)) (some M) := ⟨rfl, rfl, rfl, by simp [World.setCell], fun k _ hk => heap_setCell_other w3 ⟨M, 4, none⟩ k _ (by intro e; exact hk (by rw [e]))⟩
  have hlt := fun k e => World.ownsRow.lt h.os k e
  have hgM : g ≠ M := by rcases h3 with e | e
                         · have := (hlt _ e).1; omega
                         · omega
  refine ⟨heap_setCell_same _ _ 4 _ _ _ hM3, ?_, ?_, ?_, hlow, by rw [set_size]; omega⟩
  · have e3 := World.ownsRow.kept hG.ov hg1 (own_other (w' := w2) hG.ov hG.os (by decide))
    exact World.ownsRow.kept e3 hset (.inr (fun e => by have := (World.ownsRow.lt e3 _ e).1; omega))
  · exact World.ownsRow.kept (os_push rfl h1) hset (.inr (fun e => hgM (by injection e)))
  · intro q hq
    obtain ⟨a, b, e1, e2, e3, e4, e5⟩ := hG.el q hq
    refine ⟨a, b, e1, by rw [set_size]; omega, e3, fun k' hk' => ?_, ?_⟩
    · injection hk' with hk'
      have hk' : g = k' := hk'
      subst hk'
      rcases h3 with e | e
      · exact e4 _ e
      · exact .inr (by omega)
    · refine e5.kept fun k' k1 k2 => ?_
      rw [heap_setCell_other _ _ _ _ (show k' ≠ M by omega)]
      exact hg1.block k' (by omega) (fun e => by rcases e4 k' e.symm with h | h <;> omega)
/-- In the end the box reads. -/
theorem Grw.done (h : Grw w base M d u0 u1 u2 vI vK cI ks its T) (hi : its.length ≤ 1000000) (hk : ks.length ≤ 1000000) (hks : ∀ j, j < ks.length → (ks.getD j ByteArray.empty).size ≤ 140737488351232) :
    ∃ A c B' e, vI = .slice A its.length c ∧ vK = .slice B' ks.length e ∧ IS w base w.heap.size (VB w base w.heap.size d) A its.length c its ∧ KS w base w.heap.size B' ks.length e ks := by
  obtain ⟨A, c, e1, h1⟩ := ovf h.ov (by omega) rfl (Nat.le_refl _) rfl (fun q hq => by
    obtain ⟨a, b, e1, e2, _, _, e5⟩ := h.el q hq
    exact e5.weak e1 e2)
  obtain ⟨B', n, e, e2, h2⟩ := OS.form h.os (by omega) hks
  obtain rfl : n = ks.length := h2.len.symm
  exact ⟨A, c, B', e, e1, e2, h1, h2⟩
end
end Go.Proofs.YtkodmhopollnpaaGreat

namespace Go.Proofs.YtkodmhopollnpaaGreat
set_option linter.unusedVariables false
open Go.RowKit
open M (V)

set_option maxHeartbeats 400000 in
theorem bit_any {w : World} {lo g D b : Nat} {s : M.St} (h : Dec w lo g D s b) :
    Calls Tryz.prog 51 #[.pointer (some ⟨D, 0, none⟩)] w (NewN lo g D (M.bx s).2 b (.int .i64 (M.bx s).1) w) := by
  go_enter Tryz.func51, Tryz.ntmps51
  go_wp2_with fail
  refine (integer_any h).mono ?_
  rintro e w1 ⟨rfl, h1, hf⟩
  have HD := Lib.hid h1
  have HF := Lib.hid hf
  clear h h1 hf
  by_cases hb : s.num.1 = 0 ∨ s.num.1 = 1
  · have HT : Hid (M.bx s = (s.num.1, s.num.2)) := Lib.hid (by unfold M.bx; rw [if_pos hb])
    have hc : (s.num.1 == 0 || s.num.1 == 1) = true := by simpa using hb
    have HC := Lib.hid hc
    clear hb hc
    go_wp2_with fail
    refine (isBit_any _ _).mono ?_
    rintro e w2 ⟨rfl, rfl⟩
    rw [HC.out]
    go_wp2_with fail
    go_ret
    rw [HT.out]
    exact ⟨rfl, HD.out, HF.out⟩
  · have HT : Hid (M.bx s = (s.num.1, s.num.2.bad)) := Lib.hid (by unfold M.bx; rw [if_neg hb])
    have hc : (s.num.1 == 0 || s.num.1 == 1) = false := by simpa using hb
    have HC := Lib.hid hc
    clear hb hc
    go_wp2_with fail
    refine (isBit_any _ _).mono ?_
    rintro e w2 ⟨rfl, rfl⟩
    rw [HC.out]
    go_wp2_with fail
    refine (dfail_any HD.out).mono ?_
    rintro e w2 ⟨rfl, h2, h3⟩
    go_wp2_with fail
    go_ret
    rw [HT.out]
    exact ⟨rfl, h2, HF.out.step h3⟩

set_option maxHeartbeats 400000 in
theorem count_dec {w : World} {lo g D b : Nat} {s : M.St} (h : Dec w lo g D s b) :
    Calls Tryz.prog 81 #[.pointer (some ⟨D, 0, none⟩)] w (NewN lo g D (M.cx s).2 b (.int .i64 ((M.cx s).1 : Int)) w) := by
  have hi := M.int_in s
  go_enter Tryz.func81, Tryz.ntmps81
  go_wp2_with fail
  refine (integer_any h).mono ?_
  rintro e w1 ⟨rfl, h1, hf⟩
  have HD := Lib.hid h1
  have HF := Lib.hid hf
  clear h h1 hf
  rcases (show s.num.1 < 0 ∨ (0 ≤ s.num.1 ∧ 1000 < s.num.1) ∨ (0 ≤ s.num.1 ∧ s.num.1 ≤ 1000) by omega) with hb | ⟨hb0, hb⟩ | ⟨hb0, hb⟩
  · have HT : Hid (M.cx s = (0, s.num.2.bad)) := Lib.hid (by unfold M.cx; rw [if_pos (by omega)])
    go_wp2_with fail
    refine (dfail_any HD.out).mono ?_
    rintro e w2 ⟨rfl, h2, h3⟩
    go_wp2_with fail
    go_ret
    rw [HT.out]
    exact ⟨rfl, h2, HF.out.step h3⟩
  · have HT : Hid (M.cx s = (0, s.num.2.bad)) := Lib.hid (by unfold M.cx; rw [if_pos (by omega)])
    go_wp2_with fail
    refine (dfail_any HD.out).mono ?_
    rintro e w2 ⟨rfl, h2, h3⟩
    go_wp2_with fail
    go_ret
    rw [HT.out]
    exact ⟨rfl, h2, HF.out.step h3⟩
  · have HT : Hid (M.cx s = (s.num.1.toNat, s.num.2)) := Lib.hid (by unfold M.cx; rw [if_neg (by omega)])
    have HN : Hid (((s.num.1.toNat : Nat) : Int) = s.num.1) := Lib.hid (by omega)
    go_wp2_with fail
    go_ret
    rw [HT.out]
    exact ⟨ret_int HN.out.symm, HD.out, HF.out⟩

set_option maxHeartbeats 1000000 in
theorem key_any {w : World} {lo g D b n c klo khi : Nat} {A : Option Addr} {ks : List ByteArray} {s : M.St} (h : Dec w lo g D s b) (hs : s.l.length ≤ 100000000) (hK : KS w klo khi A n c ks) (hk1 : D < klo) (hk2 : khi ≤ w.heap.size) (hn : n ≤ 1000000) :
    Calls Tryz.prog 82 #[.pointer (some ⟨D, 0, none⟩), .slice A n c] w (NewN lo g D (M.kx s ks).2 b (.string (M.kx s ks).1) w) := by
  have hcap := hK.cap
  have HL := Lib.hid hK.len
  go_enter Tryz.func82, Tryz.ntmps82
  go_wp2_with fail
  refine (dtext_any h hs).mono ?_
  rintro e w1 ⟨rfl, h1, hf⟩
  have HK := Lib.hid (hK.kept (hf.kept (by have := h1.lt; omega) (Nat.succ_le_of_lt hk1) hk2))
  have HD := Lib.hid h1
  have HF := Lib.hid hf
  clear h h1 hf hK
  have e1 : (M.kx s ks).1 = (M.tx s).1 := by unfold M.kx; rfl
  have HE := Lib.hid e1
  clear e1
  by_cases hn0 : n = 0
  · subst hn0
    have HT : Hid ((M.kx s ks).2 = (M.tx s).2) := Lib.hid (by unfold M.kx M.after; rw [HL.out]; simp)
    go_wp2_with fail
    go_ret
    rw [HE.out, HT.out]
    exact ⟨rfl, HD.out, HF.out⟩
  · obtain ⟨B, off, rfl, _, _, hc⟩ := HK.out.at_ (by omega)
    have g1 := hc (n - 1) (by omega)
    have hw1 : IntKind.i64.wrap ((n : Int) - 1) = ((n - 1 : Nat) : Int) := by rw [IntWalk.i64_in _ (by omega)]; omega
    obtain ⟨K, hKl⟩ : ∃ K, K = ks.getD (n - 1) ByteArray.empty := ⟨_, rfl⟩
    rw [← hKl] at g1
    have HA : Hid (M.after ks (M.tx s).1 = Go.Op.bytesLess K.toList (M.tx s).1.toList) := Lib.hid (by unfold M.after; rw [HL.out, ← hKl]; simp [hn0])
    clear hc hKl
    cases hl : Go.Op.bytesLess K.toList (M.tx s).1.toList with
    | true =>
      have hq := M.less_flip hl
      rw [hl] at HA
      clear hl
      have HT : Hid ((M.kx s ks).2 = (M.tx s).2) := Lib.hid (by unfold M.kx; rw [if_pos HA.out])
      go_wp2_with fail
      go_ret
      rw [HE.out, HT.out]
      exact ⟨rfl, HD.out, HF.out⟩
    | false =>
      have hq := M.less_flip_no hl
      rw [hl] at HA
      clear hl
      have HT : Hid ((M.kx s ks).2 = (M.tx s).2.bad) := Lib.hid (by unfold M.kx; rw [if_neg (by rw [HA.out]; exact Bool.false_ne_true)])
      go_wp2_with fail
      refine (dfail_any HD.out).mono ?_
      rintro e w2 ⟨rfl, h2, h3⟩
      go_wp2_with fail
      go_ret
      rw [HE.out, HT.out]
      exact ⟨rfl, h2, HF.out.step h3⟩
end Go.Proofs.YtkodmhopollnpaaGreat

namespace Go.Proofs.YtkodmhopollnpaaGreat
set_option linter.unusedVariables false
open Go.RowKit
open M (V)

/-- What the decoder returns. -/
def NewD (d lo g D : Nat) (r : M.St × Nat × V) (w : World) (e : Ending) (w' : World) : Prop := ∃ v, e = .returned v ∧ VB w' w.heap.size w'.heap.size d v r.2.2 ∧ Dec w' lo g D r.1 r.2.1 ∧ Frm w.heap.size g (D + 1) w w'
def valAt (f : Nat) : Prop := ∀ (lo g D b : Nat) (s : M.St) (depth : Int) (w : World), depth = 17 - (f : Int) → Dec w lo g D s b → b ≤ 1000 → s.l.length ≤ 100000000 →
  Calls Tryz.prog 26 #[.pointer (some ⟨D, 0, none⟩), .int .i64 depth] w (NewD (f + 1) lo g D (M.dv f s b) w)
/-- A list with its state. -/
def lres (r : M.St × Nat × List V) : M.St × Nat × V := (r.1, r.2.1, .mk 4 0 ByteArray.empty r.2.2 [])
theorem list_end {w wr : World} {lo g D d b : Nat} {s : M.St} {its : List V} {A B : Option Addr} {n c e : Nat} {R : M.St × Nat × List V} (hsz : D < w.heap.size)
    (hI : IS wr (w.heap.size + 2) wr.heap.size (VB wr (w.heap.size + 2) wr.heap.size d) A n c its) (hK : KS wr (w.heap.size + 2) wr.heap.size B 0 e []) (hD : Dec wr lo g D s b) (hF : Frm w.heap.size g (D + 1) w wr) (hh : w.heap.size + 2 ≤ wr.heap.size) (hR : Hid (R = (s, b, its))) :
    NewD (d + 1) lo g D (lres R) w (.returned (.agg #[.int .i64 4, .int .i64 0, .string ByteArray.empty, .slice A n c, .slice B 0 e])) (stored wr w.heap.size (.int .i64 4) (.int .i64 0) (.string ByteArray.empty) (.slice A n c) (.slice B 0 e)) := by
  rw [hR.out]
  have hko : Kept (w.heap.size + 2) wr.heap.size wr (stored wr w.heap.size (.int .i64 4) (.int .i64 0) (.string ByteArray.empty) (.slice A n c) (.slice B 0 e)) := fun b x1 x2 => stored_other _ _ _ _ _ _ _ _ (by omega)
  have hs := stored_size wr w.heap.size (.int .i64 4) (.int .i64 0) (.string ByteArray.empty) (.slice A n c) (.slice B 0 e)
  refine ⟨_, rfl, ⟨A, n, c, B, 0, e, rfl, by simp [lres, V.k], by simp [lres, V.k], by simp [lres, V.n], by simp [lres, V.n], by simp [lres, V.s], ?_, ?_⟩, ?_, ?_⟩
  · exact (IS.kept hI hko (fun v t r => r.kept hko)).weak (by omega) (by rw [hs]; omega) (fun v t r => r.weak (by omega) (by rw [hs]; omega))
  · exact (hK.kept hko).weak (by omega) (by rw [hs]; omega)
  · exact hD.kept fun x h1 h2 => stored_other _ _ _ _ _ _ _ _ (by omega)
  · exact ((((hF.set (.inr (Nat.le_refl _)) _).set (.inr (Nat.le_refl _)) _).set (.inr (Nat.le_refl _)) _).set (.inr (Nat.le_refl _)) _).set (.inr (Nat.le_refl _)) _

set_option maxRecDepth 100000 in
set_option maxHeartbeats 4000000 in
theorem list_dec {f : Nat} (ih : valAt f) {lo g D b : Nat} {s : M.St} {depth : Int} {w : World} (hd : depth = 16 - (f : Int)) (hf : f ≤ 16) (h : Dec w lo g D s b) (hb : b ≤ 1000) (hs : s.l.length ≤ 100000000) :
    Calls Tryz.prog 53 #[.pointer (some ⟨D, 0, none⟩), .int .i64 depth] w (NewD (f + 2) lo g D (lres (M.dL (M.dv f) (M.cx s).1 (M.cx s).2 b [])) w) := by
  have IH := Lib.hid ih
  have hq : IntKind.i64.wrap (depth + 1) = depth + 1 := IntWalk.i64_in _ (by omega)
  have HDE := Lib.hid hd
  have hsz := h.size
  have hgD := h.lt
  have hcl := M.cx_len s
  have HCL := Lib.hid hcl
  have hb0 : Below (w.heap.size + 2) ((w.alloc (.cells #[.int .i64 0, .int .i64 0, .string ByteArray.empty, .slice none 0 0, .slice none 0 0] 31)).alloc (.cells #[.int .i64 4, .int .i64 0, .string ByteArray.empty, .slice none 0 0, .slice none 0 0] 31)) _ := Below.refl _ _
  have HH := Lib.hid h
  have hfr0 : Frm w.heap.size g (D + 1) w ((w.alloc (.cells #[.int .i64 0, .int .i64 0, .string ByteArray.empty, .slice none 0 0, .slice none 0 0] 31)).alloc (.cells #[.int .i64 4, .int .i64 0, .string ByteArray.empty, .slice none 0 0, .slice none 0 0] 31)) := Frm.of_below (two_below hb0)
  have hz0 := two_size hb0
  clear ih hd hcl h
  go_enter Tryz.func53, Tryz.ntmps53
  go_wp2_with fail
  refine (count_dec (HH.out.below (two_below hb0))).mono ?_
  rintro e w1 ⟨rfl, h1, hf1⟩
  have hfr1 : Frm w.heap.size g (D + 1) w w1 := hfr0.trans hf1 (by omega)
  have hz1 := hf1.size
  obtain ⟨q0, q1⟩ := two_heap hb0 (Nat.le_refl _)
  have hZ1 : Hid (w1.heap[w.heap.size]? = some (.cells #[.int .i64 0, .int .i64 0, .string ByteArray.empty, .slice none 0 0, .slice none 0 0] 31 (0, 0))) := Lib.hid ((hf1.block w.heap.size (by omega) (.inr ⟨by omega, by omega⟩)).trans q0)
  have hM1 : w1.heap[w.heap.size + 1]? = some (.cells #[.int .i64 4, .int .i64 0, .string ByteArray.empty, .slice none 0 0, .slice none 0 0] 31 (0, 0)) := (hf1.block (w.heap.size + 1) (by omega) (.inr ⟨by omega, by omega⟩)).trans q1
  have hG1 : Grw w1 (w.heap.size + 2) (w.heap.size + 1) (f + 1) (.int .i64 4) (.int .i64 0) (.string ByteArray.empty) (.slice none 0 0) (.slice none 0 0) [] [] [] 31 := Grw.start hM1 (by omega) (by omega)
  obtain ⟨R, hR0⟩ : ∃ R, R = M.dL (M.dv f) (M.cx s).1 (M.cx s).2 b [] := ⟨_, rfl⟩
  have HRF := Lib.hid hR0.symm
  obtain ⟨N, hN⟩ : ∃ N, N = (M.cx s).1 := ⟨_, rfl⟩
  obtain ⟨S0, hS0⟩ : ∃ S0, S0 = (M.cx s).2 := ⟨_, rfl⟩
  rw [← hN, ← hS0]
  rw [← hS0] at h1
  have hN2 : N ≤ 1000 := by have := HCL.out.2; omega
  have hSl : S0.l.length ≤ 100000000 := by have := HCL.out.1; rw [hS0]; omega
  rw [← hN, ← hS0] at hR0
  have HR := Lib.hid hR0.symm
  clear hN hS0 hR0 HCL HH hfr0 hf1 q0 q1 hM1 hb0
  go_wp2_with fail
  go_loopw [9] (fun y wr => ∃ (j : Nat) (vI vK : Value) (cI : List Value) (its : List V) (sj : M.St) (bj : Nat), y = .int .i64 j ∧ j ≤ N ∧ Hid (its.length = j) ∧ Hid (Grw wr (w.heap.size + 2) (w.heap.size + 1) (f + 1) (.int .i64 4) (.int .i64 0) (.string ByteArray.empty) vI vK cI [] its 31) ∧
      Hid (wr.heap[w.heap.size]? = some (.cells #[.int .i64 0, .int .i64 0, .string ByteArray.empty, .slice none 0 0, .slice none 0 0] 31 (0, 0))) ∧ Hid (Dec wr lo g D sj bj) ∧ bj ≤ 1000 ∧ sj.l.length ≤ 100000000 ∧ Hid (M.dL (M.dv f) (N - j) sj bj its = R) ∧ Hid (Frm w.heap.size g (D + 1) w wr)) (fun y _ => N - (intOf y).toNat)
  case atStart => exact ⟨0, _, _, [], [], S0, b, rfl, by omega, Lib.hid rfl, Lib.hid hG1, hZ1, Lib.hid h1, hb, hSl, HR, Lib.hid hfr1⟩
  case round =>
    clear hZ1 hG1 HR h1 hfr1 hz1 hSl hb
    obtain ⟨j, vI, vK, cI, its, sj, bj, rfl, hj, HL, HG, HZ, HD, hbj, hsj, HE, HF⟩ := hrel
    have hhi := HG.out.high
    by_cases hlt : j < N
    · obtain ⟨m0, m1, m2, m3, m4, -⟩ := lit5 HG.out.box
      have hhlt : wr.heap.size > w.heap.size + 1 := by omega
      obtain ⟨⟨s', b', t⟩, hr⟩ : ∃ r, r = M.dv f sj bj := ⟨_, rfl⟩
      have HS : Hid (s'.l.length ≤ 100000000 ∧ b' ≤ 1000) := Lib.hid (by
        have h1 := M.dv_small f sj bj
        rw [← hr] at h1
        exact ⟨Nat.le_trans h1.1 hsj, h1.2 hbj⟩)
      have hcall : Calls Tryz.prog 26 #[.pointer (some ⟨D, 0, none⟩), .int .i64 (depth + 1)] wr.drew (NewD (f + 1) lo g D (s', b', t) wr.drew) := by
        rw [hr]
        exact IH.out lo g D bj sj (depth + 1) wr.drew (by have := HDE.out; omega) (HD.out.kept fun _ _ _ => rfl) hbj hsj
      have HC := Lib.hid hcall
      have HRR := Lib.hid hr
      clear hcall hr
      go_wp2_with fail
      go_region_law (first
        | (refine step_push_val rfl (.tmp 12) (.tmp 17) rfl (w.heap.size + 2) its.length w2.heap.size vI cI t.k t.n t.s _ _ _ _ _ _ _ _ ?_ ?_ ?_ (Array.getElem?_push_size ..) ?_ ?_ ?_
           · simp [Act.eval]
           · exact (HG2.out.ov).alloc _
           · simp [Act.eval]
           · have := HL.out; omega
           · simp; omega
           intro g2 cap2 wn hn1 hn2 hn3 hn4
           obtain ⟨hn5, hn6⟩ := field_after (f := 3) HG2.out.box rfl (grown_alloc w2 _) hn2 HG2.out.ne1)
        | (go_simp; go_at_call 26
           refine HC.out.mono ?_
           rintro e w2 ⟨v', rfl, hv', hD2, hF2⟩
           obtain ⟨A3, n3, c3, B3, p3, e3, rfl⟩ := hv'.agg
           have hFw : Frm wr.heap.size g (D + 1) wr w2 := ⟨hF2.os, hF2.tape, hF2.output, hF2.size, hF2.blk⟩
           have HG2 := Lib.hid (HG.out.frm hFw (by omega) (by omega))
           have HF2 := Lib.hid hFw
           have hz2 := hFw.size
           have HV2 := Lib.hid hv'
           have HD2 := Lib.hid hD2
           have hms3 : w2.heap.size > w.heap.size + 1 := by omega
           obtain ⟨n0, n1, n2, n3', n4, -⟩ := lit5 HG2.out.box
           clear hv' hD2 hF2 hFw))
      all_goals (
        have hn3' : vI.ownBlock = some g2 ∨ w2.heap.size + 1 ≤ g2 := hn3.imp id (fun h => by simpa using h)
        obtain ⟨p1, p2, p3'⟩ := push_frame (l := g) (B := D + 1) (M := w.heap.size + 1) (base := w.heap.size + 2) (f := 3) (u := .slice (some ⟨g2, 0, none⟩) (its.length + 1) cap2) (by omega) (by omega) hn2 (fun k hk => (HG2.out.ov.lt _ hk).1)
        have HG4 := Lib.hid (HG.out.item HF2.out (by omega) (by omega) HV2.out hn1 hn2 hn3')
        have HD4 := Lib.hid (HD2.out.kept fun b h1 h2 => p1 b (by omega) (by omega))
        have HZ4 : Hid (_ = some (Obj.cells #[.int .i64 0, .int .i64 0, .string ByteArray.empty, .slice none 0 0, .slice none 0 0] 31 (0, 0))) := Lib.hid ((p1 w.heap.size (by omega) (by omega)).trans ((HF2.out.block w.heap.size (by omega) (.inr ⟨by omega, by omega⟩)).trans HZ.out))
        have HF4 := Lib.hid ((HF.out.trans HF2.out (by omega)).trans p2 (by omega))
        clear hn1 hn2 hn3 hn3' hn4 hn5 hn6 p1 p2 m0 m1 m2 m3 m4 n0 n1 n2 n3' n4 HG HD HZ HF HG2 HD2 HV2 HF2 HC hms3 hz2
        generalize (wn.setCell ⟨w.heap.size + 1, 3, none⟩ _) = wf at *
        obtain ⟨hs', hb'⟩ := HS.out
        by_cases he : s'.e = 0
        · have hbe : (s'.e != 0) = false := by simpa using he
          have HE' : Hid (M.dL (M.dv f) (N - (j + 1)) s' b' (its ++ [t]) = R) := Lib.hid (by
            have h1 := HE.out
            rw [show N - j = (N - (j + 1)) + 1 by omega, M.dL_live (by rw [← HRR.out]; exact he), ← HRR.out] at h1
            exact h1)
          have HBE := Lib.hid hbe
          clear he hbe HE HRR HS
          go_wp2_with fail
          refine (failed_any HD4.out).mono ?_
          rintro e wg ⟨rfl, rfl⟩
          rw [HBE.out]
          go_wp2_with fail
          exact ⟨⟨j + 1, _, _, _, its ++ [t], s', b', by go_num, by omega, Lib.hid (by rw [List.length_append, HL.out]; rfl), HG4, HZ4, HD4, hb', hs', HE', HF4⟩, by simp [intOf]; omega⟩
        · have hbe : (s'.e != 0) = true := by simpa using he
          have HE' : Hid (R = (s', b', its ++ [t])) := Lib.hid (by
            have h1 := HE.out
            rw [show N - j = (N - (j + 1)) + 1 by omega, M.dL_dead (by rw [← HRR.out]; exact he), ← HRR.out] at h1
            exact h1.symm)
          have HBE := Lib.hid hbe
          clear he hbe HE HRR HS
          have hlen : (its ++ [t]).length ≤ 1000 := by rw [List.length_append, HL.out]; simp; omega
          go_wp2_with fail
          refine (failed_any HD4.out).mono ?_
          rintro e wg ⟨rfl, rfl⟩
          rw [HBE.out]
          have hhi4 := HG4.out.high
          have hhlt4 : wf.heap.size > w.heap.size + 1 := by omega
          have HLEN := Lib.hid hlen
          clear hlen
          obtain ⟨A7, c7, B7, e7, ev1, rfl, his, hks⟩ := HG4.out.done (by have := HLEN.out; omega) (by simp) (fun j hj => absurd hj (by simp))
          have hl1 : (its ++ [t]).length = its.length + 1 := by simp
          rw [hl1] at ev1 his
          simp only [Value.slice.injEq] at ev1
          obtain ⟨rfl, -, rfl⟩ := ev1
          obtain ⟨m0, m1, m2, m3, m4, -⟩ := lit5 HG4.out.box
          obtain ⟨g0, g1, g2', g3, g4, e0, e1, e2, e3, e4⟩ := lit5 HZ4.out
          have HIS := Lib.hid his; have HKS := Lib.hid hks
          clear his hks HL hl1
          go_wp2_with fail
          have hfin := lit_stored HZ4.out (.int .i64 4) (.int .i64 0) (.string ByteArray.empty) (.slice (some ⟨g2, 0, none⟩) (its.length + 1) cap2) (.slice B7 0 e7)
          refine bodyPost_ret (v := .agg #[.int .i64 4, .int .i64 0, .string ByteArray.empty, .slice (some ⟨g2, 0, none⟩) (its.length + 1) cap2, .slice B7 0 e7]) (results_cell_row Tryz.results53 _ _ w.heap.size 31 _ (0, 0) _ rfl hfin Tryz.underlying31 rfl (by kernel_rfl)) rfl ?_
          exact list_end hsz HIS.out HKS.out HD4.out HF4.out HG4.out.high (Lib.hid (HRF.out.trans HE'.out))
          )
    · obtain rfl : j = N := by omega
      have HE' : Hid (R = (sj, bj, its)) := Lib.hid (by
        have h1 := HE.out
        rw [Nat.sub_self, M.dL_zero] at h1
        exact h1.symm)
      have hhlt : wr.heap.size > w.heap.size + 1 := by omega
      have HLEN : Hid (its.length ≤ 1000) := Lib.hid (by have := HL.out; omega)
      clear HE
      obtain ⟨A7, c7, B7, e7, rfl, rfl, his, hks⟩ := HG.out.done (by have := HLEN.out; omega) (by simp) (fun j hj => absurd hj (by simp))
      obtain ⟨m0, m1, m2, m3, m4, -⟩ := lit5 HG.out.box
      obtain ⟨g0, g1, g2', g3, g4, e0, e1, e2, e3, e4⟩ := lit5 HZ.out
      have HIS := Lib.hid his; have HKS := Lib.hid hks
      clear his hks HL
      go_wp2_with fail
      have hfin := lit_stored HZ.out (.int .i64 4) (.int .i64 0) (.string ByteArray.empty) (.slice A7 (its).length c7) (.slice B7 0 e7)
      refine bodyPost_ret (v := .agg #[.int .i64 4, .int .i64 0, .string ByteArray.empty, .slice A7 (its).length c7, .slice B7 0 e7]) (results_cell_row Tryz.results53 _ _ w.heap.size 31 _ (0, 0) _ rfl hfin Tryz.underlying31 rfl (by kernel_rfl)) rfl ?_
      exact list_end hsz HIS.out HKS.out HD.out HF.out HG.out.high (Lib.hid (HRF.out.trans HE'.out))
end Go.Proofs.YtkodmhopollnpaaGreat

namespace Go.Proofs.YtkodmhopollnpaaGreat
set_option linter.unusedVariables false
open Go.RowKit
open M (V)

/-- A map with its state. -/
def pres (r : M.St × Nat × List ByteArray × List V) : M.St × Nat × V := (r.1, r.2.1, .mk 5 0 ByteArray.empty r.2.2.2 r.2.2.1)
theorem pairs_end {w wr : World} {lo g D d b : Nat} {s : M.St} {its : List V} {ks : List ByteArray} {A B : Option Addr} {n p c e : Nat} {R : M.St × Nat × List ByteArray × List V} (hsz : D < w.heap.size)
    (hI : IS wr (w.heap.size + 2) wr.heap.size (VB wr (w.heap.size + 2) wr.heap.size d) A n c its) (hK : KS wr (w.heap.size + 2) wr.heap.size B p e ks) (hD : Dec wr lo g D s b) (hF : Frm w.heap.size g (D + 1) w wr) (hh : w.heap.size + 2 ≤ wr.heap.size) (hR : Hid (R = (s, b, ks, its))) :
    NewD (d + 1) lo g D (pres R) w (.returned (.agg #[.int .i64 5, .int .i64 0, .string ByteArray.empty, .slice A n c, .slice B p e])) (stored wr w.heap.size (.int .i64 5) (.int .i64 0) (.string ByteArray.empty) (.slice A n c) (.slice B p e)) := by
  rw [hR.out]
  have hko : Kept (w.heap.size + 2) wr.heap.size wr (stored wr w.heap.size (.int .i64 5) (.int .i64 0) (.string ByteArray.empty) (.slice A n c) (.slice B p e)) := fun b x1 x2 => stored_other _ _ _ _ _ _ _ _ (by omega)
  have hs := stored_size wr w.heap.size (.int .i64 5) (.int .i64 0) (.string ByteArray.empty) (.slice A n c) (.slice B p e)
  refine ⟨_, rfl, ⟨A, n, c, B, p, e, rfl, by simp [pres, V.k], by simp [pres, V.k], by simp [pres, V.n], by simp [pres, V.n], by simp [pres, V.s], ?_, ?_⟩, ?_, ?_⟩
  · exact (IS.kept hI hko (fun v t r => r.kept hko)).weak (by omega) (by rw [hs]; omega) (fun v t r => r.weak (by omega) (by rw [hs]; omega))
  · exact (hK.kept hko).weak (by omega) (by rw [hs]; omega)
  · exact hD.kept fun x h1 h2 => stored_other _ _ _ _ _ _ _ _ (by omega)
  · exact ((((hF.set (.inr (Nat.le_refl _)) _).set (.inr (Nat.le_refl _)) _).set (.inr (Nat.le_refl _)) _).set (.inr (Nat.le_refl _)) _).set (.inr (Nat.le_refl _)) _

set_option maxRecDepth 100000 in
set_option maxHeartbeats 8000000 in
theorem pairs_dec {f : Nat} (ih : valAt f) {lo g D b : Nat} {s : M.St} {depth : Int} {w : World} (hd : depth = 16 - (f : Int)) (hf : f ≤ 16) (h : Dec w lo g D s b) (hb : b ≤ 1000) (hs : s.l.length ≤ 100000000) :
    Calls Tryz.prog 54 #[.pointer (some ⟨D, 0, none⟩), .int .i64 depth] w (NewD (f + 2) lo g D (pres (M.dP (M.dv f) (M.cx s).1 (M.cx s).2 b [] [])) w) := by
  have IH := Lib.hid ih
  have hq : IntKind.i64.wrap (depth + 1) = depth + 1 := IntWalk.i64_in _ (by omega)
  have HDE := Lib.hid hd
  have hsz := h.size
  have hgD := h.lt
  have hcl := M.cx_len s
  have HCL := Lib.hid hcl
  have hb0 : Below (w.heap.size + 2) ((w.alloc (.cells #[.int .i64 0, .int .i64 0, .string ByteArray.empty, .slice none 0 0, .slice none 0 0] 31)).alloc (.cells #[.int .i64 5, .int .i64 0, .string ByteArray.empty, .slice none 0 0, .slice none 0 0] 31)) _ := Below.refl _ _
  have HH := Lib.hid h
  have hfr0 : Frm w.heap.size g (D + 1) w ((w.alloc (.cells #[.int .i64 0, .int .i64 0, .string ByteArray.empty, .slice none 0 0, .slice none 0 0] 31)).alloc (.cells #[.int .i64 5, .int .i64 0, .string ByteArray.empty, .slice none 0 0, .slice none 0 0] 31)) := Frm.of_below (two_below hb0)
  have hz0 := two_size hb0
  clear ih hd hcl h
  go_enter Tryz.func54, Tryz.ntmps54
  go_wp2_with fail
  refine (count_dec (HH.out.below (two_below hb0))).mono ?_
  rintro e w1 ⟨rfl, h1, hf1⟩
  have hfr1 : Frm w.heap.size g (D + 1) w w1 := hfr0.trans hf1 (by omega)
  have hz1 := hf1.size
  obtain ⟨q0, q1⟩ := two_heap hb0 (Nat.le_refl _)
  have hZ1 : Hid (w1.heap[w.heap.size]? = some (.cells #[.int .i64 0, .int .i64 0, .string ByteArray.empty, .slice none 0 0, .slice none 0 0] 31 (0, 0))) := Lib.hid ((hf1.block w.heap.size (by omega) (.inr ⟨by omega, by omega⟩)).trans q0)
  have hM1 : w1.heap[w.heap.size + 1]? = some (.cells #[.int .i64 5, .int .i64 0, .string ByteArray.empty, .slice none 0 0, .slice none 0 0] 31 (0, 0)) := (hf1.block (w.heap.size + 1) (by omega) (.inr ⟨by omega, by omega⟩)).trans q1
  have hG1 : Grw w1 (w.heap.size + 2) (w.heap.size + 1) (f + 1) (.int .i64 5) (.int .i64 0) (.string ByteArray.empty) (.slice none 0 0) (.slice none 0 0) [] [] [] 31 := Grw.start hM1 (by omega) (by omega)
  obtain ⟨R, hR0⟩ : ∃ R, R = M.dP (M.dv f) (M.cx s).1 (M.cx s).2 b [] [] := ⟨_, rfl⟩
  have HRF := Lib.hid hR0.symm
  obtain ⟨N, hN⟩ : ∃ N, N = (M.cx s).1 := ⟨_, rfl⟩
  obtain ⟨S0, hS0⟩ : ∃ S0, S0 = (M.cx s).2 := ⟨_, rfl⟩
  rw [← hN, ← hS0]
  rw [← hS0] at h1
  have hN2 : N ≤ 1000 := by have := HCL.out.2; omega
  have hSl : S0.l.length ≤ 100000000 := by have := HCL.out.1; rw [hS0]; omega
  rw [← hN, ← hS0] at hR0
  have HR := Lib.hid hR0.symm
  clear hN hS0 hR0 HCL HH hfr0 hf1 q0 q1 hM1 hb0
  go_wp2_with fail
  go_loopw [9] (fun y wr => ∃ (j : Nat) (vI vK : Value) (cI : List Value) (ks : List ByteArray) (its : List V) (sj : M.St) (bj : Nat), y = .int .i64 j ∧ j ≤ N ∧ Hid (its.length = j) ∧ Hid (ks.length = j) ∧ Hid (∀ q, q < ks.length → (ks.getD q ByteArray.empty).size ≤ 140737488351232) ∧ Hid (Grw wr (w.heap.size + 2) (w.heap.size + 1) (f + 1) (.int .i64 5) (.int .i64 0) (.string ByteArray.empty) vI vK cI ks its 31) ∧
      Hid (wr.heap[w.heap.size]? = some (.cells #[.int .i64 0, .int .i64 0, .string ByteArray.empty, .slice none 0 0, .slice none 0 0] 31 (0, 0))) ∧ Hid (Dec wr lo g D sj bj) ∧ bj ≤ 1000 ∧ sj.l.length ≤ 100000000 ∧ Hid (M.dP (M.dv f) (N - j) sj bj ks its = R) ∧ Hid (Frm w.heap.size g (D + 1) w wr)) (fun y _ => N - (intOf y).toNat)
  case atStart => exact ⟨0, _, _, [], [], [], S0, b, rfl, by omega, Lib.hid rfl, Lib.hid rfl, Lib.hid (fun q hq => absurd hq (Nat.not_lt_zero _)), Lib.hid hG1, hZ1, Lib.hid h1, hb, hSl, HR, Lib.hid hfr1⟩
  case round =>
    clear hZ1 hG1 HR h1 hfr1 hz1 hSl hb
    obtain ⟨j, vI, vK, cI, ks, its, sj, bj, rfl, hj, HL, HLK, HSK, HG, HZ, HD, hbj, hsj, HE, HF⟩ := hrel
    have hhi := HG.out.high
    by_cases hlt : j < N
    · obtain ⟨B0, n0', e0', rfl, hks0⟩ := OS.form HG.out.os (by have := HLK.out; omega) HSK.out
      obtain ⟨m0, m1, m2, m3, m4, -⟩ := lit5 HG.out.box
      have hhlt : wr.heap.size > w.heap.size + 1 := by omega
      obtain ⟨⟨key, s1⟩, hkx⟩ : ∃ r, r = M.kx sj ks := ⟨_, rfl⟩
      have hkl := M.kx_len sj ks
      rw [← hkx] at hkl
      have HKL : Hid (s1.l.length ≤ 100000000 ∧ key.size ≤ 140737488351232) := Lib.hid ⟨Nat.le_trans hkl.1 hsj, by have h : key.size ≤ sj.l.length := hkl.2; omega⟩
      obtain ⟨⟨s', b', t⟩, hr⟩ : ∃ r, r = M.dv f s1 bj := ⟨_, rfl⟩
      have HS : Hid (s'.l.length ≤ 100000000 ∧ b' ≤ 1000) := Lib.hid (by
        have h1 := M.dv_small f s1 bj
        rw [← hr] at h1
        exact ⟨Nat.le_trans h1.1 HKL.out.1, h1.2 hbj⟩)
      have hkcall : Calls Tryz.prog 82 #[.pointer (some ⟨D, 0, none⟩), .slice B0 n0' e0'] wr.drew (NewN lo g D s1 bj (.string key) wr.drew) := by
        have h1 := key_any (HD.out.kept (w' := wr.drew) fun _ _ _ => rfl) hsj (hks0.kept (w' := wr.drew) fun _ _ _ => rfl) (by omega) (Nat.le_refl _) (by have := HLK.out; have := hks0.len; omega)
        rw [← hkx] at h1
        exact h1
      have hcall : ∀ W, Dec W lo g D s1 bj → Calls Tryz.prog 26 #[.pointer (some ⟨D, 0, none⟩), .int .i64 (depth + 1)] W (NewD (f + 1) lo g D (s', b', t) W) := fun W hW => by
        rw [hr]
        exact IH.out lo g D bj s1 (depth + 1) W (by have := HDE.out; omega) hW hbj HKL.out.1
      have HKC := Lib.hid hkcall
      have HC := Lib.hid hcall
      have HRR : Hid ((s', b', t) = M.dv f s1 bj ∧ (key, s1) = M.kx sj ks) := Lib.hid ⟨hr, hkx⟩
      have hn0 : n0' = ks.length := hks0.len.symm
      clear hcall hkcall hr hkx hkl
      subst hn0
      clear hks0
      go_wp2_with fail
      go_region_law (first
        | (refine step_push_key rfl (.tmp 12) (.tmp 17) rfl (w.heap.size + 2) ks.length w2.heap.size (.slice B0 ks.length e0') (ks.map Value.string) key _ _ ?_ ?_ ?_ (Array.getElem?_push_size ..) ?_ ?_ ?_
           · simp [Act.eval]
           · exact World.ownsRow.alloc (show w2.ownsRow _ _ _ _ _ _ from HG2.out.os) _
           · simp [Act.eval]
           · have := HLK.out; omega
           · simp; omega
           intro g2 cap2 wn hn1 hn2 hn3 hn4
           obtain ⟨hn5, hn6⟩ := field_after (f := 4) HG2.out.box rfl (grown_alloc w2 _) hn2 HG2.out.ne2)
        | (go_simp; go_at_call 82
           refine HKC.out.mono ?_
           rintro e w2 ⟨rfl, hD2, hF2⟩
           have hFw : Frm wr.heap.size g (D + 1) wr w2 := ⟨hF2.os, hF2.tape, hF2.output, hF2.size, hF2.blk⟩
           have HG2 := Lib.hid (HG.out.frm hFw (by omega) (by omega))
           have HF2 := Lib.hid hFw
           have hz2 := hFw.size
           have HD2 := Lib.hid hD2
           have hms3 : w2.heap.size > w.heap.size + 1 := by omega
           obtain ⟨n0, n1, n2, n3', n4, -⟩ := lit5 HG2.out.box
           clear hD2 hF2 hFw))
      all_goals (
        have hn3' : (Value.slice B0 ks.length e0').ownBlock = some g2 ∨ w2.heap.size + 1 ≤ g2 := hn3.imp id (fun h => by simpa using h)
        obtain ⟨p1, p2, p3'⟩ := push_frame (l := g) (B := D + 1) (M := w.heap.size + 1) (base := w.heap.size + 2) (f := 4) (u := .slice (some ⟨g2, 0, none⟩) (ks.length + 1) cap2) (by omega) (by omega) hn2 (fun k hk => (World.ownsRow.lt HG2.out.os _ hk).1)
        have HG4 := Lib.hid (HG.out.key HF2.out (by omega) (by omega) hn1 hn2 hn3')
        have HD4 := Lib.hid (HD2.out.kept fun b h1 h2 => p1 b (by omega) (by omega))
        have HZ4 : Hid (_ = some (Obj.cells #[.int .i64 0, .int .i64 0, .string ByteArray.empty, .slice none 0 0, .slice none 0 0] 31 (0, 0))) := Lib.hid ((p1 w.heap.size (by omega) (by omega)).trans ((HF2.out.block w.heap.size (by omega) (.inr ⟨by omega, by omega⟩)).trans HZ.out))
        have HF4 := Lib.hid ((HF.out.trans HF2.out (by omega)).trans p2 (by omega))
        clear hn1 hn2 hn3 hn3' hn4 hn5 hn6 p1 p2 m0 m1 m2 m3 m4 n0 n1 n2 n3' n4 HG HD HZ HF HG2 HD2 HF2 HKC hms3 hz2
        generalize (wn.setCell ⟨w.heap.size + 1, 4, none⟩ _) = wm at *
        obtain ⟨m0, m1, m2, m3, m4, -⟩ := lit5 HG4.out.box
        have hhi4 := HG4.out.high
        have hhlt4 : wm.heap.size > w.heap.size + 1 := by omega
        have hHC : Hid _ := Lib.hid (HC.out wm.drew (HD4.out.kept fun _ _ _ => rfl))
        go_wp2_with fail
        go_region_law (first
          | (refine step_push_val rfl (.tmp 21) (.tmp 26) rfl (w.heap.size + 2) its.length w5.heap.size vI cI t.k t.n t.s _ _ _ _ _ _ _ _ ?_ ?_ ?_ (Array.getElem?_push_size ..) ?_ ?_ ?_
             · simp [Act.eval]
             · exact (HG5.out.ov).alloc _
             · simp [Act.eval]
             · have := HL.out; omega
             · simp; omega
             intro g5 cap5 wo ho1 ho2 ho3 ho4
             obtain ⟨ho5, ho6⟩ := field_after (f := 3) HG5.out.box rfl (grown_alloc w5 _) ho2 HG5.out.ne1)
          | (go_simp; go_at_call 26
             refine hHC.out.mono ?_
             rintro e w5 ⟨v', rfl, hv', hD5, hF5⟩
             obtain ⟨A3, n3, c3, B3, p3, e3, rfl⟩ := hv'.agg
             have hFw : Frm wm.heap.size g (D + 1) wm w5 := ⟨hF5.os, hF5.tape, hF5.output, hF5.size, hF5.blk⟩
             have HG5 := Lib.hid (HG4.out.frm hFw (by omega) (by omega))
             have HF5 := Lib.hid hFw
             have hz5 := hFw.size
             have HV5 := Lib.hid hv'
             have HD5 := Lib.hid hD5
             have hms5 : w5.heap.size > w.heap.size + 1 := by omega
             obtain ⟨n0, n1, n2, n3', n4, -⟩ := lit5 HG5.out.box
             clear hv' hD5 hF5 hFw)))
      all_goals (
        have ho3' : vI.ownBlock = some g5 ∨ w5.heap.size + 1 ≤ g5 := ho3.imp id (fun h => by simpa using h)
        obtain ⟨p1, p2, p3'⟩ := push_frame (l := g) (B := D + 1) (M := w.heap.size + 1) (base := w.heap.size + 2) (f := 3) (u := .slice (some ⟨g5, 0, none⟩) (its.length + 1) cap5) (by omega) (by omega) ho2 (fun k hk => (HG5.out.ov.lt _ hk).1)
        have HG6 := Lib.hid (HG4.out.item HF5.out (by omega) (by omega) HV5.out ho1 ho2 ho3')
        have HD6 := Lib.hid (HD5.out.kept fun b h1 h2 => p1 b (by omega) (by omega))
        have HZ6 : Hid (_ = some (Obj.cells #[.int .i64 0, .int .i64 0, .string ByteArray.empty, .slice none 0 0, .slice none 0 0] 31 (0, 0))) := Lib.hid ((p1 w.heap.size (by omega) (by omega)).trans ((HF5.out.block w.heap.size (by omega) (.inr ⟨by omega, by omega⟩)).trans HZ4.out))
        have HF6 := Lib.hid ((HF4.out.trans HF5.out (by omega)).trans p2 (by omega))
        clear ho1 ho2 ho3 ho3' ho4 ho5 ho6 p1 p2 m0 m1 m2 m3 m4 n0 n1 n2 n3' n4 HG4 HD4 HZ4 HF4 HG5 HD5 HV5 HF5 hHC HC hms5 hz5
        generalize (wo.setCell ⟨w.heap.size + 1, 3, none⟩ _) = wf at *
        obtain ⟨hs', hb'⟩ := HS.out
        have HSK' : Hid (∀ q, q < (ks ++ [key]).length → ((ks ++ [key]).getD q ByteArray.empty).size ≤ 140737488351232) := Lib.hid (fun q hq => by
          rcases Nat.lt_or_ge q ks.length with h | h
          · rw [show (ks ++ [key]).getD q ByteArray.empty = ks.getD q ByteArray.empty by simp [List.getD, List.getElem?_append_left h]]; exact HSK.out q h
          · obtain rfl : q = ks.length := by simp at hq; omega
            rw [show (ks ++ [key]).getD ks.length ByteArray.empty = key by simp [List.getD]]; exact HKL.out.2)
        by_cases he : s'.e = 0
        · have hbe : (s'.e != 0) = false := by simpa using he
          have HE' : Hid (M.dP (M.dv f) (N - (j + 1)) s' b' (ks ++ [key]) (its ++ [t]) = R) := Lib.hid (by
            have h1 := HE.out
            obtain ⟨r1, r2⟩ := HRR.out
            rw [show N - j = (N - (j + 1)) + 1 by omega, M.dP_live (by rw [← r2]; show (M.dv f s1 bj).1.e = 0; rw [← r1]; exact he), ← r2] at h1
            change M.dP (M.dv f) _ (M.dv f s1 bj).1 (M.dv f s1 bj).2.1 _ (its ++ [(M.dv f s1 bj).2.2]) = R at h1
            rw [← r1] at h1
            exact h1)
          have HBE := Lib.hid hbe
          clear he hbe HE HRR HS
          go_wp2_with fail
          refine (failed_any HD6.out).mono ?_
          rintro e wg ⟨rfl, rfl⟩
          rw [HBE.out]
          go_wp2_with fail
          exact ⟨⟨j + 1, _, _, _, ks ++ [key], its ++ [t], s', b', by go_num, by omega, Lib.hid (by rw [List.length_append, HL.out]; rfl), Lib.hid (by rw [List.length_append, HLK.out]; rfl), HSK', HG6, HZ6, HD6, hb', hs', HE', HF6⟩, by simp [intOf]; omega⟩
        · have hbe : (s'.e != 0) = true := by simpa using he
          have HE' : Hid (R = (s', b', ks ++ [key], its ++ [t])) := Lib.hid (by
            have h1 := HE.out
            obtain ⟨r1, r2⟩ := HRR.out
            rw [show N - j = (N - (j + 1)) + 1 by omega, M.dP_dead (by rw [← r2]; show ¬ (M.dv f s1 bj).1.e = 0; rw [← r1]; exact he), ← r2] at h1
            change ((M.dv f s1 bj).1, (M.dv f s1 bj).2.1, _, its ++ [(M.dv f s1 bj).2.2]) = R at h1
            rw [← r1] at h1
            exact h1.symm)
          have HBE := Lib.hid hbe
          have HLEN : Hid (its.length + 1 ≤ 1000 ∧ ks.length + 1 ≤ 1000) := Lib.hid (by have h1 := HL.out; have h2 := HLK.out; omega)
          clear he hbe HE HRR HS
          go_wp2_with fail
          refine (failed_any HD6.out).mono ?_
          rintro e wg ⟨rfl, rfl⟩
          rw [HBE.out]
          have hhi6 := HG6.out.high
          have hhlt6 : wf.heap.size > w.heap.size + 1 := by omega
          obtain ⟨A7, c7, B7, e7, ev1, ev2, his, hks⟩ := HG6.out.done (by have := HLEN.out; have h2 : (its ++ [t]).length = its.length + 1 := (by simp); omega) (by have := HLEN.out; have h2 : (ks ++ [key]).length = ks.length + 1 := (by simp); omega) HSK'.out
          have hl1 : (its ++ [t]).length = its.length + 1 := by simp
          have hl2 : (ks ++ [key]).length = ks.length + 1 := by simp
          rw [hl1] at ev1 his
          rw [hl2] at ev2 hks
          simp only [Value.slice.injEq] at ev1 ev2
          obtain ⟨rfl, -, rfl⟩ := ev1
          obtain ⟨rfl, -, rfl⟩ := ev2
          obtain ⟨m0, m1, m2, m3, m4, -⟩ := lit5 HG6.out.box
          obtain ⟨g0, g1, g2', g3, g4, e0, e1, e2, e3, e4⟩ := lit5 HZ6.out
          have HIS := Lib.hid his; have HKS := Lib.hid hks
          clear his hks HL HLK hl1 hl2
          go_wp2_with fail
          have hfin := lit_stored HZ6.out (.int .i64 5) (.int .i64 0) (.string ByteArray.empty) (.slice (some ⟨g5, 0, none⟩) (its.length + 1) cap5) (.slice (some ⟨g2, 0, none⟩) (ks.length + 1) cap2)
          refine bodyPost_ret (v := .agg #[.int .i64 5, .int .i64 0, .string ByteArray.empty, .slice (some ⟨g5, 0, none⟩) (its.length + 1) cap5, .slice (some ⟨g2, 0, none⟩) (ks.length + 1) cap2]) (results_cell_row Tryz.results54 _ _ w.heap.size 31 _ (0, 0) _ rfl hfin Tryz.underlying31 rfl (by kernel_rfl)) rfl ?_
          exact pairs_end hsz HIS.out HKS.out HD6.out HF6.out HG6.out.high (Lib.hid (HRF.out.trans HE'.out))
          )
    · obtain rfl : j = N := by omega
      have HE' : Hid (R = (sj, bj, ks, its)) := Lib.hid (by
        have h1 := HE.out
        rw [Nat.sub_self, M.dP_zero] at h1
        exact h1.symm)
      have hhlt : wr.heap.size > w.heap.size + 1 := by omega
      have HLEN : Hid (its.length ≤ 1000 ∧ ks.length ≤ 1000) := Lib.hid (by have h1 := HL.out; have h2 := HLK.out; omega)
      clear HE
      obtain ⟨A7, c7, B7, e7, rfl, rfl, his, hks⟩ := HG.out.done (by have := HLEN.out; omega) (by have := HLEN.out; omega) HSK.out
      obtain ⟨m0, m1, m2, m3, m4, -⟩ := lit5 HG.out.box
      obtain ⟨g0, g1, g2', g3, g4, e0, e1, e2, e3, e4⟩ := lit5 HZ.out
      have HIS := Lib.hid his; have HKS := Lib.hid hks
      clear his hks HL HLK
      go_wp2_with fail
      have hfin := lit_stored HZ.out (.int .i64 5) (.int .i64 0) (.string ByteArray.empty) (.slice A7 its.length c7) (.slice B7 ks.length e7)
      refine bodyPost_ret (v := .agg #[.int .i64 5, .int .i64 0, .string ByteArray.empty, .slice A7 its.length c7, .slice B7 ks.length e7]) (results_cell_row Tryz.results54 _ _ w.heap.size 31 _ (0, 0) _ rfl hfin Tryz.underlying31 rfl (by kernel_rfl)) rfl ?_
      exact pairs_end hsz HIS.out HKS.out HD.out HF.out HG.out.high (Lib.hid (HRF.out.trans HE'.out))
end Go.Proofs.YtkodmhopollnpaaGreat

namespace Go.Proofs.YtkodmhopollnpaaGreat
set_option linter.unusedVariables false
open Go.RowKit
open M (V)

/-- While a value is read: the decoder, the frame, the box of the result. -/
structure VS (w : World) (lo g D : Nat) (s : M.St) (b : Nat) (wr : World) : Prop where
  dec : Dec wr lo g D s b
  frm : Frm w.heap.size g (D + 1) w wr
  box : wr.heap[w.heap.size]? = some (.cells #[.int .i64 0, .int .i64 0, .string ByteArray.empty, .slice none 0 0, .slice none 0 0] 31 (0, 0))
  dlt : D < w.heap.size
section
variable {w wr wr' : World} {lo g D b b' : Nat} {s s' : M.St}
theorem VS.start (h : Dec w lo g D s b) : VS w lo g D s b (w.alloc (.cells #[.int .i64 0, .int .i64 0, .string ByteArray.empty, .slice none 0 0, .slice none 0 0] 31)) :=
  ⟨h.below ((Below.refl _ _).alloc (Nat.le_refl _) _), Frm.of_below ((Below.refl _ _).alloc (Nat.le_refl _) _), heap_alloc_new w _, h.size⟩
theorem VS.lt (h : VS w lo g D s b wr) : w.heap.size < wr.heap.size := row_lt h.box
theorem VS.callN (h : VS w lo g D s b wr) (hd : Dec wr' lo g D s' b') (hf : Frm wr.heap.size g (D + 1) wr wr') : VS w lo g D s' b' wr' :=
  ⟨hd, h.frm.trans hf (Nat.le_of_lt h.lt), (hf.block _ h.lt (.inr ⟨by have := h.dec.lt; have := h.dlt; omega, h.dlt⟩)).trans h.box, h.dlt⟩
theorem VS.callB (h : VS w lo g D s b wr) (hb : Below wr.heap.size wr wr') : VS w lo g D s b wr' := h.callN (h.dec.below hb) (Frm.of_below hb)
theorem VS.set (h : VS w lo g D s b wr) (n : Nat) : VS w lo g D s n (wr.setCell ⟨D, 1, none⟩ (.int .i64 (n : Int))) := by
  have h1 := h.dlt
  have h2 := h.dec.lt
  have h3 := h.dec.low
  refine ⟨⟨h.dec.rd.kept fun x x1 x2 => heap_setCell_other _ _ _ _ (by show x ≠ D; omega), heap_setCell_same _ _ 1 _ _ _ h.dec.blk, h2, h3⟩, h.frm.set (.inl (.inr rfl)) _, ?_, h1⟩
  rw [heap_setCell_other _ _ _ _ (by show w.heap.size ≠ D; omega)]
  exact h.box
theorem VS.begin (h : Dec w lo g D s b) : VS w lo g D s (b + 1) ((w.setCell ⟨D, 1, none⟩ (.int .i64 ((b : Int) + 1))).alloc (.cells #[.int .i64 0, .int .i64 0, .string ByteArray.empty, .slice none 0 0, .slice none 0 0] 31)) := by
  have h0 := h.size
  have h2 := h.lt
  have h3 := h.low
  have hd : Dec (w.setCell ⟨D, 1, none⟩ (.int .i64 ((b : Int) + 1))) lo g D s (b + 1) := ⟨h.rd.kept fun x x1 x2 => heap_setCell_other _ _ _ _ (by show x ≠ D; omega), heap_setCell_same _ _ 1 _ _ _ h.blk, h2, h3⟩
  have hf : Frm w.heap.size g (D + 1) w (w.setCell ⟨D, 1, none⟩ (.int .i64 ((b : Int) + 1))) := (Frm.refl w.heap.size g (D + 1) w).set (p := ⟨D, 1, none⟩) (.inl (.inr rfl)) _
  have hb : Below (w.setCell ⟨D, 1, none⟩ (.int .i64 ((b : Int) + 1))).heap.size (w.setCell ⟨D, 1, none⟩ (.int .i64 ((b : Int) + 1))) ((w.setCell ⟨D, 1, none⟩ (.int .i64 ((b : Int) + 1))).alloc (.cells #[.int .i64 0, .int .i64 0, .string ByteArray.empty, .slice none 0 0, .slice none 0 0] 31)) := (Below.refl _ _).alloc (Nat.le_refl _) _
  refine ⟨hd.below hb, hf.trans (Frm.of_below hb) (by rw [set_size]; omega), ?_, h0⟩
  have := heap_alloc_new (w.setCell ⟨D, 1, none⟩ (.int .i64 ((b : Int) + 1))) (.cells #[.int .i64 0, .int .i64 0, .string ByteArray.empty, .slice none 0 0, .slice none 0 0] 31)
  rwa [set_size] at this
theorem val_end {d : Nat} {k n : Int} {t : ByteArray} {A B : Option Addr} {m c p e : Nat} {T : V} {R : M.St × Nat × V} (h : VS w lo g D s b wr) (hV : VB wr (w.heap.size + 1) wr.heap.size d (.agg #[.int .i64 k, .int .i64 n, .string t, .slice A m c, .slice B p e]) T)
    (hR : Hid (R = (s, b, T))) :
    NewD d lo g D R w (.returned (.agg #[.int .i64 k, .int .i64 n, .string t, .slice A m c, .slice B p e])) (stored wr w.heap.size (.int .i64 k) (.int .i64 n) (.string t) (.slice A m c) (.slice B p e)) := by
  rw [hR.out]
  have hsz := h.dlt
  have hs := stored_size wr w.heap.size (.int .i64 k) (.int .i64 n) (.string t) (.slice A m c) (.slice B p e)
  have hF := h.frm
  refine ⟨_, rfl, ?_, h.dec.kept fun x h1 h2 => stored_other _ _ _ _ _ _ _ _ (by omega), ((((hF.set (.inr (Nat.le_refl _)) _).set (.inr (Nat.le_refl _)) _).set (.inr (Nat.le_refl _)) _).set (.inr (Nat.le_refl _)) _).set (.inr (Nat.le_refl _)) _⟩
  exact (hV.kept fun x h1 h2 => stored_other _ _ _ _ _ _ _ _ (by omega)).weak (by omega) (by rw [hs]; omega)
end

theorem vbool_true (w : World) : Calls Tryz.prog 50 #[.bool true] w fun e w' => e = .returned (.agg #[.int .i64 1, .int .i64 1, .string ByteArray.empty, .slice none 0 0, .slice none 0 0]) ∧ Below w.heap.size w w' := vBool_any true w
theorem vbool_false (w : World) : Calls Tryz.prog 50 #[.bool false] w fun e w' => e = .returned (.agg #[.int .i64 1, .int .i64 0, .string ByteArray.empty, .slice none 0 0, .slice none 0 0]) ∧ Below w.heap.size w w' := vBool_any false w
theorem int_of_num (s : M.St) : -9223372036854775808 ≤ s.num.1 ∧ s.num.1 ≤ 9223372036854775807 := M.int_in s

set_option maxRecDepth 100000 in
set_option maxHeartbeats 4000000 in
theorem val_zero : valAt 0 := by
  intro lo g D b s depth w hd h hb hs
  obtain rfl : depth = 17 := by omega
  have HS := Lib.hid (VS.start h)
  obtain ⟨c0, c1, c2⟩ := h.cells
  have hdl := h.size
  clear h hd
  by_cases hb1 : b = 1000
  · subst hb1
    go_enter Tryz.func26, Tryz.ntmps26
    go_wp2_with fail
    refine (dfail_any HS.out.dec).mono ?_
    rintro e wf ⟨rfl, hdf, hff⟩
    have HSF := Lib.hid (HS.out.callN hdf hff)
    clear hdf hff
    go_wp2_with fail
    refine (null_any _).mono ?_
    rintro e wn ⟨rfl, hbn⟩
    have HSN := Lib.hid (HSF.out.callB hbn)
    clear hbn
    obtain ⟨m0, m1, m2, m3, m4, f0, f1, f2, f3, f4⟩ := lit5 HSN.out.box
    have hlt9 := HSN.out.lt
    go_wp2_with fail
    have hfin := lit_stored HSN.out.box (.int .i64 0) (.int .i64 0) (.string ByteArray.empty) (.slice none 0 0) (.slice none 0 0)
    refine bodyPost_ret (v := .agg #[.int .i64 0, .int .i64 0, .string ByteArray.empty, .slice none 0 0, .slice none 0 0]) (results_cell_row Tryz.results26 _ _ w.heap.size 31 _ (0, 0) _ rfl hfin Tryz.underlying31 rfl (by kernel_rfl)) rfl ?_
    exact val_end HSN.out (VB.null _ _ _ _) (Lib.hid (M.dv_zero))
  · have hbb : ((b : Int) == 1000) = false := by rw [beq_eq_false_iff_ne]; omega
    go_enter Tryz.func26, Tryz.ntmps26
    go_wp2_with fail
    refine (dfail_any HS.out.dec).mono ?_
    rintro e wf ⟨rfl, hdf, hff⟩
    have HSF := Lib.hid (HS.out.callN hdf hff)
    clear hdf hff
    go_wp2_with fail
    refine (null_any _).mono ?_
    rintro e wn ⟨rfl, hbn⟩
    have HSN := Lib.hid (HSF.out.callB hbn)
    clear hbn
    obtain ⟨m0, m1, m2, m3, m4, f0, f1, f2, f3, f4⟩ := lit5 HSN.out.box
    have hlt9 := HSN.out.lt
    go_wp2_with fail
    have hfin := lit_stored HSN.out.box (.int .i64 0) (.int .i64 0) (.string ByteArray.empty) (.slice none 0 0) (.slice none 0 0)
    refine bodyPost_ret (v := .agg #[.int .i64 0, .int .i64 0, .string ByteArray.empty, .slice none 0 0, .slice none 0 0]) (results_cell_row Tryz.results26 _ _ w.heap.size 31 _ (0, 0) _ rfl hfin Tryz.underlying31 rfl (by kernel_rfl)) rfl ?_
    exact val_end HSN.out (VB.null _ _ _ _) (Lib.hid (M.dv_zero))

set_option maxRecDepth 100000 in
set_option maxHeartbeats 8000000 in
theorem val_step {f : Nat} (hf : f ≤ 15) (ih : valAt f) : valAt (f + 1) := by
  intro lo g D b s depth w hd h hb hs
  have HS := Lib.hid (VS.start h)
  obtain ⟨c0, c1, c2⟩ := h.cells
  have hdl := h.size
  have hd1 : depth ≤ 16 := by omega
  have HD0 := Lib.hid h
  have hd2 : depth = 16 - (f : Int) := by omega
  have HDE := Lib.hid hd2
  have IH := Lib.hid ih
  clear h hd hd2 ih
  by_cases hb1 : b = 1000
  · subst hb1
    go_enter Tryz.func26, Tryz.ntmps26
    go_wp2_with fail
    refine (dfail_any HS.out.dec).mono ?_
    rintro e wf ⟨rfl, hdf, hff⟩
    have HSF := Lib.hid (HS.out.callN hdf hff)
    clear hdf hff
    go_wp2_with fail
    refine (null_any _).mono ?_
    rintro e wn ⟨rfl, hbn⟩
    have HSN := Lib.hid (HSF.out.callB hbn)
    clear hbn
    obtain ⟨m0, m1, m2, m3, m4, f0, f1, f2, f3, f4⟩ := lit5 HSN.out.box
    have hlt9 := HSN.out.lt
    go_wp2_with fail
    have hfin := lit_stored HSN.out.box (.int .i64 0) (.int .i64 0) (.string ByteArray.empty) (.slice none 0 0) (.slice none 0 0)
    refine bodyPost_ret (v := .agg #[.int .i64 0, .int .i64 0, .string ByteArray.empty, .slice none 0 0, .slice none 0 0]) (results_cell_row Tryz.results26 _ _ w.heap.size 31 _ (0, 0) _ rfl hfin Tryz.underlying31 rfl (by kernel_rfl)) rfl ?_
    exact val_end HSN.out (VB.null _ _ _ _) (Lib.hid (M.dv_full (Nat.le_refl _)))
  · have hbb : ((b : Int) == 1000) = false := by rw [beq_eq_false_iff_ne]; omega
    have hb2 : b < 1000 := by omega
    have hw1 : IntKind.i64.wrap ((b : Int) + 1) = (b : Int) + 1 := IntWalk.i64_in _ (by omega)
    have hn1 := int_of_num s
    have hln := M.num_len s
    have HN := Lib.hid (integer_any (VS.begin HD0.out).dec)
    have HS1 := Lib.hid (VS.begin HD0.out)
    obtain ⟨K, hK⟩ : ∃ K, K = s.num.1 := ⟨_, rfl⟩
    obtain ⟨S1, hS1⟩ : ∃ S1, S1 = s.num.2 := ⟨_, rfl⟩
    rw [← hK, ← hS1] at HN
    rw [← hK] at hn1
    rw [← hS1] at hln
    have HK := Lib.hid hK; have HS1e := Lib.hid hS1
    have HLN : Hid (S1.l.length ≤ 100000000) := Lib.hid (by omega)
    have HB2 := Lib.hid hb2
    clear hK hS1 hln HD0
    rcases (show K = 0 ∨ K = 1 ∨ K = 2 ∨ K = 3 ∨ K = 4 ∨ K = 5 ∨ (K < 0 ∨ 5 < K) by omega) with hk | hk | hk | hk | hk | hk | hk
    · subst hk
      go_enter Tryz.func26, Tryz.ntmps26
      go_wp2_with fail
      refine HN.out.mono ?_
      rintro e w1 ⟨rfl, hd1', hf1⟩
      have HS2 := Lib.hid (HS1.out.callN hd1' hf1)
      clear hd1' hf1 c0 c1 c2
      go_wp2_with fail
      refine (null_any _).mono ?_
      rintro e wn ⟨rfl, hbn⟩
      have HSN := Lib.hid (HS2.out.callB hbn)
      clear hbn
      obtain ⟨m0, m1, m2, m3, m4, f0, f1, f2, f3, f4⟩ := lit5 HSN.out.box
      have hlt9 := HSN.out.lt
      go_wp2_with fail
      have hfin := lit_stored HSN.out.box (.int .i64 0) (.int .i64 0) (.string ByteArray.empty) (.slice none 0 0) (.slice none 0 0)
      refine bodyPost_ret (v := .agg #[.int .i64 0, .int .i64 0, .string ByteArray.empty, .slice none 0 0, .slice none 0 0]) (results_cell_row Tryz.results26 _ _ w.heap.size 31 _ (0, 0) _ rfl hfin Tryz.underlying31 rfl (by kernel_rfl)) rfl ?_
      exact val_end HSN.out (VB.null _ _ _ _) (Lib.hid (by rw [M.dv_null HB2.out HK.out.symm, ← HS1e.out]))
    · subst hk
      go_enter Tryz.func26, Tryz.ntmps26
      go_wp2_with fail
      refine HN.out.mono ?_
      rintro e w1 ⟨rfl, hd1', hf1⟩
      have HS2 := Lib.hid (HS1.out.callN hd1' hf1)
      clear hd1' hf1 c0 c1 c2
      go_wp2_with fail
      refine (bit_any HS2.out.dec).mono ?_
      rintro e w2 ⟨rfl, hd2, hf2⟩
      have HS3 := Lib.hid (HS2.out.callN hd2 hf2)
      obtain ⟨N2, hN2⟩ : ∃ N2, N2 = (M.bx S1).1 := ⟨_, rfl⟩
      have HN2 := Lib.hid hN2
      rw [← hN2]
      clear hd2 hf2 hN2
      by_cases hc : N2 = 1
      · subst hc
        go_wp2_with fail
        refine (vbool_true _).mono ?_
        rintro e w3 ⟨rfl, hb3⟩
        have HS4 := Lib.hid (HS3.out.callB hb3)
        clear hb3
        obtain ⟨m0, m1, m2, m3, m4, f0, f1, f2, f3, f4⟩ := lit5 HS4.out.box
        have hlt9 := HS4.out.lt
        go_wp2_with fail
        have hfin := lit_stored HS4.out.box (.int .i64 1) (.int .i64 1) (.string ByteArray.empty) (.slice none 0 0) (.slice none 0 0)
        refine bodyPost_ret (v := .agg #[.int .i64 1, .int .i64 1, .string ByteArray.empty, .slice none 0 0, .slice none 0 0]) (results_cell_row Tryz.results26 _ _ w.heap.size 31 _ (0, 0) _ rfl hfin Tryz.underlying31 rfl (by kernel_rfl)) rfl ?_
        exact val_end HS4.out (VB.bool _ _ _ _ true) (Lib.hid (by rw [M.dv_bool HB2.out HK.out.symm, ← HS1e.out, if_pos HN2.out.symm]; rfl))
      · have hcb : (N2 == 1) = false := by rw [beq_eq_false_iff_ne]; exact hc
        have HNE := Lib.hid hc
        clear hc
        go_wp2_with fail
        refine (vbool_false _).mono ?_
        rintro e w3 ⟨rfl, hb3⟩
        have HS4 := Lib.hid (HS3.out.callB hb3)
        clear hb3
        obtain ⟨m0, m1, m2, m3, m4, f0, f1, f2, f3, f4⟩ := lit5 HS4.out.box
        have hlt9 := HS4.out.lt
        go_wp2_with fail
        have hfin := lit_stored HS4.out.box (.int .i64 1) (.int .i64 0) (.string ByteArray.empty) (.slice none 0 0) (.slice none 0 0)
        refine bodyPost_ret (v := .agg #[.int .i64 1, .int .i64 0, .string ByteArray.empty, .slice none 0 0, .slice none 0 0]) (results_cell_row Tryz.results26 _ _ w.heap.size 31 _ (0, 0) _ rfl hfin Tryz.underlying31 rfl (by kernel_rfl)) rfl ?_
        exact val_end HS4.out (VB.bool _ _ _ _ false) (Lib.hid (by rw [M.dv_bool HB2.out HK.out.symm, ← HS1e.out, if_neg (by rw [← HN2.out]; exact HNE.out)]; rfl))
    · subst hk
      go_enter Tryz.func26, Tryz.ntmps26
      go_wp2_with fail
      refine HN.out.mono ?_
      rintro e w1 ⟨rfl, hd1', hf1⟩
      have HS2 := Lib.hid (HS1.out.callN hd1' hf1)
      clear hd1' hf1 c0 c1 c2
      go_wp2_with fail
      refine (integer_any HS2.out.dec).mono ?_
      rintro e w2 ⟨rfl, hd2, hf2⟩
      have HS3 := Lib.hid (HS2.out.callN hd2 hf2)
      clear hd2 hf2
      go_wp2_with fail
      refine (int_any _ _).mono ?_
      rintro e w3 ⟨rfl, hb3⟩
      have HS4 := Lib.hid (HS3.out.callB hb3)
      clear hb3
      obtain ⟨m0, m1, m2, m3, m4, f0, f1, f2, f3, f4⟩ := lit5 HS4.out.box
      have hlt9 := HS4.out.lt
      go_wp2_with fail
      have hfin := lit_stored HS4.out.box (.int .i64 2) (.int .i64 S1.num.1) (.string ByteArray.empty) (.slice none 0 0) (.slice none 0 0)
      refine bodyPost_ret (v := .agg #[.int .i64 2, .int .i64 S1.num.1, .string ByteArray.empty, .slice none 0 0, .slice none 0 0]) (results_cell_row Tryz.results26 _ _ w.heap.size 31 _ (0, 0) _ rfl hfin Tryz.underlying31 rfl (by kernel_rfl)) rfl ?_
      exact val_end HS4.out (VB.int _ _ _ _ _ (int_of_num _).1 (int_of_num _).2) (Lib.hid (by rw [M.dv_int HB2.out HK.out.symm, ← HS1e.out]))
    · subst hk
      go_enter Tryz.func26, Tryz.ntmps26
      go_wp2_with fail
      refine HN.out.mono ?_
      rintro e w1 ⟨rfl, hd1', hf1⟩
      have HS2 := Lib.hid (HS1.out.callN hd1' hf1)
      clear hd1' hf1 c0 c1 c2
      have hts := (M.tx_len S1).2
      have HTS : Hid ((M.tx S1).1.size ≤ 140737488351232) := Lib.hid (by have := HLN.out; omega)
      clear hts
      go_wp2_with fail
      refine (dtext_any HS2.out.dec HLN.out).mono ?_
      rintro e w2 ⟨rfl, hd2, hf2⟩
      have HS3 := Lib.hid (HS2.out.callN hd2 hf2)
      clear hd2 hf2
      go_wp2_with fail
      refine (text_any _ _).mono ?_
      rintro e w3 ⟨rfl, hb3⟩
      have HS4 := Lib.hid (HS3.out.callB hb3)
      clear hb3
      obtain ⟨m0, m1, m2, m3, m4, f0, f1, f2, f3, f4⟩ := lit5 HS4.out.box
      have hlt9 := HS4.out.lt
      go_wp2_with fail
      have hfin := lit_stored HS4.out.box (.int .i64 3) (.int .i64 0) (.string (M.tx S1).1) (.slice none 0 0) (.slice none 0 0)
      refine bodyPost_ret (v := .agg #[.int .i64 3, .int .i64 0, .string (M.tx S1).1, .slice none 0 0, .slice none 0 0]) (results_cell_row Tryz.results26 _ _ w.heap.size 31 _ (0, 0) _ rfl hfin Tryz.underlying31 rfl (by kernel_rfl)) rfl ?_
      exact val_end HS4.out (VB.text _ _ _ _ _ HTS.out) (Lib.hid (by rw [M.dv_text HB2.out HK.out.symm, ← HS1e.out]))
    · subst hk
      go_enter Tryz.func26, Tryz.ntmps26
      go_wp2_with fail
      refine HN.out.mono ?_
      rintro e w1 ⟨rfl, hd1', hf1⟩
      have HS2 := Lib.hid (HS1.out.callN hd1' hf1)
      clear hd1' hf1 c0 c1 c2
      have hcall := list_dec IH.out HDE.out (by omega) HS2.out.dec (by have := HB2.out; omega) HLN.out
      obtain ⟨r, hr⟩ : ∃ r, r = lres (M.dL (M.dv f) (M.cx S1).1 (M.cx S1).2 (b + 1) []) := ⟨_, rfl⟩
      rw [← hr] at hcall
      have HR := Lib.hid hr
      have HCL := Lib.hid hcall
      clear hr hcall
      go_wp2_with fail
      refine HCL.out.mono ?_
      rintro e w2 ⟨v, rfl, hv, hd2, hf2⟩
      obtain ⟨A3, n3, c3, B3, p3, e3, rfl⟩ := hv.agg
      have HS3 := Lib.hid (HS2.out.callN hd2 hf2)
      have HV3 := Lib.hid (hv.weak HS2.out.lt (Nat.le_refl _))
      clear hd2 hf2 hv
      obtain ⟨m0, m1, m2, m3, m4, f0, f1, f2, f3, f4⟩ := lit5 HS3.out.box
      have hlt9 := HS3.out.lt
      go_wp2_with fail
      have hfin := lit_stored HS3.out.box (.int .i64 r.2.2.k) (.int .i64 r.2.2.n) (.string r.2.2.s) (.slice A3 n3 c3) (.slice B3 p3 e3)
      refine bodyPost_ret (v := .agg #[.int .i64 r.2.2.k, .int .i64 r.2.2.n, .string r.2.2.s, .slice A3 n3 c3, .slice B3 p3 e3]) (results_cell_row Tryz.results26 _ _ w.heap.size 31 _ (0, 0) _ rfl hfin Tryz.underlying31 rfl (by kernel_rfl)) rfl ?_
      exact val_end HS3.out (HV3.out) (Lib.hid (by rw [M.dv_list HB2.out HK.out.symm, ← HS1e.out]; exact HR.out.symm))
    · subst hk
      go_enter Tryz.func26, Tryz.ntmps26
      go_wp2_with fail
      refine HN.out.mono ?_
      rintro e w1 ⟨rfl, hd1', hf1⟩
      have HS2 := Lib.hid (HS1.out.callN hd1' hf1)
      clear hd1' hf1 c0 c1 c2
      have hcall := pairs_dec IH.out HDE.out (by omega) HS2.out.dec (by have := HB2.out; omega) HLN.out
      obtain ⟨r, hr⟩ : ∃ r, r = pres (M.dP (M.dv f) (M.cx S1).1 (M.cx S1).2 (b + 1) [] []) := ⟨_, rfl⟩
      rw [← hr] at hcall
      have HR := Lib.hid hr
      have HCL := Lib.hid hcall
      clear hr hcall
      go_wp2_with fail
      refine HCL.out.mono ?_
      rintro e w2 ⟨v, rfl, hv, hd2, hf2⟩
      obtain ⟨A3, n3, c3, B3, p3, e3, rfl⟩ := hv.agg
      have HS3 := Lib.hid (HS2.out.callN hd2 hf2)
      have HV3 := Lib.hid (hv.weak HS2.out.lt (Nat.le_refl _))
      clear hd2 hf2 hv
      obtain ⟨m0, m1, m2, m3, m4, f0, f1, f2, f3, f4⟩ := lit5 HS3.out.box
      have hlt9 := HS3.out.lt
      go_wp2_with fail
      have hfin := lit_stored HS3.out.box (.int .i64 r.2.2.k) (.int .i64 r.2.2.n) (.string r.2.2.s) (.slice A3 n3 c3) (.slice B3 p3 e3)
      refine bodyPost_ret (v := .agg #[.int .i64 r.2.2.k, .int .i64 r.2.2.n, .string r.2.2.s, .slice A3 n3 c3, .slice B3 p3 e3]) (results_cell_row Tryz.results26 _ _ w.heap.size 31 _ (0, 0) _ rfl hfin Tryz.underlying31 rfl (by kernel_rfl)) rfl ?_
      exact val_end HS3.out (HV3.out) (Lib.hid (by rw [M.dv_map HB2.out HK.out.symm, ← HS1e.out]; exact HR.out.symm))
    · have e0 : (K == 0) = false := by rw [beq_eq_false_iff_ne]; omega
      have e1 : (K == 1) = false := by rw [beq_eq_false_iff_ne]; omega
      have e2 : (K == 2) = false := by rw [beq_eq_false_iff_ne]; omega
      have e3 : (K == 3) = false := by rw [beq_eq_false_iff_ne]; omega
      have e4 : (K == 4) = false := by rw [beq_eq_false_iff_ne]; omega
      have e5 : (K == 5) = false := by rw [beq_eq_false_iff_ne]; omega
      have HKK := Lib.hid hk
      clear hk
      go_enter Tryz.func26, Tryz.ntmps26
      go_wp2_with fail
      refine HN.out.mono ?_
      rintro e w1 ⟨rfl, hd1', hf1⟩
      have HS2 := Lib.hid (HS1.out.callN hd1' hf1)
      clear hd1' hf1 c0 c1 c2
      go_wp2_with fail
      refine (dfail_any HS2.out.dec).mono ?_
      rintro e wf ⟨rfl, hdf, hff⟩
      have HSF := Lib.hid (HS2.out.callN hdf hff)
      clear hdf hff
      go_wp2_with fail
      refine (null_any _).mono ?_
      rintro e wn ⟨rfl, hbn⟩
      have HSN := Lib.hid (HSF.out.callB hbn)
      clear hbn
      obtain ⟨m0, m1, m2, m3, m4, f0, f1, f2, f3, f4⟩ := lit5 HSN.out.box
      have hlt9 := HSN.out.lt
      go_wp2_with fail
      have hfin := lit_stored HSN.out.box (.int .i64 0) (.int .i64 0) (.string ByteArray.empty) (.slice none 0 0) (.slice none 0 0)
      refine bodyPost_ret (v := .agg #[.int .i64 0, .int .i64 0, .string ByteArray.empty, .slice none 0 0, .slice none 0 0]) (results_cell_row Tryz.results26 _ _ w.heap.size 31 _ (0, 0) _ rfl hfin Tryz.underlying31 rfl (by kernel_rfl)) rfl ?_
      exact val_end HSN.out (VB.null _ _ _ _) (Lib.hid (by rw [M.dv_kind HB2.out (by rw [← HK.out]; exact HKK.out), ← HS1e.out]))

theorem val_at : ∀ f, f ≤ 16 → valAt f
  | 0, _ => val_zero
  | f + 1, h => val_step (by omega) (val_at f (by omega))
end Go.Proofs.YtkodmhopollnpaaGreat

namespace Go.Proofs.YtkodmhopollnpaaGreat
set_option linter.unusedVariables false
open Go.RowKit
open M (V)

/-- What Decode returns. -/
def dout (r : M.St × Nat × V) : V := if r.1.e = 0 then r.2.2 else V.null
def DecD (lo g : Nat) (r : M.St × Nat × V) (w : World) (e : Ending) (w' : World) : Prop := ∃ v, e = .returned v ∧ VX w' w.heap.size w'.heap.size v (dout r) ∧ RdX w' lo g r.1 ∧ w.grownBy w' (some g)

theorem dec_end {w w2 : World} {lo g : Nat} {s2 : M.St} {r : M.St × Nat × V} {d : Nat} {k n : Int} {t : ByteArray} {A B : Option Addr} {m c p e : Nat} {T : V} {o o1 : Obj} {w3 : World} (hg : g < w.heap.size)
    (hF : Frm ((w.alloc o).alloc o1).heap.size g (w.heap.size + 1 + 1) ((w.alloc o).alloc o1) w2) (hb : Below w2.heap.size w2 w3) (hR : RdX w3 lo g s2) (hV : VB w3 (w.heap.size + 2) w3.heap.size d (.agg #[.int .i64 k, .int .i64 n, .string t, .slice A m c, .slice B p e]) T)
    (hs : s2 = r.1) (hT : T = dout r) :
    DecD lo g r w (.returned (.agg #[.int .i64 k, .int .i64 n, .string t, .slice A m c, .slice B p e])) (stored w3 w.heap.size (.int .i64 k) (.int .i64 n) (.string t) (.slice A m c) (.slice B p e)) := by
  have h1 := hF.size
  simp only [World.size_alloc] at h1
  have h2 := hb.size
  have hst := stored_size w3 w.heap.size (.int .i64 k) (.int .i64 n) (.string t) (.slice A m c) (.slice B p e)
  have hb1 : Below w.heap.size w ((w.alloc o).alloc o1) := ((Below.refl _ _).alloc (Nat.le_refl _) _).alloc (by simp) _
  have hb2 : Below w.heap.size w3 (stored w3 w.heap.size (.int .i64 k) (.int .i64 n) (.string t) (.slice A m c) (.slice B p e)) := stored_below (Below.refl w.heap.size w3) (Nat.le_refl _) _ _ _ _ _
  refine ⟨_, rfl, ⟨d, ?_⟩, ?_, ⟨?_, ?_, ?_, ?_, fun x x1 x2 => ?_⟩⟩
  · rw [← hT]
    exact (hV.kept fun x h1 h2 => stored_other _ _ _ _ _ _ _ _ (by omega)).weak (by omega) (by rw [hst]; omega)
  · rw [← hs]
    exact hR.kept fun x h1 h2 => stored_other _ _ _ _ _ _ _ _ (by omega)
  · exact hb2.os.trans (hb.os.trans (hF.os.trans hb1.os))
  · exact hb2.tape.trans (hb.tape.trans (hF.tape.trans hb1.tape))
  · exact hb2.output.trans (hb.output.trans (hF.output.trans hb1.output))
  · rw [hst]; omega
  · have hx : x ≠ g := fun e => x2 (by rw [e])
    exact (hb2.block x x1).trans ((hb.block x (by omega)).trans ((hF.blk x (by simp only [World.size_alloc]; omega) ⟨hx, by omega⟩).trans (hb1.block x x1)))

set_option maxRecDepth 100000 in
set_option maxHeartbeats 4000000 in
theorem decodeX {w : World} {lo g : Nat} {s : M.St} {r : M.St × Nat × V} (hr : r = M.dv 16 s 0) (h : RdX w lo g s) (hlo : lo ≤ g) (hs : s.l.length ≤ 100000000) :
    Calls Tryz.prog 8 #[.pointer (some ⟨g, 0, none⟩)] w (DecD lo g r w) := by
  have hg := h.lt
  have hb0 : Below (w.heap.size + 2) ((w.alloc (.cells #[.int .i64 0, .int .i64 0, .string ByteArray.empty, .slice none 0 0, .slice none 0 0] 31)).alloc (.cells #[.pointer (some ⟨g, 0, none⟩), .int .i64 ((0 : Nat) : Int)] 57)) _ := Below.refl _ _
  obtain ⟨q0, q1⟩ := two_heap hb0 (Nat.le_refl _)
  have hd : Dec ((w.alloc (.cells #[.int .i64 0, .int .i64 0, .string ByteArray.empty, .slice none 0 0, .slice none 0 0] 31)).alloc (.cells #[.pointer (some ⟨g, 0, none⟩), .int .i64 ((0 : Nat) : Int)] 57)) lo g (w.heap.size + 1) s 0 :=
    ⟨h.kept (Kept.of_below (two_below hb0) (by omega)), q1, by omega, hlo⟩
  have hcall := val_at 16 (Nat.le_refl _) lo g (w.heap.size + 1) 0 s 1 _ (by omega) hd (by omega) hs
  rw [← hr] at hcall
  have HC := Lib.hid hcall
  have HZ := Lib.hid q0
  clear h hd hcall hr q0 q1 hb0
  go_enter Tryz.func8, Tryz.ntmps8
  go_wp2_with fail
  refine HC.out.mono ?_
  rintro e w2 ⟨v, rfl, hv, hd2, hF⟩
  obtain ⟨A3, n3, c3, B3, p3, e3, rfl⟩ := hv.agg
  have hs2 := hF.size
  simp only [World.size_alloc] at hs2
  have hz2 := (hF.blk w.heap.size (by simp only [World.size_alloc]; omega) ⟨by omega, by omega⟩).trans HZ.out
  have hbox := box_refl w2 (.cells #[.int .i64 r.2.2.k, .int .i64 r.2.2.n, .string r.2.2.s, .slice A3 n3 c3, .slice B3 p3 e3] 31)
  have hd3 := hd2.below (box_below hbox)
  have HZ3 := Lib.hid (((box_below hbox).block w.heap.size (by omega)).trans hz2)
  have HV := Lib.hid (hv.later (box_below hbox) (Nat.le_refl _))
  have HD := Lib.hid hd3
  have HF := Lib.hid hF
  have hsz := box_size hbox
  clear hv hd2 hF hz2 hd3 HC HZ
  by_cases he : r.1.e = 0
  · have hbe : (r.1.e != 0) = false := by simpa using he
    have HBE := Lib.hid hbe
    have HE := Lib.hid he
    clear hbe he
    go_wp2_with fail
    refine (failed_any HD.out).mono ?_
    rintro e w3 ⟨rfl, rfl⟩
    rw [HBE.out]
    obtain ⟨b0, b1, b2, b3, b4⟩ := box5 hbox
    obtain ⟨m0, m1, m2, m3, m4, f0, f1, f2, f3, f4⟩ := lit5 HZ3.out
    have HBX := Lib.hid hbox
    clear hbox
    go_wp2_with fail
    have hfin := lit_stored HZ3.out (.int .i64 r.2.2.k) (.int .i64 r.2.2.n) (.string r.2.2.s) (.slice A3 n3 c3) (.slice B3 p3 e3)
    refine bodyPost_ret (v := .agg #[.int .i64 r.2.2.k, .int .i64 r.2.2.n, .string r.2.2.s, .slice A3 n3 c3, .slice B3 p3 e3]) (results_cell_row Tryz.results8 _ _ w.heap.size 31 _ (0, 0) _ rfl hfin Tryz.underlying31 rfl (by kernel_rfl)) rfl ?_
    exact dec_end hg HF.out (box_below HBX.out) HD.out.rd (HV.out.weak (by simp) (by omega)) rfl (by unfold dout; rw [if_pos HE.out])
  · have hbe : (r.1.e != 0) = true := by simpa using he
    have HBE := Lib.hid hbe
    have HE := Lib.hid he
    clear hbe he
    go_wp2_with fail
    refine (failed_any HD.out).mono ?_
    rintro e w3 ⟨rfl, rfl⟩
    rw [HBE.out]
    go_wp2_with fail
    refine (null_any _).mono ?_
    rintro e w4 ⟨rfl, hb4⟩
    have hb5 := box_step hbox hb4
    have HZ4 := Lib.hid ((hb4.block w.heap.size (by omega)).trans HZ3.out)
    have HD4 := Lib.hid (HD.out.below hb4)
    have HBX := Lib.hid hb5
    have hsz4 := box_size hb5
    obtain ⟨m0, m1, m2, m3, m4, f0, f1, f2, f3, f4⟩ := lit5 HZ4.out
    clear hbox hb4 hb5 HZ3 HD HV
    go_wp2_with fail
    have hfin := lit_stored HZ4.out (.int .i64 0) (.int .i64 0) (.string ByteArray.empty) (.slice none 0 0) (.slice none 0 0)
    refine bodyPost_ret (v := .agg #[.int .i64 0, .int .i64 0, .string ByteArray.empty, .slice none 0 0, .slice none 0 0]) (results_cell_row Tryz.results8 _ _ w.heap.size 31 _ (0, 0) _ rfl hfin Tryz.underlying31 rfl (by kernel_rfl)) rfl ?_
    exact dec_end hg HF.out (box_below HBX.out) HD4.out.rd (VB.null _ _ _ 0) rfl (by unfold dout; rw [if_neg HE.out])
end Go.Proofs.YtkodmhopollnpaaGreat
