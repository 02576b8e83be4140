/-
  Layer 1: the reference PutText.
-/
import Derived.Test.YthmlpogflllcnaaPut
import Derived.Deep.QuietTactic
import Derived.BigQuiet
namespace Go.Proofs.Ythmlpogflllcnaa
open Go.RowKit

theorem take_snoc_str (s : ByteArray) (k : Nat) (h : k < s.size) : s.data.toList.take (k + 1) = s.data.toList.take k ++ [s[k]] := by
  rw [List.take_succ_eq_append_getElem (by simpa using h)]; rfl

set_option maxRecDepth 100000 in
set_option maxHeartbeats 400000 in
theorem refPutText_any (A : Option Addr) (m c : Nat) (l : List UInt8) (lo hi : Nat) (s : ByteArray) (w : World) (h : RB w lo hi A m c l) (hhi : hi ≤ w.heap.size) (hb : m + s.size ≤ 140737488355000) :
    Calls Try.prog 88 #[.slice A m c, .string s] w fun e w' => ∃ v, e = .returned v ∧ OB w' w.heap.size v (l ++ (M.enc (M.zig (s.data.toList.length : Int)) ++ s.data.toList)) ∧ Below w.heap.size w w' := by
  have HL := Lib.hid h.len
  have hs : s.data.toList.length = s.size := Array.length_toList
  rw [hs]
  have HS := Lib.hid hs
  clear hs
  have hz := (M.enc_len (M.zig (s.size : Int)) (M.zig_lt _ (by omega) (by omega))).2
  have HZ := Lib.hid hz
  clear hz
  go_enter Try.func88, Try.ntmps88
  go_wp2_with fail
  refine (refPutInt_any A m c l lo hi _ w h hhi (by omega) (by omega) (by omega)).mono ?_
  rintro e w1 ⟨v1, rfl, ho1, hb1⟩
  go_wp2_with fail
  go_loopw [5, 6] (fun v i wr => ∃ k : Nat, i = .int .i64 k ∧ k ≤ s.size ∧ OB wr w.heap.size v (l ++ (M.enc (M.zig (s.size : Int)) ++ s.data.toList.take k)) ∧ Below w.heap.size w wr) (fun _ i _ => s.size - (intOf i).toNat)
  case atStart => exact ⟨0, rfl, by omega, by simpa using ho1, hb1⟩
  case round =>
    obtain ⟨k, rfl, hk, hown, hbel⟩ := hrel
    clear ho1 hb1
    by_cases hlt : k < s.size
    · have hsn := take_snoc_str s k hlt
      have HSN := Lib.hid hsn
      clear hsn
      go_wp2_with (at_builtin; refine wpList_append_rb rfl _ _ rfl w.heap.size _ _ rfl (hown.alloc _) _ _ _ _ _ [s[k]] rfl (RB.one _ rfl) ?b1 ?b2 ?_)
      case b1 => have := HZ.out; have := HL.out; simp only [List.length_append, List.length_take, HS.out]; omega
      case b2 => have := hbel.size; simp; omega
      intro v' w' hown' hbel'
      have hsz := hbel.size
      go_wp2
      go_roundw
      case rel => exact ⟨k + 1, by go_num, by omega, by rw [HSN.out]; exact hown', (hbel.alloc (by omega) _).trans hbel'⟩
      case measure => simp [intOf]; omega
    · go_wp2
      go_ret
      exact ⟨_, rfl, by rw [List.take_of_length_le (by rw [HS.out]; omega)] at hown; exact hown, hbel⟩

end Go.Proofs.Ythmlpogflllcnaa
