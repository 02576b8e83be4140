/-
  Layer 1: the references PutText and PutBool, and 'equal'.
-/
import Derived.Test.YtakinfkjimfkhaaPut
import Derived.Deep.QuietTactic
import Derived.BigQuiet
namespace Go.Proofs.Ytakinfkjimfkhaa
open Go.RowKit

theorem take_snoc_str (s : ByteArray) (k : Nat) (h : k < s.size) : s.data.toList.take (k + 1) = s.data.toList.take k ++ [s[k]] := by
  rw [List.take_succ_eq_append_getElem (by simpa using h)]; rfl

set_option maxRecDepth 100000 in
set_option maxHeartbeats 400000 in
theorem refPutText_any (A : Option Addr) (m c : Nat) (l : List UInt8) (lo hi : Nat) (s : ByteArray) (w : World) (h : RB w lo hi A m c l) (hhi : hi ≤ w.heap.size) (hb : m + s.size ≤ 140737488355000) :
    Calls Try.prog 15 #[.slice A m c, .string s] w fun e w' => ∃ v, e = .returned v ∧ OB w' w.heap.size v (l ++ (M.enc (M.zig (s.data.toList.length : Int)) ++ s.data.toList)) ∧ Below w.heap.size w w' := by
  have HL := Lib.hid h.len
  have hs : s.data.toList.length = s.size := Array.length_toList
  rw [hs]
  have HS := Lib.hid hs
  clear hs
  have hz := (M.enc_len (M.zig (s.size : Int)) (M.zig_lt _ (by omega) (by omega))).2
  have HZ := Lib.hid hz
  clear hz
  go_enter Try.func15, Try.ntmps15
  go_wp2_with fail
  refine (refPutInt_any A m c l lo hi _ w h hhi (by omega) (by omega) (by omega)).mono ?_
  rintro e w1 ⟨v1, rfl, ho1, hb1⟩
  go_wp2_with fail
  go_loopw [5, 6] (fun v i wr => ∃ k : Nat, i = .int .i64 k ∧ k ≤ s.size ∧ OB wr w.heap.size v (l ++ (M.enc (M.zig (s.size : Int)) ++ s.data.toList.take k)) ∧ Below w.heap.size w wr) (fun _ i _ => s.size - (intOf i).toNat)
  case atStart => exact ⟨0, rfl, by omega, by simpa using ho1, hb1⟩
  case round =>
    obtain ⟨k, rfl, hk, hown, hbel⟩ := hrel
    clear ho1 hb1
    by_cases hlt : k < s.size
    · have hsn := take_snoc_str s k hlt
      have HSN := Lib.hid hsn
      clear hsn
      go_wp2_with (at_builtin; refine wpList_append_rb rfl _ _ rfl w.heap.size _ _ rfl (hown.alloc _) _ _ _ _ _ [s[k]] rfl (RB.one _ rfl) ?b1 ?b2 ?_)
      case b1 => have := HZ.out; have := HL.out; simp only [List.length_append, List.length_take, HS.out]; omega
      case b2 => have := hbel.size; simp; omega
      intro v' w' hown' hbel'
      have hsz := hbel.size
      go_wp2
      go_roundw
      case rel => exact ⟨k + 1, by go_num, by omega, by rw [HSN.out]; exact hown', (hbel.alloc (by omega) _).trans hbel'⟩
      case measure => simp [intOf]; omega
    · go_wp2
      go_ret
      exact ⟨_, rfl, by rw [List.take_of_length_le (by rw [HS.out]; omega)] at hown; exact hown, hbel⟩

set_option maxRecDepth 100000 in
set_option maxHeartbeats 400000 in
theorem refPutBool_any (A : Option Addr) (m c : Nat) (l : List UInt8) (lo hi : Nat) (b : Bool) (w : World) (h : RB w lo hi A m c l) (hhi : hi ≤ w.heap.size) (hb : m ≤ 140737488355000) :
    Calls Try.prog 17 #[.slice A m c, .bool b] w fun e w' => ∃ v, e = .returned v ∧ OB w' w.heap.size v (l ++ [yb b]) ∧ Below w.heap.size w w' := by
  have HL := Lib.hid h.len
  cases b
  all_goals
    go_enter Try.func17, Try.ntmps17
    go_wp2_with (at_builtin; refine wpList_append_rb rfl _ _ rfl w.heap.size _ [] rfl (OB.lit0 w) lo hi A m c l rfl (h.alloc hhi _) ?c2 ?c3 ?_)
    case c2 => simp; omega
    case c3 => simp
    intro v1 w1 ho1 hb1
    have hbase := ((Below.refl _ _).alloc (Nat.le_refl w.heap.size) _).trans hb1
  · go_wp2_with (at_builtin; refine wpList_append_rb rfl _ _ rfl w.heap.size _ l rfl (OB.alloc ho1 _) _ _ _ _ _ [yb false] rfl (RB.one _ rfl) ?d1 ?d2 ?_)
    case d1 => rw [HL.out]; omega
    case d2 => have := hbase.size; simp; omega
    intro v3 w3 hown3 hb3
    go_wp2
    go_ret
    exact ⟨_, rfl, hown3, (hbase.alloc hbase.size _).trans hb3⟩
  · go_wp2_with (at_builtin; refine wpList_append_rb rfl _ _ rfl w.heap.size _ l rfl (OB.alloc ho1 _) _ _ _ _ _ [yb true] rfl (RB.one _ rfl) ?d1 ?d2 ?_)
    case d1 => rw [HL.out]; omega
    case d2 => have := hbase.size; simp; omega
    intro v3 w3 hown3 hb3
    go_wp2
    go_ret
    exact ⟨_, rfl, hown3, (hbase.alloc hbase.size _).trans hb3⟩

theorem take_same {l r : List UInt8} {k : Nat} (h1 : k < l.length) (h2 : k < r.length) (h : l.take k = r.take k) (hk : (!(((l[k]?.getD 0).toNat : Int) == ((r[k]?.getD 0).toNat : Int))) = false) :
    l.take (k + 1) = r.take (k + 1) := by
  rw [List.take_succ_eq_append_getElem h1, List.take_succ_eq_append_getElem h2, h]
  simp only [List.getElem?_eq_getElem h1, List.getElem?_eq_getElem h2, Option.getD_some, Bool.not_eq_false', beq_iff_eq] at hk
  congr 2
  apply UInt8.toNat.inj
  omega
theorem differ_at {l r : List UInt8} {k : Nat} (hk : (!(((l[k]?.getD 0).toNat : Int) == ((r[k]?.getD 0).toNat : Int))) = true) : false = decide (l = r) := by
  symm
  rw [decide_eq_false_iff_not]
  rintro rfl
  simp at hk

set_option maxRecDepth 100000 in
set_option maxHeartbeats 400000 in
theorem equal_any (A B : Option Addr) (m n c d : Nat) (l r : List UInt8) (lo hi lo' hi' : Nat) (w : World) (h : RB w lo hi A m c l) (h' : RB w lo' hi' B n d r) :
    Calls Try.prog 11 #[.slice A m c, .slice B n d] w fun e w' => e = .returned (.bool (decide (l = r))) ∧ ∃ q, w' = w.drewN q := by
  have hm := h.len
  have hn := h'.len
  have hmc := h.cap
  have hnd := h'.cap
  have hmx := h.most
  have hnx := h'.most
  unfold maxLen at hmx hnx
  by_cases hmn : m = n
  · subst hmn
    rcases Nat.eq_zero_or_pos m with h0 | h0
    · subst h0
      obtain rfl : l = [] := List.eq_nil_of_length_eq_zero hm
      obtain rfl : r = [] := List.eq_nil_of_length_eq_zero hn
      go_enter Try.func11, Try.ntmps11
      go_wp2
      refine wp_loop_rounds 1 ?_
      rw [rounds_succ]
      go_wp2
      go_ret
      exact ⟨rfl, 0, rfl⟩
    · obtain ⟨b, off, rfl, _, _, hc⟩ := h.at_ h0
      obtain ⟨b', off', rfl, _, _, hc'⟩ := h'.at_ h0
      have HM := Lib.hid hm
      have HN := Lib.hid hn
      have HC := Lib.hid hc
      have HC' := Lib.hid hc'
      clear hm hn hc hc' h h'
      have hself : (!((m : Int) == (m : Int))) = false := by simp
      go_enter Try.func11, Try.ntmps11
      go_wp2
      go_loopw [13] (fun i wr => ∃ (k q : Nat), i = .int .i64 k ∧ k ≤ m ∧ wr = w.drewN q ∧ Hid (l.take k = r.take k)) (fun i _ => m - (intOf i).toNat)
      case atStart => exact ⟨0, 0, rfl, by omega, rfl, Lib.hid (by simp)⟩
      case round =>
        obtain ⟨k, q, rfl, hk, rfl, HE⟩ := hrel
        by_cases hlt : k < m
        · have g1 := HC.out k hlt
          have g2 := HC'.out k hlt
          go_wp2
          go_quiet (fail)
          go_wp2
          · go_ret
            exact ⟨ret_bool (differ_at (k := k) (by assumption)), _, by rw [World.drewN_drewN]⟩
          · go_roundw
            case rel => exact ⟨k + 1, _, by go_num, by omega, rfl, Lib.hid (take_same (by rw [HM.out]; omega) (by rw [HN.out]; omega) HE.out (by assumption))⟩
            case measure => simp [intOf]; omega
        · go_wp2
          go_ret
          refine ⟨ret_bool ?_, _, rfl⟩
          symm
          rw [decide_eq_true_eq]
          have := HE.out
          rwa [List.take_of_length_le (by rw [HM.out]; omega), List.take_of_length_le (by rw [HN.out]; omega)] at this
  · have hne : ((m : Int) == (n : Int)) = false := by rw [beq_eq_false_iff_ne]; omega
    have hd : decide (l = r) = false := by
      rw [decide_eq_false_iff_not]; intro e; rw [e] at hm; omega
    have HD := Lib.hid hd
    clear hm hn hd hmn
    go_enter Try.func11, Try.ntmps11
    go_wp2
    go_ret
    exact ⟨ret_bool HD.out.symm, 0, rfl⟩
end Go.Proofs.Ytakinfkjimfkhaa
