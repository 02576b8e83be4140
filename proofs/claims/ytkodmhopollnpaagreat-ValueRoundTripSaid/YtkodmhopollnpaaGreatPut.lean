/-
  Layer 1: the functions that append: copyWithRoom, appendInt, PutInt, PutText, PutBool, and the references.
-/
import Derived.Test.YtkodmhopollnpaaGreatArithP
namespace Go.Proofs.YtkodmhopollnpaaGreat
open Go.RowKit

theorem enc_byte {u : Nat} : ((u : Int) % 128 + 128) = ((M.gb u).toNat : Int) := by
  rw [M.gb_nat]; omega
theorem enc_last {u : Nat} (h : u < 128) : (u : Int) = ((M.lb u).toNat : Int) := by
  rw [M.lb_nat (by omega)]

set_option maxRecDepth 100000 in
set_option maxHeartbeats 400000 in
theorem copy_any (A : Option Addr) (n c : Nat) (l : List UInt8) (lo hi : Nat) (room : Int) (w : World) (h : RB w lo hi A n c l) (hhi : hi ≤ w.heap.size) (hr : 0 ≤ room) (hb : n + room ≤ 140737488355328) :
    Calls Tryz.prog 25 #[.slice A n c, .int .i64 room] w fun e w' => ∃ v, e = .returned v ∧ OB w' w.heap.size v l ∧ Below w.heap.size w w' := by
  obtain ⟨room, rfl⟩ := Int.eq_ofNat_of_zero_le hr
  have hcap := h.cap
  have hl := h.len
  have HL := Lib.hid hl
  clear hl
  go_enter Tryz.func25, Tryz.ntmps25
  go_wp2_with (at_make; refine wpList_make_ob rfl _ _ rfl w.heap.size _ (n + room) rfl rfl ?c1 ?c2 ?c3 ?_)
  case c1 => omega
  case c2 => omega
  case c3 => omega
  intro w1 hown1 hb1
  go_wp2_with (at_builtin; refine wpList_append_rb rfl _ _ rfl w.heap.size _ [] rfl hown1 lo hi A n c l rfl ?d1 ?d2 ?d3 ?_)
  case d1 => exact h.kept (Kept.of_below hb1 hhi)
  case d2 => simp; omega
  case d3 => exact hb1.size
  intro v2 w2 hown2 hb2
  go_wp2
  go_ret
  exact ⟨_, rfl, by simpa using hown2, hb1.trans hb2⟩

set_option maxRecDepth 100000 in
set_option maxHeartbeats 400000 in
theorem appendInt_any (base : Nat) (v : Value) (l : List UInt8) (n : Int) (w : World) (h : OB w base v l) (hbase : base ≤ w.heap.size) (h1 : -9223372036854775808 ≤ n) (h2 : n ≤ 9223372036854775807) (hb : l.length ≤ 140737488355000) :
    Calls Tryz.prog 99 #[v, .int .i64 n] w fun e w' => ∃ v', e = .returned v' ∧ OB w' base v' (l ++ M.enc (M.zig n)) ∧ Below base w w' := by
  have hz := M.zig_lt n h1 h2
  obtain ⟨U, hU⟩ : ∃ U, U = M.zig n := ⟨_, rfl⟩
  rw [← hU] at hz ⊢
  have HU := Lib.hid hU
  clear hU
  go_enter Tryz.func99, Tryz.ntmps99
  go_wp2_with (go_at_call 113; refine (fold_any _ _ h1 h2).mono ?_; rintro e w' ⟨rfl, rfl⟩)
  rw [← HU.out]
  have hl10 := (M.enc_len U hz).2
  go_loopw [0, 5] (fun v u wr => ∃ (U' : Nat) (l' : List UInt8), u = .int .u64 U' ∧ U' < 18446744073709551616 ∧ OB wr base v l' ∧ Below base w wr ∧ l'.length ≤ l.length + 10 ∧ Hid (l' ++ M.enc U' = l ++ M.enc U)) (fun _ u _ => (intOf u).toNat)
  case atStart => exact ⟨U, l, rfl, hz, h, Below.refl _ _, by omega, Lib.hid rfl⟩
  case round =>
    obtain ⟨U', l', rfl, hu', hown, hbel, hlen, HE⟩ := hrel
    rename_i v0 _ _
    have HB := Lib.hid hb; have HZ := Lib.hid hz; have HU2 := Lib.hid hu'
    clear hb hz hu' h1 h2
    by_cases hs : 128 ≤ U'
    · go_wp2_with (at_builtin; refine wpList_append_rb rfl _ _ rfl base _ l' rfl (hown.alloc _) _ _ _ _ _ [M.gb U'] rfl (RB.one _ enc_byte) ?b1 ?b2 ?_)
      case b1 => have := HB.out; omega
      case b2 => have := hbel.size; simp; omega
      intro v' w' hown' hbel'
      have hsz := hbel.size
      have hE := HE.out
      rw [M.enc_big (by omega)] at hE
      have hE2 : (l' ++ [M.gb U']) ++ M.enc (U' / 128) = l ++ M.enc U := by rw [← hE]; simp
      have hL := congrArg List.length hE2
      simp only [List.length_append, List.length_singleton] at hL
      have HE2 := Lib.hid hE2
      clear hE hE2 HE
      have hlen' : (l' ++ [M.gb U']).length ≤ l.length + 10 := by simp only [List.length_append, List.length_singleton]; omega
      have HL := Lib.hid hL
      clear hL
      go_wp2
      go_roundw
      case rel => exact ⟨U' / 128, _, by go_num, by have := HU2.out; omega, hown', (hbel.alloc (by omega) _).trans hbel', hlen', HE2⟩
      case measure => simp [intOf]; omega
    · go_wp2_with (at_builtin; refine wpList_append_rb rfl _ _ rfl base _ l' rfl (hown.alloc _) _ _ _ _ _ [M.lb U'] rfl (RB.one _ (enc_last (by omega))) ?b3 ?b4 ?_)
      case b3 => have := HB.out; omega
      case b4 => have := hbel.size; simp; omega
      intro v' w' hown' hbel'
      have hsz := hbel.size
      have hE := HE.out
      rw [M.enc_small (by omega)] at hE
      have HE2 := Lib.hid hE
      clear hE HE
      go_wp2
      go_ret
      exact ⟨_, rfl, by rw [← HE2.out]; exact hown', (hbel.alloc (by omega) _).trans hbel'⟩

set_option maxRecDepth 100000 in
set_option maxHeartbeats 400000 in
theorem putInt_any (A : Option Addr) (m c : Nat) (l : List UInt8) (lo hi : Nat) (n : Int) (w : World) (h : RB w lo hi A m c l) (hhi : hi ≤ w.heap.size) (h1 : -9223372036854775808 ≤ n) (h2 : n ≤ 9223372036854775807) (hb : m ≤ 140737488355000) :
    Calls Tryz.prog 86 #[.slice A m c, .int .i64 n] w fun e w' => ∃ v, e = .returned v ∧ OB w' w.heap.size v (l ++ M.enc (M.zig n)) ∧ Below w.heap.size w w' := by
  have HL := Lib.hid h.len
  go_enter Tryz.func86, Tryz.ntmps86
  go_wp2_with fail
  refine (copy_any A m c l lo hi _ w h hhi (by omega) (by omega)).mono ?_
  rintro e w1 ⟨v1, rfl, ho1, hb1⟩
  go_wp2_with fail
  refine (appendInt_any w.heap.size v1 l n w1 ho1 hb1.size h1 h2 (by rw [HL.out]; omega)).mono ?_
  rintro e w2 ⟨v2, rfl, ho2, hb2⟩
  go_wp2_with fail
  go_ret
  exact ⟨_, rfl, ho2, hb1.trans hb2⟩

set_option maxRecDepth 100000 in
set_option maxHeartbeats 400000 in
theorem putText_any (A : Option Addr) (m c : Nat) (l : List UInt8) (lo hi : Nat) (s : ByteArray) (w : World) (h : RB w lo hi A m c l) (hhi : hi ≤ w.heap.size) (hb : m + s.size ≤ 140737488355000) :
    Calls Tryz.prog 87 #[.slice A m c, .string s] w fun e w' => ∃ v, e = .returned v ∧ OB w' w.heap.size v (l ++ (M.enc (M.zig (s.data.toList.length : Int)) ++ s.data.toList)) ∧ Below w.heap.size w w' := by
  have HL := Lib.hid h.len
  have hs : s.data.toList.length = s.size := Array.length_toList
  rw [hs]
  have HS := Lib.hid hs
  clear hs
  have hz := (M.enc_len (M.zig (s.size : Int)) (M.zig_lt _ (by omega) (by omega))).2
  have HZ := Lib.hid hz
  clear hz
  go_enter Tryz.func87, Tryz.ntmps87
  go_wp2_with fail
  refine (copy_any A m c l lo hi _ w h hhi (by omega) (by omega)).mono ?_
  rintro e w1 ⟨v1, rfl, ho1, hb1⟩
  go_wp2_with fail
  refine (appendInt_any w.heap.size v1 l _ w1 ho1 hb1.size (by omega) (by omega) (by rw [HL.out]; omega)).mono ?_
  rintro e w2 ⟨v2, rfl, ho2, hb2⟩
  go_wp2_with (at_builtin; refine wpList_append_str rfl _ _ rfl w.heap.size _ _ rfl ho2 s rfl ?d2 ?d3 ?_)
  case d2 => rw [List.length_append, HL.out]; have := HZ.out; omega
  case d3 => exact (hb1.trans hb2).size
  intro v3 w3 hown3 hb3
  go_wp2
  go_ret
  exact ⟨_, rfl, hown3, (hb1.trans hb2).trans hb3⟩

end Go.Proofs.YtkodmhopollnpaaGreat
