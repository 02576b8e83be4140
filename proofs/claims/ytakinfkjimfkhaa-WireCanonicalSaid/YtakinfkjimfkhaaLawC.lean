/-
  Layer 1: the laws WireRound, WireCanonical.
-/
import Derived.Test.YtakinfkjimfkhaaLawB
namespace Go.Proofs.Ytakinfkjimfkhaa
open Go.RowKit

set_option maxHeartbeats 4000000 in
set_option maxRecDepth 100000 in
theorem roundW (x : Int) (s : ByteArray) (y : Bool) (A : Option Addr) (n c : Nat) (l : List UInt8) (w : World) (h : RB w 0 w.heap.size A n c l) (h1 : -9223372036854775808 ≤ x) (h2 : x ≤ 9223372036854775807) (hs : s.size ≤ maxLen) :
    Calls Try.prog 5 #[.int .i64 x, .string s, .bool y, .slice A n c] w fun e w' => e = .returned (.bool true) ∧ Below w.heap.size w w' := by
  unfold maxLen at hs
  by_cases hb : 300 < s.size ∨ 50 < n
  · rcases (show 300 < s.size ∨ (s.size ≤ 300 ∧ 50 < n) by omega) with hn | ⟨hn, hs3⟩
    all_goals
      clear hb
      go_enter Try.func5, Try.ntmps5
      go_wp2_with fail
      refine (works_any _).mono ?_
      rintro e w1 ⟨rfl, hb1⟩
      go_wp2_with fail
      go_ret
      exact ⟨rfl, hb1⟩
  · have hn : n ≤ 50 := by omega
    have hs3 : s.size ≤ 300 := by omega
    clear hb hs
    have hL := h.len
    have HL := Lib.hid hL
    clear hL
    have hsl : s.data.toList.length = s.size := Array.length_toList
    have HSL := Lib.hid hsl
    clear hsl
    go_enter Try.func5, Try.ntmps5
    go_wp2_with fail
    refine (putInt_any _ _ _ [] _ _ x _ (RB.nil_ _ 0 0) (by omega) h1 h2 (by omega)).mono ?_
    rintro e w1 ⟨v1, rfl, ho1, hb1⟩
    obtain ⟨A1, n1, c1, rfl, hv1⟩ := ho1.form
    have hn1 : n1 ≤ 10 := by rw [← hv1.len, nilApp]; exact (M.enc_len _ (M.zig_lt x h1 h2)).2
    have hr1 : RB w1 0 w.heap.size A n c l := h.kept (Kept.of_below hb1 (Nat.le_refl _))
    clear ho1
    go_wp2_with fail
    refine (putText_any _ _ _ _ _ _ s _ hv1 (Nat.le_refl _) (by omega)).mono ?_
    rintro e w2 ⟨v2, rfl, ho2, hb2⟩
    obtain ⟨A2, n2, c2, rfl, hv2⟩ := ho2.form
    have hn2 : n2 ≤ 320 := by
      rw [← hv2.len, nilApp, List.length_append, List.length_append, HSL.out]
      have := (M.enc_len _ (M.zig_lt x h1 h2)).2
      have := (M.enc_len (M.zig (s.size : Int)) (M.zig_lt _ (by omega) (by omega))).2
      omega
    have hr2 : RB w2 0 w.heap.size A n c l := hr1.kept (Kept.of_below hb2 hb1.size)
    have hB2 := b_step hb1 hb2
    clear ho2 hr1 hv1 hb1 hb2
    go_wp2_with fail
    refine (putBool_any _ _ _ _ _ _ y _ hv2 (Nat.le_refl _) (by omega)).mono ?_
    rintro e w3 ⟨v3, rfl, ho3, hb3⟩
    have hr3 : RB w3 0 w.heap.size A n c l := hr2.kept (Kept.of_below hb3 hB2.size)
    have hsz := hB2.size
    have hL3 : (([] ++ M.enc (M.zig x)) ++ (M.enc (M.zig (s.data.toList.length : Int)) ++ s.data.toList) ++ [yb y]).length ≤ 1000 := by
      rw [List.length_append, hv2.len, List.length_singleton]; omega
    obtain ⟨L3, hD3⟩ : ∃ L, L = (([] ++ M.enc (M.zig x)) ++ (M.enc (M.zig (s.data.toList.length : Int)) ++ s.data.toList) ++ [yb y]) := ⟨_, rfl⟩
    rw [← hD3] at ho3 hL3
    have HD3 := Lib.hid hD3
    clear hv2 hr2 hD3
    go_wp2_with (at_builtin; refine wpList_append_rb rfl _ _ rfl w2.heap.size _ _ rfl ho3 0 w.heap.size A n c l rfl hr3 ?c1 ?c2 ?_)
    case c1 => omega
    case c2 => exact hb3.size
    intro v4 w4 ho4 hb4
    obtain ⟨A4, n4, c4, rfl, hv4⟩ := OB.form ho4
    have hB4 := hB2.trans ((hb3.trans hb4).mono hsz)
    have hn4 : n4 ≤ 2000 := by rw [← hv4.len, List.length_append, HL.out]; omega
    clear ho3 ho4 hb3 hb4 hr3 hB2 hL3
    go_wp2_with fail
    refine (openX _ _ _ _ _ _ _ hv4 (Nat.le_refl _) (by omega)).mono ?_
    rintro e w5 ⟨g, rfl, hR5, hb5⟩
    have hge := hR5.ge
    have hB5 := b_step hB4 hb5
    have hs4 := hB4.size
    clear hv4 hB4 hb5
    go_wp2_with fail
    refine (intX x x hR5).mono ?_
    rintro e w6 ⟨rfl, hR6, hg6⟩
    have hB6 := b_only hB5 hg6 (by omega)
    have hI := M.St.int_enc (s := ⟨L3 ++ l, 0⟩) (r := M.enc (M.zig (s.data.toList.length : Int)) ++ (s.data.toList ++ (yb y :: l))) rfl (by rw [HD3.out]; simp) h1 h2 (lo := x) (hi := x) ⟨Int.le_refl _, Int.le_refl _⟩
    rw [hI] at hR6 ⊢
    clear hI hR5 hB5 hg6
    go_wp2_with fail
    refine (textX _ hR6).mono ?_
    rintro e w7 ⟨rfl, hR7, hg7⟩
    have hB7 := b_only hB6 hg7 (by omega)
    have hT := M.St.text_enc (t := s.data.toList) (r := yb y :: l) (y := (s.size : Int)) (by rw [HSL.out]; omega) (by rw [HSL.out]; omega)
    rw [hT] at hR7 ⊢
    rw [strOf_list]
    clear hT hR6 hB6 hg7
    go_wp2_with fail
    refine (boolX hR7).mono ?_
    rintro e w8 ⟨rfl, hR8, hg8⟩
    have hB8 := b_only hB7 hg8 (by omega)
    have hY : (M.St.mk (yb y :: l) 0).bool = (y, ⟨l, 0⟩) := M.St.bool_enc y l
    rw [hY] at hR8 ⊢
    clear hY hR7 hB7 hg8
    go_wp2_with fail
    refine (errX hR8).mono ?_
    rintro e w' ⟨rfl, rfl⟩
    go_wp2_with fail
    refine (leftX hR8).mono ?_
    rintro e w' ⟨rfl, rfl⟩
    rw [show (M.St.mk l 0).l.length = n from HL.out]
    go_wp2_with fail
    refine (works_any _).mono ?_
    rintro e w9 ⟨rfl, hb9⟩
    go_wp2_with fail
    go_ret
    exact ⟨rfl, b_step hB8 hb9⟩

set_option maxHeartbeats 8000000 in
set_option maxRecDepth 100000 in
theorem canonW (A : Option Addr) (n c : Nat) (l : List UInt8) (w : World) (h : RB w 0 w.heap.size A n c l) :
    Calls Try.prog 6 #[.slice A n c] w fun e w' => e = .returned (.bool true) ∧ Below w.heap.size w w' := by
  by_cases hn : 300 < n
  · go_enter Try.func6, Try.ntmps6
    go_wp2_with fail
    refine (works_any _).mono ?_
    rintro e w1 ⟨rfl, hb1⟩
    go_wp2_with fail
    go_ret
    exact ⟨rfl, hb1⟩
  · have hL := h.len
    have hcap := h.cap
    have hmx := h.most
    unfold maxLen at hmx
    go_enter Try.func6, Try.ntmps6
    go_wp2_with fail
    refine (openX _ _ _ _ _ _ _ h (Nat.le_refl _) (by omega)).mono ?_
    rintro e w1 ⟨gx, rfl, hX, hb1⟩
    have hr1 : RB w1 0 w.heap.size A n c l := h.kept (Kept.of_below hb1 (Nat.le_refl _))
    go_wp2_with fail
    refine (openX _ _ _ _ _ _ _ hr1 hb1.size (by omega)).mono ?_
    rintro e w2 ⟨gy, rfl, hY, hb2⟩
    have hr2 : RB w2 0 w.heap.size A n c l := hr1.kept (Kept.of_below hb2 hb1.size)
    have hX2 := hX.below hb2 hX.lt
    have hB2 := b_step hb1 hb2
    go_wp2_with fail
    refine (openX _ _ _ _ _ _ _ hr2 hB2.size (by omega)).mono ?_
    rintro e w3 ⟨gz, rfl, hZ, hb3⟩
    have hr3 : RB w3 0 w.heap.size A n c l := hr2.kept (Kept.of_below hb3 hB2.size)
    have hX3 := hX2.below hb3 hX2.lt
    have hY3 := hY.below hb3 hY.lt
    have hB3 := b_step hB2 hb3
    have q1 := hX.lt
    have q2 := hY.ge
    have q3 := hY.lt
    have q4 := hZ.ge
    have q5 := hX.ge
    have q6 := hB2.size
    clear hX hY hX2 hr1 hr2 hB2 hb1 hb2 hb3
    go_wp2_with fail
    refine (intX _ _ hX3).mono ?_
    rintro e w4 ⟨rfl, hX4, hg4⟩
    have hY4 := hY3.only hg4 (.inl (by omega))
    have hZ4 := hZ.only hg4 (.inl (by omega))
    have hr4 : RB w4 0 w.heap.size A n c l := hr3.kept (Kept.of_only hg4 hB3.size (by omega))
    have hB4 := b_only hB3 hg4 (by omega)
    clear hX3 hY3 hZ hr3 hB3 hg4
    go_wp2_with fail
    refine (textX _ hY4).mono ?_
    rintro e w5 ⟨rfl, hY5, hg5⟩
    have hX5 := hX4.only hg5 (.inr (by omega))
    have hZ5 := hZ4.only hg5 (.inl (by omega))
    have hr5 : RB w5 0 w.heap.size A n c l := hr4.kept (Kept.of_only hg5 hB4.size (by omega))
    have hB5 := b_only hB4 hg5 (by omega)
    clear hX4 hY4 hZ4 hr4 hB4 hg5
    go_wp2_with fail
    refine (boolX hZ5).mono ?_
    rintro e w6 ⟨rfl, hZ6, hg6⟩
    have hX6 := hX5.only hg6 (.inr (by omega))
    have hY6 := hY5.only hg6 (.inr (by omega))
    have hr6 : RB w6 0 w.heap.size A n c l := hr5.kept (Kept.of_only hg6 hB5.size (by omega))
    have hB6 := b_only hB5 hg6 (by omega)
    clear hX5 hY5 hZ5 hr5 hB5 hg6
    obtain ⟨N, tx, hI⟩ : ∃ N t, (M.St.mk l 0).int (-9223372036854775808) 9223372036854775807 = (N, t) := ⟨_, _, rfl⟩
    obtain ⟨U, ty, hT⟩ : ∃ N t, (M.St.mk l 0).text 9223372036854775807 = (N, t) := ⟨_, _, rfl⟩
    obtain ⟨B, tz, hV⟩ : ∃ N t, (M.St.mk l 0).bool = (N, t) := ⟨_, _, rfl⟩
    rw [hI] at hX6 ⊢
    rw [hT] at hY6 ⊢
    rw [hV] at hZ6 ⊢
    have hcx : tx.e = 0 → tx.l.length ≤ n ∧ ([] ++ M.enc (M.zig N) = l.take (n - tx.l.length)) ∧ -9223372036854775808 ≤ N ∧ N ≤ 9223372036854775807 := by
      intro e0
      obtain ⟨a, b, _, d, e⟩ := M.St.int_canon hI e0
      rw [hL] at a b
      exact ⟨a, b, d, e⟩
    have hcy : ty.e = 0 → ty.l.length ≤ n ∧ ([] ++ (M.enc (M.zig ((strOf U).data.toList.length : Int)) ++ (strOf U).data.toList) = l.take (n - ty.l.length)) ∧ (strOf U).size ≤ 300 := by
      intro e0
      obtain ⟨a, b⟩ := M.St.text_canon hT e0
      rw [hL] at a b
      refine ⟨a, b, ?_⟩
      have hu : (strOf U).size = U.length := by simp [strOf, ByteArray.size]
      have h2 := congrArg List.length b
      simp only [List.length_append, List.length_take] at h2
      omega
    have hcz : tz.e = 0 → tz.l.length ≤ n ∧ ([] ++ [yb B] = l.take (n - tz.l.length)) := by
      intro e0
      obtain ⟨a, b⟩ := M.St.bool_canon hV e0
      rw [hL] at a b
      exact ⟨a, b⟩
    clear hI hT hV
    obtain ⟨lx, ex⟩ := tx
    obtain ⟨ly, ey⟩ := ty
    obtain ⟨lz, ez⟩ := tz
    have HX := Lib.hid hcx
    have HY := Lib.hid hcy
    have HZ := Lib.hid hcz
    have HLL := Lib.hid hL
    clear hcx hcy hcz hL
    obtain ⟨S, hS⟩ : ∃ S, S = strOf U := ⟨_, rfl⟩
    rw [← hS] at HY ⊢
    clear hS
    by_cases hhx : ex = 0
    · subst hhx
      obtain ⟨p1, p2, p3, p4⟩ := HX.out rfl
      have P2 := Lib.hid (decide_eq_true p2)
      clear p2 HX
      have p1' : lx.length ≤ n := p1
      clear p1
      go_wp2_with fail
      refine (errX hX6).mono ?_
      rintro e w' ⟨rfl, rfl⟩
      go_wp2_with fail
      refine (putInt_any _ _ _ [] _ _ N _ (RB.nil_ _ 0 0) (by omega) p3 p4 (by omega)).mono ?_
      rintro e w7 ⟨v7, rfl, ho7, hb7⟩
      obtain ⟨A7, n7, c7, rfl, hv7⟩ := ho7.form
      have hX7 := hX6.below hb7 hX6.lt
      have hY7 := hY6.below hb7 hY6.lt
      have hZ7 := hZ6.below hb7 hZ6.lt
      have hr7 : RB w7 0 w.heap.size A n c l := hr6.kept (Kept.of_below hb7 hB6.size)
      have hB7 := b_step hB6 hb7
      clear hX6 hY6 hZ6 hr6 hB6 hb7 ho7
      go_wp2_with fail
      refine (leftX hX7).mono ?_
      rintro e w' ⟨rfl, rfl⟩
      go_wp2_with fail
      refine (equalX hv7 (hr7.front (k := n - lx.length) (by omega))).mono ?_
      rintro e w8 ⟨rfl, hb8⟩
      rw [P2.out]
      have hY8 := hY7.below (hb8 (gy + 1)) (by omega)
      have hZ8 := hZ7.below (hb8 (gz + 1)) (by omega)
      have hr8 : RB w8 0 w.heap.size A n c l := hr7.kept (Kept.of_below (hb8 _) (Nat.le_refl _))
      have hB8 := hB7.trans (hb8 _)
      clear hX7 hY7 hZ7 hr7 hB7 hb8 hv7
      go_wp2_with fail
      by_cases hhy : ey = 0
      · subst hhy
        refine (errX hY8).mono ?_
        rintro e w' ⟨rfl, rfl⟩
        obtain ⟨p1, p2, p3⟩ := HY.out rfl
        have P2 := Lib.hid (decide_eq_true p2)
        clear p2 HY
        have p1' : ly.length ≤ n := p1
        clear p1
        go_wp2_with fail
        refine (putText_any _ _ _ [] _ _ S _ (RB.nil_ _ 0 0) (by omega) (by omega)).mono ?_
        rintro e w9 ⟨v9, rfl, ho9, hb9⟩
        obtain ⟨A9, n9, c9, rfl, hv9⟩ := ho9.form
        have hY9 := hY8.below hb9 hY8.lt
        have hZ9 := hZ8.below hb9 hZ8.lt
        have hr9 : RB w9 0 w.heap.size A n c l := hr8.kept (Kept.of_below hb9 hB8.size)
        have hB9 := b_step hB8 hb9
        clear hY8 hZ8 hr8 hB8 hb9 ho9
        go_wp2_with fail
        refine (leftX hY9).mono ?_
        rintro e w' ⟨rfl, rfl⟩
        go_wp2_with fail
        refine (equalX hv9 (hr9.front (k := n - ly.length) (by omega))).mono ?_
        rintro e w10 ⟨rfl, hb10⟩
        rw [P2.out]
        have hZ10 := hZ9.below (hb10 (gz + 1)) (by omega)
        have hr10 : RB w10 0 w.heap.size A n c l := hr9.kept (Kept.of_below (hb10 _) (Nat.le_refl _))
        have hB10 := hB9.trans (hb10 _)
        clear hY9 hZ9 hr9 hB9 hb10 hv9
        go_wp2_with fail
        by_cases hhz : ez = 0
        · subst hhz
          refine (errX hZ10).mono ?_
          rintro e w' ⟨rfl, rfl⟩
          obtain ⟨p1, p2⟩ := HZ.out rfl
          have P2 := Lib.hid (decide_eq_true p2)
          clear p2
          have p1' : lz.length ≤ n := p1
          clear p1
          go_wp2_with fail
          refine (putBool_any _ _ _ [] _ _ B _ (RB.nil_ _ 0 0) (by omega) (by omega)).mono ?_
          rintro e w11 ⟨v11, rfl, ho11, hb11⟩
          obtain ⟨A11, n11, c11, rfl, hv11⟩ := ho11.form
          have hZ11 := hZ10.below hb11 hZ10.lt
          have hr11 : RB w11 0 w.heap.size A n c l := hr10.kept (Kept.of_below hb11 hB10.size)
          have hB11 := b_step hB10 hb11
          clear hZ10 hr10 hB10 hb11 ho11
          go_wp2_with fail
          refine (leftX hZ11).mono ?_
          rintro e w' ⟨rfl, rfl⟩
          go_wp2_with fail
          refine (equalX hv11 (hr11.front (k := n - lz.length) (by omega))).mono ?_
          rintro e w12 ⟨rfl, hb12⟩
          rw [P2.out]
          have hB12 := hB11.trans (hb12 _)
          clear hZ11 hr11 hB11 hb12 hv11
          go_wp2_with fail
          refine (works_any _).mono ?_
          rintro e w13 ⟨rfl, hb13⟩
          go_wp2_with fail
          go_ret
          exact ⟨rfl, b_step hB12 hb13⟩
        · have hbz : (ez == 0) = false := by rw [beq_eq_false_iff_ne]; exact hhz
          have HHz := Lib.hid hhz
          clear hhz
          refine (errX hZ10).mono ?_
          rintro e w12 ⟨rfl, rfl⟩
          have hB12 := hB10
          clear hZ10 hr10 hB10
          go_wp2_with fail
          refine (works_any _).mono ?_
          rintro e w13 ⟨rfl, hb13⟩
          go_wp2_with fail
          go_ret
          exact ⟨rfl, b_step hB12 hb13⟩
      · have hby : (ey == 0) = false := by rw [beq_eq_false_iff_ne]; exact hhy
        have HHy := Lib.hid hhy
        clear hhy
        refine (errX hY8).mono ?_
        rintro e w10 ⟨rfl, rfl⟩
        have hZ10 := hZ8
        have hr10 := hr8
        have hB10 := hB8
        clear hY8 hZ8 hr8 hB8
        go_wp2_with fail
        by_cases hhz : ez = 0
        · subst hhz
          refine (errX hZ10).mono ?_
          rintro e w' ⟨rfl, rfl⟩
          obtain ⟨p1, p2⟩ := HZ.out rfl
          have P2 := Lib.hid (decide_eq_true p2)
          clear p2
          have p1' : lz.length ≤ n := p1
          clear p1
          go_wp2_with fail
          refine (putBool_any _ _ _ [] _ _ B _ (RB.nil_ _ 0 0) (by omega) (by omega)).mono ?_
          rintro e w11 ⟨v11, rfl, ho11, hb11⟩
          obtain ⟨A11, n11, c11, rfl, hv11⟩ := ho11.form
          have hZ11 := hZ10.below hb11 hZ10.lt
          have hr11 : RB w11 0 w.heap.size A n c l := hr10.kept (Kept.of_below hb11 hB10.size)
          have hB11 := b_step hB10 hb11
          clear hZ10 hr10 hB10 hb11 ho11
          go_wp2_with fail
          refine (leftX hZ11).mono ?_
          rintro e w' ⟨rfl, rfl⟩
          go_wp2_with fail
          refine (equalX hv11 (hr11.front (k := n - lz.length) (by omega))).mono ?_
          rintro e w12 ⟨rfl, hb12⟩
          rw [P2.out]
          have hB12 := hB11.trans (hb12 _)
          clear hZ11 hr11 hB11 hb12 hv11
          go_wp2_with fail
          refine (works_any _).mono ?_
          rintro e w13 ⟨rfl, hb13⟩
          go_wp2_with fail
          go_ret
          exact ⟨rfl, b_step hB12 hb13⟩
        · have hbz : (ez == 0) = false := by rw [beq_eq_false_iff_ne]; exact hhz
          have HHz := Lib.hid hhz
          clear hhz
          refine (errX hZ10).mono ?_
          rintro e w12 ⟨rfl, rfl⟩
          have hB12 := hB10
          clear hZ10 hr10 hB10
          go_wp2_with fail
          refine (works_any _).mono ?_
          rintro e w13 ⟨rfl, hb13⟩
          go_wp2_with fail
          go_ret
          exact ⟨rfl, b_step hB12 hb13⟩
    · have hbx : (ex == 0) = false := by rw [beq_eq_false_iff_ne]; exact hhx
      have HHx := Lib.hid hhx
      clear hhx
      go_wp2_with fail
      refine (errX hX6).mono ?_
      rintro e w8 ⟨rfl, rfl⟩
      have hY8 := hY6
      have hZ8 := hZ6
      have hr8 := hr6
      have hB8 := hB6
      clear hX6 hY6 hZ6 hr6 hB6
      go_wp2_with fail
      by_cases hhy : ey = 0
      · subst hhy
        refine (errX hY8).mono ?_
        rintro e w' ⟨rfl, rfl⟩
        obtain ⟨p1, p2, p3⟩ := HY.out rfl
        have P2 := Lib.hid (decide_eq_true p2)
        clear p2 HY
        have p1' : ly.length ≤ n := p1
        clear p1
        go_wp2_with fail
        refine (putText_any _ _ _ [] _ _ S _ (RB.nil_ _ 0 0) (by omega) (by omega)).mono ?_
        rintro e w9 ⟨v9, rfl, ho9, hb9⟩
        obtain ⟨A9, n9, c9, rfl, hv9⟩ := ho9.form
        have hY9 := hY8.below hb9 hY8.lt
        have hZ9 := hZ8.below hb9 hZ8.lt
        have hr9 : RB w9 0 w.heap.size A n c l := hr8.kept (Kept.of_below hb9 hB8.size)
        have hB9 := b_step hB8 hb9
        clear hY8 hZ8 hr8 hB8 hb9 ho9
        go_wp2_with fail
        refine (leftX hY9).mono ?_
        rintro e w' ⟨rfl, rfl⟩
        go_wp2_with fail
        refine (equalX hv9 (hr9.front (k := n - ly.length) (by omega))).mono ?_
        rintro e w10 ⟨rfl, hb10⟩
        rw [P2.out]
        have hZ10 := hZ9.below (hb10 (gz + 1)) (by omega)
        have hr10 : RB w10 0 w.heap.size A n c l := hr9.kept (Kept.of_below (hb10 _) (Nat.le_refl _))
        have hB10 := hB9.trans (hb10 _)
        clear hY9 hZ9 hr9 hB9 hb10 hv9
        go_wp2_with fail
        by_cases hhz : ez = 0
        · subst hhz
          refine (errX hZ10).mono ?_
          rintro e w' ⟨rfl, rfl⟩
          obtain ⟨p1, p2⟩ := HZ.out rfl
          have P2 := Lib.hid (decide_eq_true p2)
          clear p2
          have p1' : lz.length ≤ n := p1
          clear p1
          go_wp2_with fail
          refine (putBool_any _ _ _ [] _ _ B _ (RB.nil_ _ 0 0) (by omega) (by omega)).mono ?_
          rintro e w11 ⟨v11, rfl, ho11, hb11⟩
          obtain ⟨A11, n11, c11, rfl, hv11⟩ := ho11.form
          have hZ11 := hZ10.below hb11 hZ10.lt
          have hr11 : RB w11 0 w.heap.size A n c l := hr10.kept (Kept.of_below hb11 hB10.size)
          have hB11 := b_step hB10 hb11
          clear hZ10 hr10 hB10 hb11 ho11
          go_wp2_with fail
          refine (leftX hZ11).mono ?_
          rintro e w' ⟨rfl, rfl⟩
          go_wp2_with fail
          refine (equalX hv11 (hr11.front (k := n - lz.length) (by omega))).mono ?_
          rintro e w12 ⟨rfl, hb12⟩
          rw [P2.out]
          have hB12 := hB11.trans (hb12 _)
          clear hZ11 hr11 hB11 hb12 hv11
          go_wp2_with fail
          refine (works_any _).mono ?_
          rintro e w13 ⟨rfl, hb13⟩
          go_wp2_with fail
          go_ret
          exact ⟨rfl, b_step hB12 hb13⟩
        · have hbz : (ez == 0) = false := by rw [beq_eq_false_iff_ne]; exact hhz
          have HHz := Lib.hid hhz
          clear hhz
          refine (errX hZ10).mono ?_
          rintro e w12 ⟨rfl, rfl⟩
          have hB12 := hB10
          clear hZ10 hr10 hB10
          go_wp2_with fail
          refine (works_any _).mono ?_
          rintro e w13 ⟨rfl, hb13⟩
          go_wp2_with fail
          go_ret
          exact ⟨rfl, b_step hB12 hb13⟩
      · have hby : (ey == 0) = false := by rw [beq_eq_false_iff_ne]; exact hhy
        have HHy := Lib.hid hhy
        clear hhy
        refine (errX hY8).mono ?_
        rintro e w10 ⟨rfl, rfl⟩
        have hZ10 := hZ8
        have hr10 := hr8
        have hB10 := hB8
        clear hY8 hZ8 hr8 hB8
        go_wp2_with fail
        by_cases hhz : ez = 0
        · subst hhz
          refine (errX hZ10).mono ?_
          rintro e w' ⟨rfl, rfl⟩
          obtain ⟨p1, p2⟩ := HZ.out rfl
          have P2 := Lib.hid (decide_eq_true p2)
          clear p2
          have p1' : lz.length ≤ n := p1
          clear p1
          go_wp2_with fail
          refine (putBool_any _ _ _ [] _ _ B _ (RB.nil_ _ 0 0) (by omega) (by omega)).mono ?_
          rintro e w11 ⟨v11, rfl, ho11, hb11⟩
          obtain ⟨A11, n11, c11, rfl, hv11⟩ := ho11.form
          have hZ11 := hZ10.below hb11 hZ10.lt
          have hr11 : RB w11 0 w.heap.size A n c l := hr10.kept (Kept.of_below hb11 hB10.size)
          have hB11 := b_step hB10 hb11
          clear hZ10 hr10 hB10 hb11 ho11
          go_wp2_with fail
          refine (leftX hZ11).mono ?_
          rintro e w' ⟨rfl, rfl⟩
          go_wp2_with fail
          refine (equalX hv11 (hr11.front (k := n - lz.length) (by omega))).mono ?_
          rintro e w12 ⟨rfl, hb12⟩
          rw [P2.out]
          have hB12 := hB11.trans (hb12 _)
          clear hZ11 hr11 hB11 hb12 hv11
          go_wp2_with fail
          refine (works_any _).mono ?_
          rintro e w13 ⟨rfl, hb13⟩
          go_wp2_with fail
          go_ret
          exact ⟨rfl, b_step hB12 hb13⟩
        · have hbz : (ez == 0) = false := by rw [beq_eq_false_iff_ne]; exact hhz
          have HHz := Lib.hid hhz
          clear hhz
          refine (errX hZ10).mono ?_
          rintro e w12 ⟨rfl, rfl⟩
          have hB12 := hB10
          clear hZ10 hr10 hB10
          go_wp2_with fail
          refine (works_any _).mono ?_
          rintro e w13 ⟨rfl, hb13⟩
          go_wp2_with fail
          go_ret
          exact ⟨rfl, b_step hB12 hb13⟩
end Go.Proofs.Ytakinfkjimfkhaa
