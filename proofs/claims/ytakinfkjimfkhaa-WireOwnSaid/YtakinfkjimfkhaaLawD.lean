/-
  Layer 1: the law WireOwn.
-/
import Derived.Test.YtakinfkjimfkhaaLawB
namespace Go.Proofs.Ytakinfkjimfkhaa
open Go.RowKit

/-- A nil Reader, or one that Open did not return. -/
def NoRd (w : World) (p : Option Addr) : Prop := p = none ∨ ∃ g, p = some ⟨g, 0, none⟩ ∧ w.cell? ⟨g, 2, none⟩ = some (.bool false)

set_option maxHeartbeats 400000 in
theorem noErr {w : World} {p : Option Addr} (h : NoRd w p) :
    Calls Try.prog 24 #[.pointer p] w fun e w' => e = .returned (.int .i64 1) ∧ w = w' := by
  rcases h with rfl | ⟨g, rfl, hc⟩
  all_goals
    go_enter Try.func24, Try.ntmps24
    go_wp2
    go_ret
    exact ⟨rfl, rfl⟩
theorem NoRd.hide {w : World} {p : Option Addr} (h : NoRd w p) : Hid (NoRd w p) := h

set_option maxHeartbeats 400000 in
theorem noFail {w : World} {p : Option Addr} (x : Int) (h : NoRd w p) :
    Calls Try.prog 26 #[.pointer p, .int .i64 x] w fun e w' => e = .returned (.tuple #[]) ∧ w = w' := by
  have H := h.hide
  clear h
  go_enter Try.func26, Try.ntmps26
  go_wp2_with (go_at_call 24; refine (noErr H.out).mono ?_; rintro e w' ⟨rfl, rfl⟩)
  go_end0
  exact ⟨rfl, rfl⟩
set_option maxHeartbeats 400000 in
theorem noEnd {w : World} {p : Option Addr} (h : NoRd w p) :
    Calls Try.prog 27 #[.pointer p] w fun e w' => e = .returned (.int .i64 1) ∧ w = w' := by
  have H := h.hide
  clear h
  go_enter Try.func27, Try.ntmps27
  go_wp2_with (go_at_call 24; refine (noErr H.out).mono ?_; rintro e w' ⟨rfl, rfl⟩)
  go_ret
  exact ⟨rfl, rfl⟩
set_option maxHeartbeats 400000 in
theorem noInt {w : World} {p : Option Addr} (x y : Int) (h : NoRd w p) :
    Calls Try.prog 21 #[.pointer p, .int .i64 x, .int .i64 y] w fun e w' => e = .returned (.int .i64 0) ∧ w = w' := by
  have H := h.hide
  clear h
  go_enter Try.func21, Try.ntmps21
  go_wp2_with (go_at_call 24; refine (noErr H.out).mono ?_; rintro e w' ⟨rfl, rfl⟩)
  go_ret
  exact ⟨rfl, rfl⟩
set_option maxHeartbeats 400000 in
theorem noBool {w : World} {p : Option Addr} (h : NoRd w p) :
    Calls Try.prog 23 #[.pointer p] w fun e w' => e = .returned (.bool false) ∧ w = w' := by
  have H := h.hide
  clear h
  go_enter Try.func23, Try.ntmps23
  go_wp2_with (go_at_call 24; refine (noErr H.out).mono ?_; rintro e w' ⟨rfl, rfl⟩)
  go_ret
  exact ⟨rfl, rfl⟩
set_option maxHeartbeats 400000 in
theorem noLeft {w : World} {p : Option Addr} (h : NoRd w p) :
    Calls Try.prog 25 #[.pointer p] w fun e w' => e = .returned (.int .i64 0) ∧ w = w' := by
  have H := h.hide
  clear h
  go_enter Try.func25, Try.ntmps25
  go_wp2_with (go_at_call 24; refine (noErr H.out).mono ?_; rintro e w' ⟨rfl, rfl⟩)
  go_ret
  exact ⟨rfl, rfl⟩
set_option maxHeartbeats 400000 in
theorem noText {w : World} {p : Option Addr} (y : Int) (h : NoRd w p) :
    Calls Try.prog 22 #[.pointer p, .int .i64 y] w fun e w' => e = .returned (.string ⟨#[]⟩) ∧ w = w' := by
  have H := h.hide
  clear h
  go_enter Try.func22, Try.ntmps22
  go_wp2_with (first
    | (go_at_call 21; refine (noInt _ _ H.out).mono ?_; rintro e w' ⟨rfl, rfl⟩)
    | (go_at_call 24; refine (noErr H.out).mono ?_; rintro e w' ⟨rfl, rfl⟩))
  go_ret
  exact ⟨rfl, rfl⟩

set_option maxHeartbeats 4000000 in
set_option maxRecDepth 100000 in
theorem ownW (A : Option Addr) (n c : Nat) (l : List UInt8) (x : Int) (w : World) (h : RB w 0 w.heap.size A n c l) (h1 : -9223372036854775808 ≤ x) (h2 : x ≤ 9223372036854775807) :
    Calls Try.prog 9 #[.slice A n c, .int .i64 x] w fun e w' => e = .returned (.bool true) ∧ Below w.heap.size w w' := by
  by_cases hn : 100 < n
  · go_enter Try.func9, Try.ntmps9
    go_wp2_with fail
    refine (works_any _).mono ?_
    rintro e w1 ⟨rfl, hb1⟩
    go_wp2_with fail
    go_ret
    exact ⟨rfl, hb1⟩
  · have hL := h.len
    have HL := Lib.hid hL
    clear hL
    go_enter Try.func9, Try.ntmps9
    go_wp2_with (at_builtin; refine wpList_append_rb rfl _ _ rfl w.heap.size _ [] rfl (OB.lit0 w) 0 w.heap.size A n c l rfl (h.alloc (Nat.le_refl _) _) ?c1 ?c2 ?_)
    case c1 => simp; omega
    case c2 => simp
    intro v1 w1 ho1 hb1
    have hB1 : Below w.heap.size w w1 := ((Below.refl _ _).alloc (Nat.le_refl _) _).trans hb1
    have hr1 : RB w1 0 w.heap.size A n c l := h.kept (Kept.of_below hB1 (Nat.le_refl _))
    have ho1' : OB w1 w.heap.size v1 l := ho1
    obtain ⟨hlen1, hown1⟩ := ho1
    have hlenl : l.length = n := HL.out
    obtain ⟨A1, n1, c1, rfl, hv1⟩ := OB.form ho1'
    have hn1 : n1 ≤ 100 := by rw [← hv1.len]; omega
    have HO := Lib.hid hown1
    have HLL := Lib.hid hlenl
    have HV := Lib.hid hv1
    clear ho1' hlen1 hown1 hb1 h hlenl
    go_wp2_with fail
    refine (putInt_any _ _ _ _ _ _ x _ HV.out (Nat.le_refl _) h1 h2 (by omega)).mono ?_
    rintro e w2 ⟨v2, rfl, ho2, hb2⟩
    have hr2 : RB w2 0 w.heap.size A n c l := hr1.kept (Kept.of_below hb2 hB1.size)
    have hv2 : RB w2 w.heap.size w1.heap.size A1 n1 c1 l := HV.out.kept (Kept.of_below hb2 (Nat.le_refl _))
    have hB2 := b_step hB1 hb2
    go_wp2_with fail
    refine (openX _ _ _ _ _ _ _ hv2 hb2.size (by omega)).mono ?_
    rintro e w3 ⟨g, rfl, hR3, hb3⟩
    have hr3 : RB w3 0 w.heap.size A n c l := hr2.kept (Kept.of_below hb3 hB2.size)
    have ho3 := ho2.below hb3 (Nat.le_refl _)
    have hB3 := b_step hB2 hb3
    have hge := hR3.ge
    have hs2 := hb2.size
    have hs1 := hB1.size
    have hk13 : Kept 0 w1.heap.size w1 w3 := fun b h1 h2 => (hb3.block b (by omega)).trans (hb2.block b h2)
    clear hr1 hr2 ho2 hB1 hB2 hb2 hb3 hv2
    obtain ⟨L2, hL2⟩ : ∃ L, L = l ++ M.enc (M.zig x) := ⟨_, rfl⟩
    rw [← hL2] at ho3
    have HL2 := Lib.hid hL2
    clear hL2
    obtain ⟨b1, hb1⟩ : ∃ b1, 0 < n1 → A1 = some ⟨b1, 0, none⟩ ∧ w.heap.size ≤ b1 ∧ b1 < w1.heap.size ∧ ∃ cur, w3.heap[b1]? = some (.cells cur 5 (0, 0)) ∧ n1 ≤ cur.size := by
      rcases HO.out with ⟨e, _⟩ | ⟨gg, cap, cur, e, e2, e3, e4, e5, e6, _⟩
      · injection e with e1 e2 e3
        exact ⟨0, fun h0 => absurd h0 (by omega)⟩
      · injection e with e1 e8 e9
        exact ⟨gg, fun _ => ⟨e1, e2, heap_lt e3, cur, (hk13 gg (Nat.zero_le _) (heap_lt e3)).trans e3, by omega⟩⟩
    have HB1 := Lib.hid hb1
    have H1 := Lib.hid h1
    have H2 := Lib.hid h2
    clear hb1 hk13 h1 h2
    have hR3' : ∃ lo, w1.heap.size ≤ lo ∧ RdX w3 lo g ⟨l, 0⟩ := ⟨_, hs2, hR3⟩
    have hcur : Hid (0 < n1 → ∃ cur, w3.heap[b1]? = some (.cells cur 5 (0, 0)) ∧ n1 ≤ cur.size) := Lib.hid fun h0 => (HB1.out h0).2.2.2
    clear hR3
    go_wp2_with fail
    go_loopw [27] (fun i wr => ∃ k : Nat, i = .int .i64 k ∧ k ≤ n1 ∧ OB wr w1.heap.size v2 L2 ∧ (∃ lo, w1.heap.size ≤ lo ∧ RdX wr lo g ⟨l, 0⟩) ∧ RB wr 0 w.heap.size A n c l ∧ Below w.heap.size w wr ∧
      Hid (0 < n1 → ∃ cur, wr.heap[b1]? = some (.cells cur 5 (0, 0)) ∧ n1 ≤ cur.size)) (fun i _ => n1 - (intOf i).toNat)
    case atStart => exact ⟨0, rfl, by omega, ho3, hR3', hr3, hB3, hcur⟩
    case round =>
      clear ho3 hR3' hr3 hB3 hcur
      obtain ⟨k, rfl, hk, hO, hRr, hr, hB, HC⟩ := hrel
      by_cases hlt : k < n1
      · obtain ⟨rfl, e2, e3, _⟩ := HB1.out (by omega)
        obtain ⟨cur, e4, e5⟩ := HC.out (by omega)
        obtain ⟨u, hu⟩ : ∃ u, cur[k]? = some u := ⟨_, Array.getElem?_eq_getElem (by omega)⟩
        have cc : wr.cell? ⟨b1, k, none⟩ = some u := by rw [heap_cell e4]; exact hu
        clear hu
        have cf : wr.frozen? ⟨b1, k, none⟩ = false := heap_free e4
        have HC2 : Hid (0 < n1 → ∃ cur, (wr.setCell ⟨b1, k, none⟩ (.int .u8 255)).heap[b1]? = some (.cells cur 5 (0, 0)) ∧ n1 ≤ cur.size) := Lib.hid fun _ => ⟨_, heap_set e4 _, by simpa using e5⟩
        have hO2 : OB (wr.setCell ⟨b1, k, none⟩ (.int .u8 255)) w1.heap.size v2 L2 := ownsRow_setCell_below hO e3 _
        obtain ⟨lo, hlo, hRr⟩ := hRr
        have hR2 : ∃ lo, w1.heap.size ≤ lo ∧ RdX (wr.setCell ⟨b1, k, none⟩ (.int .u8 255)) lo g ⟨l, 0⟩ := ⟨lo, hlo, hRr.kept fun b h1 h2 => Below.heap_setCell wr ⟨b1, k, none⟩ _ b (by show b ≠ b1; omega)⟩
        have hr2 : RB (wr.setCell ⟨b1, k, none⟩ (.int .u8 255)) 0 w.heap.size A n c l := hr.setCell (.inr e2) _
        have hB2 : Below w.heap.size w (wr.setCell ⟨b1, k, none⟩ (.int .u8 255)) := hB.setCell e2 _
        clear e4 hO hRr hr hB
        go_wp2_with fail
        go_roundw
        case rel => exact ⟨k + 1, by go_num, by omega, hO2, hR2, hr2, hB2, HC2⟩
        case measure => simp [intOf]; omega
      · obtain ⟨lo, hlo, hRr⟩ := hRr
        have q1 := hRr.ge
        have q2 := hRr.lt
        go_wp2_with fail
        refine (noFail _ (.inl rfl)).mono ?_
        rintro e w' ⟨rfl, rfl⟩
        obtain ⟨W, hW⟩ : ∃ W, W = wr.alloc (.cells #[.slice none 0 0, .int .i64 0, .bool false] 48) := ⟨_, rfl⟩
        have z1 : NoRd W none := .inl rfl
        have z2 : NoRd W (some ⟨wr.heap.size, 0, none⟩) := .inr ⟨_, rfl, by rw [hW, World.cell?_alloc_at _ _ _ _ rfl]; rfl⟩
        have hRW : RdX W lo g ⟨l, 0⟩ := by rw [hW]; exact hRr.alloc _
        have hOW : OB W w1.heap.size v2 L2 := by rw [hW]; exact hO.alloc _
        have hBW : Below w.heap.size w W := by rw [hW]; exact b_alloc hB _
        have hrW : RB W 0 w.heap.size A n c l := by rw [hW]; exact hr.alloc hB.size _
        have Z1 := Lib.hid z1
        have Z2 := Lib.hid z2
        clear z1 z2 hRr hO hB hr HC
        rw [← hW]
        clear hW
        go_wp2_with fail
        refine (noFail _ Z2.out).mono ?_
        rintro e w' ⟨rfl, rfl⟩
        go_wp2_with fail
        refine (noErr Z1.out).mono ?_
        rintro e w' ⟨rfl, rfl⟩
        go_wp2_with fail
        refine (noErr Z2.out).mono ?_
        rintro e w' ⟨rfl, rfl⟩
        go_wp2_with fail
        refine (noEnd Z1.out).mono ?_
        rintro e w' ⟨rfl, rfl⟩
        go_wp2_with fail
        refine (noEnd Z2.out).mono ?_
        rintro e w' ⟨rfl, rfl⟩
        go_wp2_with fail
        refine (noInt _ _ Z1.out).mono ?_
        rintro e w' ⟨rfl, rfl⟩
        go_wp2_with fail
        refine (noText _ Z2.out).mono ?_
        rintro e w' ⟨rfl, rfl⟩
        go_wp2_with fail
        refine (noBool Z1.out).mono ?_
        rintro e w' ⟨rfl, rfl⟩
        go_wp2_with fail
        refine (noLeft Z2.out).mono ?_
        rintro e w' ⟨rfl, rfl⟩
        go_wp2_with fail
        refine (refPutInt_any _ _ _ _ _ _ x _ hrW hBW.size H1.out H2.out (by omega)).mono ?_
        rintro e w4 ⟨v4, rfl, ho4, hb4⟩
        have hO4 := hOW.below hb4 (Nat.le_refl _)
        have hR4 := hRW.below hb4 hRW.lt
        have hr4 : RB w4 0 w.heap.size A n c l := hrW.kept (Kept.of_below hb4 hBW.size)
        have hB4 := b_step hBW hb4
        obtain ⟨A2, n2, c2, rfl, hv2⟩ := hO4.form
        obtain ⟨A4, n4, c4, rfl, hv4⟩ := ho4.form
        clear ho4 hO4 hOW hRW hrW hBW hb4
        go_wp2_with fail
        refine (equalX hv2 hv4).mono ?_
        rintro e w5 ⟨rfl, hb5⟩
        rw [decide_eq_true HL2.out]
        have hR5 := hR4.below (hb5 (g + 1)) (by omega)
        have hr5 : RB w5 0 w.heap.size A n c l := hr4.kept (Kept.of_below (hb5 _) (Nat.le_refl _))
        have hB5 := hB4.trans (hb5 _)
        clear hv2 hv4 hR4 hr4 hB4 hb5
        go_wp2_with fail
        refine (intX _ _ hR5).mono ?_
        rintro e w6 ⟨rfl, _, hg6⟩
        have hr6 : RB w6 0 w.heap.size A n c l := hr5.kept (Kept.of_only hg6 hB5.size (by omega))
        have hB6 := b_only hB5 hg6 (by omega)
        clear hR5 hr5 hB5 hg6
        go_wp2_with fail
        refine (rOpenX _ _ _ _ _ _ _ hr6 hB6.size (by omega)).mono ?_
        rintro e w7 ⟨g7, rfl, hR7, hb7⟩
        have hB7 := b_step hB6 hb7
        have q7 := hR7.ge
        have q8 := hB6.size
        go_wp2_with fail
        refine (rIntX _ _ hR7).mono ?_
        rintro e w8 ⟨rfl, _, hg8⟩
        have hB8 := b_only hB7 hg8 (by omega)
        obtain ⟨V, hV⟩ : ∃ V, V = ((M.St.mk l 0).int (-9223372036854775808) 9223372036854775807).1 := ⟨_, rfl⟩
        rw [← hV]
        clear hV hr6 hB6 hR7 hb7 hB7 hg8
        go_wp2_with fail
        refine (works_any _).mono ?_
        rintro e w9 ⟨rfl, hb9⟩
        go_wp2_with fail
        go_ret
        exact ⟨rfl, b_step hB8 hb9⟩
end Go.Proofs.Ytakinfkjimfkhaa
