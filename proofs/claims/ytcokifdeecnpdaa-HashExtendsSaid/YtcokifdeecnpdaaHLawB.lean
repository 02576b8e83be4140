/-
  Layer 4: the laws HashByte, HashExtends.
-/
import Derived.Test.YtcokifdeecnpdaaHCodD
import Derived.Deep.RegionHeld3
import Derived.ProofKit
import Derived.OpenShut
namespace Go.Proofs.Ytcokifdeecnpdaa
open Go.RowKit

theorem below_drew' {a : Nat} {w w1 : World} (h : Below w.drew.heap.size w.drew w1) (hb : a ≤ w.heap.size) : Below a w w1 := (show Below a w w.drew from ⟨rfl, rfl, rfl, Nat.le_refl _, fun _ _ => rfl⟩).trans (h.mono hb)
theorem u8_of {a : Int} (h : (Lit.int .u8 a).wf = true) : ∃ x : UInt8, a = (x.toNat : Int) := by
  have h2 := bounds_u8 h
  exact ⟨UInt8.ofNat a.toNat, by rw [UInt8.toNat_ofNat']; omega⟩
theorem OB.block {w : World} {base : Nat} {v : Value} {l : List UInt8} (h : OB w base v l) (h0 : 0 < l.length) : ∃ g cap, v = .slice (some ⟨g, 0, none⟩) l.length cap ∧ base ≤ g ∧ l.length ≤ cap ∧ cap ≤ maxLen := by
  rcases h.2 with ⟨_, h2⟩ | ⟨g, cap, cur, rfl, hg, _, h3, h4, _⟩
  · omega
  · exact ⟨g, cap, rfl, hg, h3, h4⟩
theorem OB.set {w : World} {base g cap k : Nat} {l : List UInt8} (h : OB w base (.slice (some ⟨g, 0, none⟩) l.length cap) l) (x : UInt8) : OB (w.setCell ⟨g, k, none⟩ (.int .u8 (x.toNat : Int))) base (.slice (some ⟨g, 0, none⟩) l.length cap) (l.set k x) := by
  have h1 := (World.ownsRow.stored h k (.int .u8 (x.toNat : Int))).1
  unfold OB
  rw [List.length_set, List.map_set]
  exact h1

set_option maxHeartbeats 1000000 in
set_option maxRecDepth 100000 in
theorem hashByteW {A : Option Addr} {n c lo hi : Nat} {l : List UInt8} (k : Int) (x : UInt8) (w : World) (hr : RB w lo hi A n c l) (hhi : hi ≤ w.heap.size) :
    Calls Try.prog 7 #[.slice A n c, .int .i64 k, .int .u8 (x.toNat : Int)] w fun e w' => e = .returned (.bool true) ∧ Below w.heap.size w w' := by
  have hm := hr.most
  have hc := hr.cap
  unfold maxLen at hm
  by_cases h : 500 < n ∨ k < 0 ∨ n ≤ k
  · rcases (show 500 < n ∨ (n ≤ 500 ∧ k < 0) ∨ (n ≤ 500 ∧ 0 ≤ k ∧ n ≤ k) by omega) with h1 | ⟨h0, h1⟩ | ⟨h0, h1, h2⟩
    all_goals
      clear h
      go_enter Try.func7, Try.ntmps7
      go_wp2_with fail
      refine (works_any _).mono ?_
      rintro e w1 ⟨rfl, hb⟩
      go_wp2_with fail
      go_ret
      exact ⟨rfl, hb⟩
  · obtain ⟨k, rfl⟩ := Int.eq_ofNat_of_zero_le (show 0 ≤ k by omega)
    have hk : k < n := by omega
    have h5 : n ≤ 500 := by omega
    clear h
    go_enter Try.func7, Try.ntmps7
    go_wp2_with (at_builtin; refine wpList_append_rb rfl _ _ rfl w.heap.size _ [] rfl (OB.lit0 w) lo hi A n c l rfl ?d1 ?d2 ?d3 ?_)
    case d1 => exact hr.alloc hhi _
    case d2 => simp; omega
    case d3 => simp
    intro v2 w2 hown2 hb2
    have hl := hr.len
    obtain ⟨g, cap, rfl, hg, hcap, hcm⟩ := hown2.block (by omega)
    have hfr := World.ownsRow.frozenAt hown2 k
    have hkl : k < l.length := by omega
    obtain ⟨u, hce⟩ : ∃ u : Value, w2.cell? ⟨g, k, none⟩ = some u := ⟨_, (World.ownsRow.cellAt hown2 k (by omega)).trans (by rw [List.getElem?_map, List.getElem?_eq_getElem hkl]; rfl)⟩
    have hset := hown2.set (k := k) x
    obtain ⟨A3, n3, c3, he3, hr3⟩ := hset.form
    have hb3 : Below w.heap.size w (w2.setCell ⟨g, k, none⟩ (.int .u8 (x.toNat : Int))) := (((Below.refl _ _).alloc (Nat.le_refl _) _).trans hb2).setCell hg _
    obtain ⟨w3, hw3⟩ : ∃ w3, w3 = w2.setCell ⟨g, k, none⟩ (.int .u8 (x.toNat : Int)) := ⟨_, rfl⟩
    rw [← hw3] at hr3 hb3
    have hr4 := hr.kept (Kept.of_below hb3 hhi)
    obtain ⟨b, off, rfl, hlo, hbb, hcc⟩ := hr4.at_ (by omega)
    obtain ⟨y, hy⟩ : ∃ y, y = l[k] := ⟨_, rfl⟩
    have hc1 : w3.cell? ⟨b, off + k, none⟩ = some (.int .u8 (y.toNat : Int)) := (hcc k hk).trans (by rw [List.getD, List.getElem?_eq_getElem hkl, Option.getD_some, hy])
    have hset2 := M.crc_set l k x hkl
    rw [← hy] at hset2
    injection he3 with e1 e2 e3
    subst e1 e2 e3
    have HC := Lib.hid hset2
    have hr3' : RB w3 w.heap.size w3.heap.size (some ⟨g, 0, none⟩) n cap (l.set k x) := by rw [← hl]; exact hr3
    have HR3 := Lib.hid hr3'
    have HR4 := Lib.hid hr4
    have HB3 := Lib.hid hb3
    have HL := Lib.hid hl
    have HW := Lib.hid hw3
    have hbw : b < w3.heap.size := Nat.lt_of_lt_of_le hbb (Nat.le_trans hhi hb3.size)
    clear hset2 hy hkl hcc hr4 hr3 hr3' hr hset hown2 hb3 hl hb2
    unfold maxLen at hcm
    obtain ⟨L, hL⟩ : ∃ L, L = l.length := ⟨_, rfl⟩
    obtain rfl : L = n := by rw [hL, HL.out]
    rw [← hL] at hcap ⊢
    clear hL
    go_wp2_with fail
    rw [← hw3]
    clear hw3 hce hfr
    obtain ⟨C, hC⟩ : ∃ C : Int, C = (M.crc l : Int) := ⟨_, rfl⟩
    obtain ⟨D, hD⟩ : ∃ D : Int, D = (M.crc (l.set k x) : Int) := ⟨_, rfl⟩
    have hCD : C = D ↔ y = x := by rw [hC, hD, ← HC.out]; exact Int.ofNat_inj
    have H1 := Lib.hid hC
    have H2 := Lib.hid hD
    clear hC hD
    have i0 : (0 : Int) ≤ (k : Int) := by omega
    have i1 : (k : Int) < (L : Int) := by omega
    by_cases hyx : y = x
    · subst hyx
      obtain rfl : C = D := hCD.2 rfl
      clear hCD
      go_region_held3 (fun W => W.cell? ⟨b, off + k, none⟩ = some (.int .u8 (y.toNat : Int)))
        (first | exact hc1 | exact (hb8.cell (p := ⟨b, off + k, none⟩) hbw).trans hc1)
        (first
          | (go_at_call 12; ((with_reducible refine (crc_any (HR4.out.drew)).mono ?_)); rintro e w' ⟨rfl, rfl⟩; rw [← H1.out])
          | (go_at_call 12; ((with_reducible refine (crc_any (HR3.out.drew)).mono ?_)); rintro e w' ⟨rfl, rfl⟩; rw [← H2.out])
          | (go_at_call 9; refine (works_any _).mono ?_; rintro e w5 ⟨rfl, hb8⟩))
      go_wp2_with fail
      go_ret
      exact ⟨rfl, HB3.out.trans (below_drew' hb8 HB3.out.size)⟩
    · have hne : C ≠ D := fun e => hyx (hCD.1 e)
      have e1 : (C == D) = false := by rw [beq_eq_false_iff_ne]; exact hne
      obtain ⟨Y, hY⟩ : ∃ Y : Int, Y = (y.toNat : Int) := ⟨_, rfl⟩
      obtain ⟨X, hX⟩ : ∃ X : Int, X = (x.toNat : Int) := ⟨_, rfl⟩
      have e2 : (Y == X) = false := by
        rw [beq_eq_false_iff_ne, hX, hY]; intro e; exact hyx (UInt8.toNat_inj.1 (Int.ofNat_inj.1 e))
      rw [← hY] at hc1
      rw [← hX]
      clear hCD hne hX hY hyx
      go_region_held3 (fun W => W.cell? ⟨b, off + k, none⟩ = some (.int .u8 Y))
        (first | exact hc1 | exact (hb8.cell (p := ⟨b, off + k, none⟩) hbw).trans hc1)
        (first
          | (go_at_call 12; ((with_reducible refine (crc_any (HR4.out.drew)).mono ?_)); rintro e w' ⟨rfl, rfl⟩; rw [← H1.out])
          | (go_at_call 12; ((with_reducible refine (crc_any (HR3.out.drew)).mono ?_)); rintro e w' ⟨rfl, rfl⟩; rw [← H2.out])
          | (go_at_call 9; refine (works_any _).mono ?_; rintro e w5 ⟨rfl, hb8⟩))
      go_wp2_with fail
      go_ret
      exact ⟨rfl, HB3.out.trans (below_drew' hb8 HB3.out.size)⟩
theorem hashByteI {A : Option Addr} {n c lo hi : Nat} {l : List UInt8} (k a : Int) (ha : (Lit.int .u8 a).wf = true) (w : World) (hr : RB w lo hi A n c l) (hhi : hi ≤ w.heap.size) :
    Calls Try.prog 7 #[.slice A n c, .int .i64 k, .int .u8 a] w fun e w' => e = .returned (.bool true) ∧ Below w.heap.size w w' := by
  obtain ⟨x, rfl⟩ := u8_of ha
  exact hashByteW k x w hr hhi
end Go.Proofs.Ytcokifdeecnpdaa
