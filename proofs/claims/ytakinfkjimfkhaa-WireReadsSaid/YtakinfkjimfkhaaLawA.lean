/-
  Layer 1: the law WirePuts.
-/
import Derived.Test.YtakinfkjimfkhaaWorks
import Derived.OpenShut
namespace Go.Proofs.Ytakinfkjimfkhaa
open Go.RowKit

/-- A slice of bytes that came in reads as a list. -/
theorem rb_row {w : World} {a : Option Addr} {len cap : Nat} {zs : List Int}
    (h : (a = none ∧ len = 0 ∧ cap = 0 ∧ zs = []) ∨
      ∃ x, a = some x ∧ len ≤ cap ∧ cap ≤ maxLen ∧ zs.length = cap ∧ (∀ i, i < zs.length → w.cell? (x.add i) = some (.int .u8 (zs.getD i 0))) ∧ ∀ n ∈ zs, (Lit.int .u8 n).wf = true) :
    ∃ l : List UInt8, RB w 0 w.heap.size a len cap l := by
  rcases h with ⟨rfl, rfl, rfl, rfl⟩ | ⟨x, rfl, hl, hm, hz, hc, hw⟩
  · exact ⟨[], RB.nil_ _ _ _⟩
  · refine ⟨(zs.take len).map fun n => UInt8.ofNat n.toNat, by rw [List.length_map, List.length_take]; omega, hl, hm, (fun e => by cases e), fun h0 => ?_⟩
    obtain ⟨b, off, spot⟩ := x
    have h00 := hc 0 (by omega)
    have hs : spot = none := by simpa [Addr.add] using World.cell?_spot h00
    subst hs
    have hlt : b < w.heap.size := by
      rw [Addr.add_lit] at h00
      rcases Nat.lt_or_ge b w.heap.size with h | h
      · exact h
      · simp [World.cell?, Array.getElem?_eq_none h] at h00
    refine ⟨b, off, rfl, Nat.zero_le _, hlt, fun j hj => ?_⟩
    have hj2 : j < zs.length := by omega
    have hcj := hc j hj2
    rw [Addr.add_lit] at hcj
    rw [hcj]
    have hwf := Go.bounds_u8 (hw zs[j] (List.getElem_mem hj2))
    simp only [List.getD, List.getElem?_map, List.getElem?_take, if_pos hj, List.getElem?_eq_getElem hj2, Option.map_some, Option.getD_some]
    rw [M.toNat_ofNat_lt (by omega)]
    congr 2
    omega

set_option maxHeartbeats 2000000 in
set_option maxRecDepth 100000 in
theorem putsW (A : Option Addr) (n c : Nat) (l : List UInt8) (x : Int) (s : ByteArray) (y : Bool) (w : World) (h : RB w 0 w.heap.size A n c l) (h1 : -9223372036854775808 ≤ x) (h2 : x ≤ 9223372036854775807) (hs : s.size ≤ maxLen) :
    Calls Try.prog 3 #[.slice A n c, .int .i64 x, .string s, .bool y] w fun e w' => e = .returned (.bool true) ∧ Below w.heap.size w w' := by
  unfold maxLen at hs
  by_cases hb : 100 < n ∨ 300 < s.size
  · rcases (show 100 < n ∨ (n ≤ 100 ∧ 300 < s.size) by omega) with hn | ⟨hn, hs3⟩
    all_goals
      clear hb
      go_enter Try.func3, Try.ntmps3
      go_wp2_with fail
      refine (works_any _).mono ?_
      rintro e w1 ⟨rfl, hb1⟩
      go_wp2_with fail
      go_ret
      exact ⟨rfl, hb1⟩
  · have hn : n ≤ 100 := by omega
    have hs3 : s.size ≤ 300 := by omega
    clear hb hs
    go_enter Try.func3, Try.ntmps3
    go_wp2_with fail
    refine (putInt_any A n c l _ _ x _ h (Nat.le_refl _) h1 h2 (by omega)).mono ?_
    rintro e w1 ⟨v1, rfl, ho1, hb1⟩
    have hr1 : RB w1 0 w.heap.size A n c l := h.kept (Kept.of_below hb1 (Nat.le_refl _))
    go_wp2_with fail
    refine (refPutInt_any A n c l _ _ x _ hr1 hb1.size h1 h2 (by omega)).mono ?_
    rintro e w2 ⟨v2, rfl, ho2, hb2⟩
    have ho12 := ho1.below hb2 (Nat.le_refl _)
    have hr2 : RB w2 0 w.heap.size A n c l := hr1.kept (Kept.of_below hb2 hb1.size)
    obtain ⟨A1, n1, c1, rfl, hv1⟩ := ho12.form
    obtain ⟨A2, n2, c2, rfl, hv2⟩ := ho2.form
    have hB2 := b_step hb1 hb2
    clear ho1 ho12 ho2 hr1 hb1 hb2
    go_wp2_with fail
    refine (equalX hv1 hv2).mono ?_
    rintro e w3 ⟨rfl, hb3⟩
    rw [decide_eq_true rfl]
    have hr3 : RB w3 0 w.heap.size A n c l := hr2.kept (Kept.of_below (hb3 _) (Nat.le_refl _))
    have hB3 := hB2.trans (hb3 _)
    clear hv1 hv2 hr2 hB2 hb3
    go_wp2_with fail
    refine (putText_any A n c l _ _ s _ hr3 hB3.size (by omega)).mono ?_
    rintro e w4 ⟨v4, rfl, ho4, hb4⟩
    have hr4 : RB w4 0 w.heap.size A n c l := hr3.kept (Kept.of_below hb4 hB3.size)
    have hB4 := b_step hB3 hb4
    go_wp2_with fail
    refine (refPutText_any A n c l _ _ s _ hr4 hB4.size (by omega)).mono ?_
    rintro e w5 ⟨v5, rfl, ho5, hb5⟩
    have ho45 := ho4.below hb5 (Nat.le_refl _)
    have hr5 : RB w5 0 w.heap.size A n c l := hr4.kept (Kept.of_below hb5 hB4.size)
    obtain ⟨A4, n4, c4, rfl, hv4⟩ := ho45.form
    obtain ⟨A5, n5, c5, rfl, hv5⟩ := ho5.form
    have hB5 := b_step hB4 hb5
    clear ho4 ho45 ho5 hr3 hr4 hB3 hB4 hb4 hb5
    go_wp2_with fail
    refine (equalX hv4 hv5).mono ?_
    rintro e w6 ⟨rfl, hb6⟩
    rw [decide_eq_true rfl]
    have hr6 : RB w6 0 w.heap.size A n c l := hr5.kept (Kept.of_below (hb6 _) (Nat.le_refl _))
    have hB6 := hB5.trans (hb6 _)
    clear hv4 hv5 hr5 hB5 hb6
    go_wp2_with fail
    refine (putBool_any A n c l _ _ y _ hr6 hB6.size (by omega)).mono ?_
    rintro e w7 ⟨v7, rfl, ho7, hb7⟩
    have hr7 : RB w7 0 w.heap.size A n c l := hr6.kept (Kept.of_below hb7 hB6.size)
    have hB7 := b_step hB6 hb7
    go_wp2_with fail
    refine (refPutBool_any A n c l _ _ y _ hr7 hB7.size (by omega)).mono ?_
    rintro e w8 ⟨v8, rfl, ho8, hb8⟩
    have ho78 := ho7.below hb8 (Nat.le_refl _)
    obtain ⟨A7, n7, c7, rfl, hv7⟩ := ho78.form
    obtain ⟨A8, n8, c8, rfl, hv8⟩ := ho8.form
    have hB8 := b_step hB7 hb8
    clear ho7 ho78 ho8 hr6 hr7 hB6 hB7 hb7 hb8
    go_wp2_with fail
    refine (equalX hv7 hv8).mono ?_
    rintro e w9 ⟨rfl, hb9⟩
    rw [decide_eq_true rfl]
    have hB9 := hB8.trans (hb9 _)
    clear hv7 hv8 hB8 hb9
    go_wp2_with fail
    refine (works_any _).mono ?_
    rintro e w10 ⟨rfl, hb10⟩
    go_wp2_with fail
    go_ret
    exact ⟨rfl, b_step hB9 hb10⟩
end Go.Proofs.Ytakinfkjimfkhaa
