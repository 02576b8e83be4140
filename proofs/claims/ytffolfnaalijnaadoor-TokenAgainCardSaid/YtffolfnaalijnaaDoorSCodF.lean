/-
  Layer 7: the code's scanner: signs.
-/
import Derived.Test.YtffolfnaalijnaaDoorSCodE
import Derived.Test.YtffolfnaalijnaaDoorSCodC
import Derived.BigRegion
namespace Go.Proofs.YtffolfnaalijnaaDoor
set_option linter.unusedVariables false
open Go.RowKit

theorem box_one {w : World} {g h i : Nat} {s : ByteArray} (k : Sc w g h s i) :
    Sc (w.alloc (.cells #[.int .i64 0, .int .i64 0, .string ⟨#[]⟩, .int .i64 0] 30)) g h s i ∧
    (w.alloc (.cells #[.int .i64 0, .int .i64 0, .string ⟨#[]⟩, .int .i64 0] 30)).heap[w.heap.size]? = some (.cells #[.int .i64 0, .int .i64 0, .string ⟨#[]⟩, .int .i64 0] 30 (0, 0)) ∧
    w.grownBy (w.alloc (.cells #[.int .i64 0, .int .i64 0, .string ⟨#[]⟩, .int .i64 0] 30)) (some g) ∧
    (w.alloc (.cells #[.int .i64 0, .int .i64 0, .string ⟨#[]⟩, .int .i64 0] 30)).heap.size = w.heap.size + 1 :=
  ⟨k.alloc _, al1_heap _ _, World.grownBy_alloc _ _ _, by simp⟩

theorem sgnC_tab : ∀ n : Nat, n < 128 → decide (0 ≤ Lib.indexByte (⟨#[61, 33, 60, 62]⟩ : ByteArray).data.toList n.toUInt8) = (decide (n = 61) || decide (n = 33) || decide (n = 60) || decide (n = 62)) := by decide +kernel
theorem sign_lt {c : Nat} (h : Z.cls c = 5) : c < 128 := by
  unfold Z.cls at h
  split at h
  · omega
  split at h
  · omega
  split at h
  · omega
  split at h
  · omega
  split at h
  · rename_i h5
    unfold Z.isSign Z.signs at h5
    simp at h5
    omega
  · omega
/-- The signs that an equals sign may follow. -/
def eqSign (c : Nat) : Bool := decide (c = 61) || decide (c = 33) || decide (c = 60) || decide (c = 62)
theorem sgn_cons (c : UInt8) (r : List UInt8) : Z.sgn (c :: r) = if Z.peek r = 61 ∧ eqSign c.toNat = true then .ok 5 (c :: r.take 1) 0 2 else if c.toNat = 33 then .err 3 else .ok 5 [c] 0 1 := by
  have e : ∀ n : Nat, n < 256 → (c = UInt8.ofNat n ↔ c.toNat = n) := fun n hn => by
    constructor
    · intro h; rw [h]; simp; omega
    · intro h; rw [← h]; simp
  have h1 := e 61 (by decide); have h2 := e 33 (by decide); have h3 := e 60 (by decide); have h4 := e 62 (by decide)
  have hq : (eqSign c.toNat = true) ↔ (c = 61 ∨ c = 33 ∨ c = 60 ∨ c = 62) := by
    show _ ↔ (c = UInt8.ofNat 61 ∨ c = UInt8.ofNat 33 ∨ c = UInt8.ofNat 60 ∨ c = UInt8.ofNat 62)
    rw [h1, h2, h3, h4]
    unfold eqSign
    simp [or_assoc]
  have h33 : (c.toNat = 33) ↔ (c = 33) := h2.symm
  simp only [hq, h33]
  rfl

theorem contains_any (c : Nat) (w : World) (hc : c < 128) :
    Calls Tryd.prog 53 #[.string ⟨#[61, 33, 60, 62]⟩, .int .i32 (c : Int)] w fun e w' => e = .returned (.bool (eqSign c)) ∧ w' = w :=
  (Tryd.strings_ContainsRune_ascii _ (c : Int) w (by omega) (by omega)).mono fun _ _ h => ⟨h.1.trans (by rw [Int.toNat_natCast, sgnC_tab c hc]; rfl), h.2⟩

set_option maxRecDepth 100000 in
set_option maxHeartbeats 4000000 in
theorem sign_any {w : World} {g h i : Nat} {s : ByteArray} (k : Sc w g h s i) (h5 : Z.clsL (left s i) = 5) :
    Calls Tryd.prog 38 #[.pointer (some ⟨g, 0, none⟩)] w (TEnds g h s (Z.sgn (left s i)) i w) := by
  have HK := Lib.hid k
  have hlt := k.lt
  have hlh := k.lth
  have hil : i < s.size := by
    refine Nat.lt_of_not_le fun hge => ?_
    rw [left_nil hge] at h5; exact absurd h5 (by decide)
  obtain ⟨R, hR⟩ : ∃ R, R = Z.sgn (left s i) := ⟨_, rfl⟩
  rw [← hR]
  have hpk := peek_at hil
  rw [left_cons hil, sgn_cons] at hR
  have hc5 : Z.cls s[i].toNat = 5 := by rw [left_cons hil] at h5; exact h5
  have hc128 := sign_lt hc5
  obtain ⟨u, hu⟩ : ∃ u, u = s[i] := ⟨_, rfl⟩
  rw [← hu] at hR hpk hc128
  obtain ⟨c, hc⟩ : ∃ c, c = u.toNat := ⟨_, rfl⟩
  rw [← hc] at hR hpk hc128
  have HR := Lib.hid hR
  have HPK := Lib.hid hpk
  have HU := Lib.hid hu
  have HC := Lib.hid hc
  clear k hR h5 hpk hc5 hu hc
  go_enter Tryd.func38, Tryd.ntmps38
  obtain ⟨hk0, hrow0, hg0, hs0⟩ := box_one HK.out
  obtain ⟨c0, c1, c2, f1⟩ := hk0.cells
  have HK0 := Lib.hid hk0; have HROW0 := Lib.hid hrow0; have HG0 := Lib.hid hg0
  clear hk0 hrow0 hg0
  go_wp2_with fail
  refine (take_any HK0.out).mono ?_
  rintro e w1 ⟨rfl, k1, hg1⟩
  rw [Nat.min_eq_left hil] at k1
  rw [HPK.out]
  have hrow1 := (hg1.block _ (by rw [hs0]; omega) (by simp; omega)).trans HROW0.out
  have HK1 := Lib.hid k1
  have HG1 := Lib.hid (HG0.out.trans hg1)
  have HROW1 := Lib.hid hrow1
  clear k1 hg1 hrow1 c0 c1 c2 f1 hs0 HK0 HROW0 HG0
  go_wp2_with fail
  obtain ⟨q, hq⟩ : ∃ q, q = Z.peek (left s (i + 1)) := ⟨_, rfl⟩
  have hq0 : 0 ≤ q → i + 1 < s.size := fun hh => lt_of_peek (by rw [← hq]; exact hh)
  have HQ := Lib.hid hq
  rw [← hq] at HR
  refine (peek_any HK1.out).mono ?_
  rintro e w2 ⟨rfl, n2, rfl⟩
  rw [← HQ.out]
  have HK2 := Lib.hid (HK1.out.drewN n2)
  have HG2 := Lib.hid (HG1.out.trans (grown7_drewN w1 n2 (some g)))
  have HROW2 : Hid ((w1.drewN n2).heap[w.heap.size]? = some (.cells #[.int .i64 0, .int .i64 0, .string ⟨#[]⟩, .int .i64 0] 30 (0, 0))) := Lib.hid HROW1.out
  clear HK1 HG1 HROW1 hq
  generalize w1.drewN n2 = w2 at *
  by_cases hA : q = 61 ∧ eqSign c = true
  · obtain ⟨rfl, hA2⟩ := hA
    have hi1 := hq0 (by decide)
    have HR2 : Hid (R = .ok 5 (u :: (left s (i + 1)).take 1) 0 2) := Lib.hid (by rw [HR.out, if_pos ⟨rfl, hA2⟩])
    have HA2 := Lib.hid hA2
    clear hA2 HR hq0
    go_wp2_with fail
    refine (contains_any c w2 hc128).mono ?_
    rintro e w3 ⟨rfl, rfl⟩
    rw [HA2.out]
    go_wp2_with fail
    refine (take_any HK2.out).mono ?_
    rintro e w4 ⟨rfl, k4, hg4⟩
    rw [Nat.min_eq_left hi1] at k4
    have hrow4 := (hg4.block _ (row_lt7 HROW2.out) (by simp; omega)).trans HROW2.out
    have HK4 := Lib.hid k4
    have HG4 := Lib.hid (HG2.out.trans hg4)
    have HROW4 := Lib.hid hrow4
    obtain ⟨c0, c1, c2, f1⟩ := k4.cells
    obtain ⟨⟨r0, r1, r2, r3⟩, t0, t1, t2, t3⟩ := row4_cells hrow4
    clear k4 hg4 hrow4 HK2 HG2 HROW2
    go_wp2_with fail
    go_region
    go_wp2_with fail
    (try simp only [Exit.inBlock, Exit.then])
    refine bodyPost_ret (results_tok Tryd.results38 _ _ w.heap.size _ (0, 0) _ rfl rfl (put4_row (show w4.drew.heap[w.heap.size]? = _ from HROW4.out) _ _ _ _) (by kernel_rfl)) rfl ?_
    refine TEnds.yes (r := w.heap.size) (w0 := w4.drew) HR2.out ?_ rfl (HG4.out.trans (grown7_drewN w4 1 _)) (Nat.le_refl _) (HK4.out.drewN 1) rfl hlt hlh
    show s.extract i (i + 1 + 1) = _
    rw [cut_eq, left_cons hil, show i + 1 + 1 - i = 2 by omega, ← HU.out]
    rfl
  · have HNA := Lib.hid hA
    obtain ⟨c0, c1, c2, f1⟩ := HK2.out.cells
    obtain ⟨⟨r0, r1, r2, r3⟩, t0, t1, t2, t3⟩ := row4_cells HROW2.out
    clear hq0
    have one : s.extract i (i + 1) = bS [u] := by
      rw [cut_eq, left_cons hil, show i + 1 - i = 1 by omega, ← HU.out]; rfl
    have HONE := Lib.hid one
    clear one
    by_cases hq61 : q = 61
    · have hes : eqSign c = false := by
        cases he : eqSign c with
        | false => rfl
        | true => exact absurd ⟨hq61, he⟩ hA
      have h33 : c ≠ 33 := fun e => by rw [e] at hes; exact absurd hes (by decide)
      have HR2 : Hid (R = .ok 5 [u] 0 1) := Lib.hid (by rw [HR.out, if_neg HNA.out, if_neg h33])
      have HES := Lib.hid hes
      have e33 : ((c : Int) == 33) = false := by rw [beq_eq_false_iff_ne]; omega
      clear hes HR hA h33
      subst hq61
      go_wp2_with fail
      refine (contains_any c w2 hc128).mono ?_
      rintro e w3 ⟨rfl, rfl⟩
      rw [HES.out]
      go_wp2_with fail
      go_region
      go_wp2_with fail
      (try simp only [Exit.inBlock, Exit.then])
      refine bodyPost_ret (results_tok Tryd.results38 _ _ w.heap.size _ (0, 0) _ rfl rfl (put4_row (show w3.drew.heap[w.heap.size]? = _ from HROW2.out) _ _ _ _) (by kernel_rfl)) rfl ?_
      exact TEnds.yes (r := w.heap.size) (w0 := w3.drew) HR2.out HONE.out rfl (HG2.out.trans (grown7_drewN w3 1 _)) (Nat.le_refl _) (HK2.out.drewN 1) rfl hlt hlh
    · have e61 : (q == 61) = false := by rw [beq_eq_false_iff_ne]; exact hq61
      by_cases h33 : c = 33
      · have HR2 : Hid (R = .err 3) := Lib.hid (by rw [HR.out, if_neg HNA.out, if_pos h33])
        subst h33
        clear HR hA hq61
        go_wp2_with fail
        (try simp only [Exit.inBlock, Exit.then])
        refine bodyPost_ret (results_tok Tryd.results38 _ _ w.heap.size _ (0, 0) _ rfl rfl (put4_row HROW2.out _ _ _ _) (by kernel_rfl)) rfl ?_
        exact TEnds.no (r := w.heap.size) HR2.out (by decide) HG2.out (Nat.le_refl _) HK2.out rfl hlt hlh
      · have HR2 : Hid (R = .ok 5 [u] 0 1) := Lib.hid (by rw [HR.out, if_neg HNA.out, if_neg h33])
        have e33 : ((c : Int) == 33) = false := by rw [beq_eq_false_iff_ne]; omega
        clear HR hA hq61 h33
        go_wp2_with fail
        go_region
        go_wp2_with fail
        (try simp only [Exit.inBlock, Exit.then])
        refine bodyPost_ret (results_tok Tryd.results38 _ _ w.heap.size _ (0, 0) _ rfl rfl (put4_row (show w2.drew.heap[w.heap.size]? = _ from HROW2.out) _ _ _ _) (by kernel_rfl)) rfl ?_
        exact TEnds.yes (r := w.heap.size) (w0 := w2.drew) HR2.out HONE.out rfl (HG2.out.trans (grown7_drewN w2 1 _)) (Nat.le_refl _) (HK2.out.drewN 1) rfl hlt hlh
end Go.Proofs.YtffolfnaalijnaaDoor
