/-
  Layer 2: the code's Get.
-/
import Derived.Test.YtkodmhopollnpaaGreatVCodH
import Derived.Test.YtkodmhopollnpaaGreatVal7
namespace Go.Proofs.YtkodmhopollnpaaGreat
set_option linter.unusedVariables false
open Go.RowKit
open M (V)

theorem cmpNaN_any (a : ByteArray) (w : World) :
    Calls Tryz.prog 92 #[.string a] w fun e w' => e = .returned (.bool false) ∧ w = w' := by
  go_enter Tryz.func92, Tryz.ntmps92
  go_wp2_with fail
  go_ret
  exact ⟨rfl, rfl⟩
theorem slNaN_any (a : ByteArray) (w : World) :
    Calls Tryz.prog 72 #[.string a] w fun e w' => e = .returned (.bool false) ∧ w = w' := by
  go_enter Tryz.func72, Tryz.ntmps72
  go_wp2_with fail
  go_ret
  exact ⟨rfl, rfl⟩
theorem cmpLess_any (a b : ByteArray) (w : World) :
    Calls Tryz.prog 71 #[.string a, .string b] w fun e w' => e = .returned (.bool (Go.Op.bytesLess a.toList b.toList)) ∧ w = w' := by
  go_enter Tryz.func71, Tryz.ntmps71
  go_wp2_with fail
  refine (cmpNaN_any _ _).mono ?_
  rintro e w' ⟨rfl, rfl⟩
  go_wp2_with fail
  go_ret
  exact ⟨rfl, rfl⟩

def Placed (ks : List ByteArray) (key : ByteArray) (B : Nat) (w : World) (e : Ending) (w' : World) : Prop := ∃ (i : Nat) (f : Bool), e = .returned (.tuple #[.int .i64 (i : Int), .bool f]) ∧ i ≤ ks.length ∧
  (∀ q, q < i → Go.Op.bytesLess (ks.getD q ByteArray.empty).toList key.toList = true) ∧ (∀ q, i ≤ q → q < ks.length → Go.Op.bytesLess (ks.getD q ByteArray.empty).toList key.toList = false) ∧
  (f = true ↔ i < ks.length ∧ ks.getD i ByteArray.empty = key) ∧ Below B w w'

set_option maxRecDepth 100000 in
set_option maxHeartbeats 2000000 in
theorem search_any {A : Option Addr} {n c lo hi : Nat} {ks : List ByteArray} {w : World} (h : KS w lo hi A n c ks) (hhi : hi ≤ w.heap.size) (hr : M.Rise ks) (key : ByteArray) :
    Calls Tryz.prog 42 #[.slice A n c, .string key] w (Placed ks key w.heap.size w) := by
  have hcap := h.cap
  have hmost := h.most
  have HL := Lib.hid h.len
  have HK := Lib.hid h
  have HR := Lib.hid hr
  clear h hr
  go_enter Tryz.func42, Tryz.ntmps42
  go_wp2_with fail
  go_loopw [7, 8] (fun x y wr => ∃ (i j : Nat), x = .int .i64 (i : Int) ∧ y = .int .i64 (j : Int) ∧ i ≤ j ∧ j ≤ n ∧ Hid (∀ q, q < i → Go.Op.bytesLess (ks.getD q ByteArray.empty).toList key.toList = true) ∧
      Hid (∀ q, j ≤ q → q < n → Go.Op.bytesLess (ks.getD q ByteArray.empty).toList key.toList = false) ∧ Below w.heap.size w wr) (fun x y _ => (intOf y).toNat - (intOf x).toNat)
  case atStart => exact ⟨0, n, rfl, rfl, by omega, by omega, Lib.hid (fun q h => absurd h (by omega)), Lib.hid (fun q h1 h2 => absurd h1 (by omega)), Below.refl _ _⟩
  case round =>
    obtain ⟨i, j, rfl, rfl, hij, hjn, HA, HB, hb⟩ := hrel
    by_cases hlt : i < j
    · obtain ⟨m, hm⟩ : ∃ m, m = (i + j) / 2 := ⟨_, rfl⟩
      have hm1 : i ≤ m ∧ m < j ∧ 2 * m ≤ i + j ∧ i + j ≤ 2 * m + 1 := by omega
      have hmid : ((i : Int) + (j : Int)) / 2 = (m : Int) := by omega
      obtain ⟨b, off, rfl, c0⟩ := HK.out.item hb hhi (j := m) (by omega)
      generalize hx : ks.getD m ByteArray.empty = x at *
      have HX := Lib.hid hx; have HMID := Lib.hid hm
      clear hx hm
      go_wp2_with fail
      refine (cmpLess_any _ _ _).mono ?_
      rintro e w' ⟨rfl, rfl⟩
      cases hq : Go.Op.bytesLess x.toList key.toList with
      | true =>
        have HQ := Lib.hid hq
        clear hq
        go_wp2_with fail
        refine ⟨⟨m + 1, j, by go_num, rfl, by omega, by omega, Lib.hid (fun q h => M.rise_below HR.out (j := m) (by omega) (by rw [HL.out]; omega) (by rw [HX.out]; exact HQ.out)), HB, hb⟩, by simp [intOf]; omega⟩
      | false =>
        have HQ := Lib.hid hq
        clear hq
        go_wp2_with fail
        refine ⟨⟨i, m, rfl, by go_num, by omega, by omega, HA, Lib.hid (fun q h1 h2 => M.rise_above HR.out (i := m) h1 (by rw [HL.out]; omega) (by rw [HX.out]; exact HQ.out)), hb⟩, by simp [intOf]; omega⟩
    · obtain rfl : i = j := by omega
      by_cases hin : i < n
      · obtain ⟨b, off, rfl, c0⟩ := HK.out.item hb hhi hin
        generalize hx : ks.getD i ByteArray.empty = x at *
        have HX := Lib.hid hx
        clear hx
        by_cases hq : x = key
        · subst hq
          go_wp2_with fail
          go_ret2
          exact ⟨i, true, rfl, by rw [HL.out]; omega, HA.out, fun q h1 h2 => HB.out q h1 (by rw [HL.out] at h2; exact h2), ⟨fun _ => ⟨by rw [HL.out]; exact hin, HX.out⟩, fun _ => rfl⟩, hb⟩
        · have hs2 : x.toList ≠ key.toList := fun h => hq (M.toList_inj h)
          have hb2 : (x.toList == key.toList) = false := by rw [beq_eq_false_iff_ne]; exact hs2
          have HQ := Lib.hid hq
          clear hq hs2
          go_wp2_with fail
          refine (slNaN_any _ _).mono ?_
          rintro e w' ⟨rfl, rfl⟩
          go_wp2_with fail
          go_ret2
          exact ⟨i, false, rfl, by rw [HL.out]; omega, HA.out, fun q h1 h2 => HB.out q h1 (by rw [HL.out] at h2; exact h2), ⟨(fun h => by cases h), fun h => absurd (by rw [← HX.out]; exact h.2) HQ.out⟩, hb⟩
      · go_wp2_with fail
        go_ret2
        exact ⟨i, false, rfl, by rw [HL.out]; omega, HA.out, fun q h1 h2 => HB.out q h1 (by rw [HL.out] at h2; exact h2), ⟨(fun h => by cases h), fun h => absurd h.1 (by rw [HL.out]; exact hin)⟩, hb⟩

theorem placed_at {ks : List ByteArray} {its : List V} {key : ByteArray} {i : Nat} (hl : ks.length = its.length) (h : ∀ q, q < i → Go.Op.bytesLess (ks.getD q ByteArray.empty).toList key.toList = true) (hi : i < ks.length) (he : ks.getD i ByteArray.empty = key) :
    M.lookup key ks its = some (its.getD i default) :=
  M.lookup_at hi (by omega) he fun q hq e => M.bl_ne (h q hq) (by rw [e])
theorem placed_none {ks : List ByteArray} {its : List V} {key : ByteArray} {i : Nat} (h : ∀ q, q < i → Go.Op.bytesLess (ks.getD q ByteArray.empty).toList key.toList = true) (hr : M.Rise ks) (hn : ¬ (i < ks.length ∧ ks.getD i ByteArray.empty = key))
    (h2 : ∀ q, i ≤ q → q < ks.length → Go.Op.bytesLess (ks.getD q ByteArray.empty).toList key.toList = false) : M.lookup key ks its = none := by
  refine M.lookup_none fun q h1 _ e => ?_
  rcases Nat.lt_or_ge q i with h3 | h3
  · exact M.bl_ne (h q h3) (by rw [e])
  · rcases Nat.lt_or_ge i q with h4 | h4
    · have := M.rise_lt hr h4 h1
      rw [e, h2 i (Nat.le_refl _) (by omega)] at this
      cases this
    · obtain rfl : i = q := by omega
      exact hn ⟨h1, e⟩

/-- What Get returns. -/
def NewG (B : Nat) (r : Option V) (w : World) (e : Ending) (w' : World) : Prop :=
  (∀ x, r = some x → ∃ v, e = .returned (.tuple #[v, .bool true]) ∧ VX w' B w'.heap.size v x) ∧ (r = none → e = .returned (.tuple #[.agg #[.int .i64 0, .int .i64 0, .string ByteArray.empty, .slice none 0 0, .slice none 0 0], .bool false])) ∧ Below B w w'

set_option maxRecDepth 100000 in
set_option maxHeartbeats 2000000 in
theorem getX {v : Value} {t : V} {lo hi : Nat} {w : World} (h : VX w lo hi v t) (hhi : hi ≤ w.heap.size) (key : ByteArray) :
    Calls Tryz.prog 20 #[v, .string key] w (NewG w.heap.size (V.get t key) w) := by
  obtain ⟨d, h⟩ := h
  match d, h with
  | 0, h => exact h.elim
  | d + 1, h =>
  have h0 := h
  obtain ⟨A, m, c, B, p, e, rfl, k1, k2, n1, n2, s1, hI, hK⟩ := h
  have H0 := Lib.hid h0
  have hb0 : Below (w.heap.size + 2) ((w.alloc (.cells #[.int .i64 t.k, .int .i64 t.n, .string t.s, .slice A m c, .slice B p e] 31)).alloc (.cells #[.int .i64 0, .int .i64 0, .string ByteArray.empty, .slice none 0 0, .slice none 0 0] 31)) _ := Below.refl _ _
  have hz := two_size hb0
  have HI := Lib.hid hI; have HK := Lib.hid hK
  have HL := Lib.hid hI.len; have HL2 := Lib.hid hK.len
  have hcap := hI.cap
  have hmost := hI.most
  clear hI hK h0
  cases hw : (t.k == 5 && t.wf) with
  | false =>
    have HG : Hid (V.get t key = none) := Lib.hid (by unfold V.get; rw [hw]; simp)
    have HW := Lib.hid hw
    clear hw
    go_enter Tryz.func20, Tryz.ntmps20
    go_wp2_with fail
    refine (isMapX ⟨_, H0.out.later (two_below hb0) hhi⟩ (by omega)).mono ?_
    rintro e w1 ⟨rfl, hb1⟩
    rw [HW.out]
    have hb2 := two_step hb0 hb1
    go_wp2_with fail
    refine (null_any _).mono ?_
    rintro e w2 ⟨rfl, hb3⟩
    have hb4 := two_step hb2 hb3
    obtain ⟨h1, h2⟩ := two_heap hb4 (Nat.le_refl _)
    obtain ⟨b0, b1, b2, b3, b4, f0, f1, f2, f3, f4⟩ := lit5 h2
    have H2 := Lib.hid h2
    clear h1 h2
    go_wp2_with fail
    have hfin := lit_stored H2.out (.int .i64 0) (.int .i64 0) (.string ByteArray.empty) (.slice none 0 0) (.slice none 0 0)
    refine bodyPost_ret (v := .tuple #[.agg #[.int .i64 0, .int .i64 0, .string ByteArray.empty, .slice none 0 0, .slice none 0 0], .bool false]) (results_cell_slot Tryz.results20 _ _ (w.heap.size + 1) 31 _ (0, 0) _ rfl hfin (by kernel_rfl) rfl) rfl ?_
    exact ⟨(fun x h => by rw [HG.out] at h; cases h), fun _ => rfl, stored_below (two_below hb4) (by omega) _ _ _ _ _⟩
  | true =>
    have hGG : V.get t key = M.lookup key t.ks t.its := by unfold V.get; rw [if_pos hw]
    have hkw : t.k = 5 ∧ t.wf = true := by simpa using hw
    obtain ⟨hR, hlen⟩ := M.wf_rise hkw.2 hkw.1
    have HW := Lib.hid hw; have HGG := Lib.hid hGG; have HR := Lib.hid hR; have HLN := Lib.hid hlen
    clear hw hGG hkw hR hlen
    go_enter Tryz.func20, Tryz.ntmps20
    go_wp2_with fail
    refine (isMapX ⟨_, H0.out.later (two_below hb0) hhi⟩ (by omega)).mono ?_
    rintro e w1 ⟨rfl, hb1⟩
    rw [HW.out]
    have hb2 := two_step hb0 hb1
    obtain ⟨⟨b0, b1, b2, b3, b4⟩, g0, g1, g2, g3, g4⟩ := two5 hb2
    have hz2 := two_size hb2
    go_wp2_with fail
    refine (search_any (HK.out.later (two_below hb2) hhi) (by omega) HR.out key).mono ?_
    rintro e w2 ⟨i, f, rfl, hi1, hA, hB, hF, hb3⟩
    have hb4 := two_step hb2 hb3
    have hz4 := two_size hb4
    have HA := Lib.hid hA; have HB := Lib.hid hB; have HF := Lib.hid hF
    clear hA hB hF b0 b1 b2 b3 b4 g0 g1 g2 g3 g4
    cases f with
    | false =>
      have HG : Hid (V.get t key = none) := Lib.hid (by rw [HGG.out]; exact placed_none HA.out HR.out (fun h => by have := HF.out.2 h; cases this) HB.out)
      go_wp2_with fail
      refine (null_any _).mono ?_
      rintro e w3 ⟨rfl, hb5⟩
      have hb6 := two_step hb4 hb5
      obtain ⟨h1, h2⟩ := two_heap hb6 (Nat.le_refl _)
      obtain ⟨b0, b1, b2, b3, b4, f0, f1, f2, f3, f4⟩ := lit5 h2
      have H2 := Lib.hid h2
      clear h1 h2
      go_wp2_with fail
      have hfin := lit_stored H2.out (.int .i64 0) (.int .i64 0) (.string ByteArray.empty) (.slice none 0 0) (.slice none 0 0)
      refine bodyPost_ret (v := .tuple #[.agg #[.int .i64 0, .int .i64 0, .string ByteArray.empty, .slice none 0 0, .slice none 0 0], .bool false]) (results_cell_slot Tryz.results20 _ _ (w.heap.size + 1) 31 _ (0, 0) _ rfl hfin (by kernel_rfl) rfl) rfl ?_
      exact ⟨(fun x h => by rw [HG.out] at h; cases h), fun _ => rfl, stored_below (two_below hb6) (by omega) _ _ _ _ _⟩
    | true =>
      obtain ⟨hi2, hi3⟩ := HF.out.1 rfl
      have HG : Hid (V.get t key = some (t.its.getD i default)) := Lib.hid (by rw [HGG.out]; exact placed_at HLN.out HA.out hi2 hi3)
      have him : i < m := by rw [HLN.out, HL.out] at hi2; exact hi2
      clear hi1 hi2 hi3
      obtain ⟨b, off, kk, ii, ss, x, y, rfl, c0, c1, c2, c3, c4, hv⟩ := HI.out.item (two_below hb4) hhi him
      obtain ⟨⟨b0, b1, b2, b3, b4⟩, g0, g1, g2, g3, g4⟩ := two5 hb4
      generalize t.its.getD i default = q at *
      go_wp2_with fail
      refine (copy_at d _ _ _ _ _ hv (by omega)).mono ?_
      rintro e w3 ⟨v2, rfl, hv2, hb5⟩
      obtain ⟨A2, m2, c2', B2, p2, e2, rfl⟩ := hv2.agg
      have hb6 := two_step hb4 hb5
      obtain ⟨h1, h2⟩ := two_heap hb6 (Nat.le_refl _)
      clear b0 b1 b2 b3 b4 g0 g1 g2 g3 g4 c0 c1 c2 c3 c4
      obtain ⟨b0, b1, b2, b3, b4, f0, f1, f2, f3, f4⟩ := lit5 h2
      have H2 := Lib.hid h2
      clear h1 h2
      go_wp2_with fail
      have hfin := lit_stored H2.out (.int .i64 q.k) (.int .i64 q.n) (.string q.s) (.slice A2 m2 c2') (.slice B2 p2 e2)
      refine bodyPost_ret (v := .tuple #[.agg #[.int .i64 q.k, .int .i64 q.n, .string q.s, .slice A2 m2 c2', .slice B2 p2 e2], .bool true]) (results_cell_slot Tryz.results20 _ _ (w.heap.size + 1) 31 _ (0, 0) _ rfl hfin (by kernel_rfl) rfl) rfl ?_
      refine ⟨fun z hz => ⟨_, rfl, ?_⟩, (fun h => by rw [HG.out] at h; cases h), stored_below (two_below hb6) (by omega) _ _ _ _ _⟩
      rw [HG.out] at hz
      injection hz with hz
      subst hz
      have hx := hv2.kept (show Kept w2.heap.size w3.heap.size w3 (stored w3 (w.heap.size + 1) (.int .i64 q.k) (.int .i64 q.n) (.string q.s) (.slice A2 m2 c2') (.slice B2 p2 e2)) from fun b x1 x2 => stored_other _ _ _ _ _ _ _ _ (by omega))
      exact ⟨d, hx.weak (by omega) (by show _ ≤ (stored _ _ _ _ _ _ _).heap.size; rw [stored_size]; omega)⟩
end Go.Proofs.YtkodmhopollnpaaGreat
