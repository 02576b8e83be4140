/-
  Layer 2: the code's Get.
-/
import Derived.Test.YtdkggnciamfcmaaGreatDoorVCodH
import Derived.Test.YtdkggnciamfcmaaGreatDoorVal7
namespace Go.Proofs.YtdkggnciamfcmaaGreatDoor
set_option linter.unusedVariables false
open Go.RowKit
open M (V)

theorem cmpNaN_any (a : ByteArray) (w : World) :
    Calls Tryz.prog 130 #[.string a] w fun e w' => e = .returned (.bool false) ∧ w = w' := by
  go_enter Tryz.func130, Tryz.ntmps130
  go_wp2_with fail
  go_ret
  exact ⟨rfl, rfl⟩
theorem slNaN_any (a : ByteArray) (w : World) :
    Calls Tryz.prog 116 #[.string a] w fun e w' => e = .returned (.bool false) ∧ w = w' := by
  go_enter Tryz.func116, Tryz.ntmps116
  go_wp2_with fail
  go_ret
  exact ⟨rfl, rfl⟩
theorem cmpLess_any (a b : ByteArray) (w : World) :
    Calls Tryz.prog 115 #[.string a, .string b] w fun e w' => e = .returned (.bool (Go.Op.bytesLess a.toList b.toList)) ∧ w = w' := by
  go_enter Tryz.func115, Tryz.ntmps115
  go_wp2_with fail
  refine (cmpNaN_any _ _).mono ?_
  rintro e w' ⟨rfl, rfl⟩
  go_wp2_with fail
  go_ret
  exact ⟨rfl, rfl⟩

def Placed (ks : List ByteArray) (key : ByteArray) (B : Nat) (w : World) (e : Ending) (w' : World) : Prop := ∃ (i : Nat) (f : Bool), e = .returned (.tuple #[.int .i64 (i : Int), .bool f]) ∧ i ≤ ks.length ∧
  (∀ q, q < i → Go.Op.bytesLess (ks.getD q ByteArray.empty).toList key.toList = true) ∧ (∀ q, i ≤ q → q < ks.length → Go.Op.bytesLess (ks.getD q ByteArray.empty).toList key.toList = false) ∧
  (f = true ↔ i < ks.length ∧ ks.getD i ByteArray.empty = key) ∧ Below B w w'

set_option maxRecDepth 100000 in
set_option maxHeartbeats 2000000 in
theorem search_any {A : Option Addr} {n c lo hi : Nat} {ks : List ByteArray} {w : World} (h : KS w lo hi A n c ks) (hhi : hi ≤ w.heap.size) (hr : M.Rise ks) (key : ByteArray) :
    Calls Tryz.prog 98 #[.slice A n c, .string key] w (Placed ks key w.heap.size w) := by
  have hcap := h.cap
  have hmost := h.most
  have HL := Lib.hid h.len
  have HK := Lib.hid h
  have HR := Lib.hid hr
  clear h hr
  go_enter Tryz.func98, Tryz.ntmps98
  go_wp2_with fail
  go_loopw [7, 8] (fun x y wr => ∃ (i j : Nat), x = .int .i64 (i : Int) ∧ y = .int .i64 (j : Int) ∧ i ≤ j ∧ j ≤ n ∧ Hid (∀ q, q < i → Go.Op.bytesLess (ks.getD q ByteArray.empty).toList key.toList = true) ∧
      Hid (∀ q, j ≤ q → q < n → Go.Op.bytesLess (ks.getD q ByteArray.empty).toList key.toList = false) ∧ Below w.heap.size w wr) (fun x y _ => (intOf y).toNat - (intOf x).toNat)
  case atStart => exact ⟨0, n, rfl, rfl, by omega, by omega, Lib.hid (fun q h => absurd h (by omega)), Lib.hid (fun q h1 h2 => absurd h1 (by omega)), Below.refl _ _⟩
  case round =>
    obtain ⟨i, j, rfl, rfl, hij, hjn, HA, HB, hb⟩ := hrel
    by_cases hlt : i < j
    · obtain ⟨m, hm⟩ : ∃ m, m = (i + j) / 2 := ⟨_, rfl⟩
      have hm1 : i ≤ m ∧ m < j ∧ 2 * m ≤ i + j ∧ i + j ≤ 2 * m + 1 := by omega
      have hmid : ((i : Int) + (j : Int)) / 2 = (m : Int) := by omega
      obtain ⟨b, off, rfl, c0⟩ := HK.out.item hb hhi (j := m) (by omega)
      generalize hx : ks.getD m ByteArray.empty = x at *
      have HX := Lib.hid hx; have HMID := Lib.hid hm
      clear hx hm
      go_wp2_with fail
      refine (cmpLess_any _ _ _).mono ?_
      rintro e w' ⟨rfl, rfl⟩
      cases hq : Go.Op.bytesLess x.toList key.toList with
      | true =>
        have HQ := Lib.hid hq
        clear hq
        go_wp2_with fail
        refine ⟨⟨m + 1, j, by go_num, rfl, by omega, by omega, Lib.hid (fun q h => M.rise_below HR.out (j := m) (by omega) (by rw [HL.out]; omega) (by rw [HX.out]; exact HQ.out)), HB, hb⟩, by simp [intOf]; omega⟩
      | false =>
        have HQ := Lib.hid hq
        clear hq
        go_wp2_with fail
        refine ⟨⟨i, m, rfl, by go_num, by omega, by omega, HA, Lib.hid (fun q h1 h2 => M.rise_above HR.out (i := m) h1 (by rw [HL.out]; omega) (by rw [HX.out]; exact HQ.out)), hb⟩, by simp [intOf]; omega⟩
    · obtain rfl : i = j := by omega
      by_cases hin : i < n
      · obtain ⟨b, off, rfl, c0⟩ := HK.out.item hb hhi hin
        generalize hx : ks.getD i ByteArray.empty = x at *
        have HX := Lib.hid hx
        clear hx
        by_cases hq : x = key
        · subst hq
          go_wp2_with fail
          go_ret2
          exact ⟨i, true, rfl, by rw [HL.out]; omega, HA.out, fun q h1 h2 => HB.out q h1 (by rw [HL.out] at h2; exact h2), ⟨fun _ => ⟨by rw [HL.out]; exact hin, HX.out⟩, fun _ => rfl⟩, hb⟩
        · have hs2 : x.toList ≠ key.toList := fun h => hq (M.toList_inj h)
          have hb2 : (x.toList == key.toList) = false := by rw [beq_eq_false_iff_ne]; exact hs2
          have HQ := Lib.hid hq
          clear hq hs2
          go_wp2_with fail
          refine (slNaN_any _ _).mono ?_
          rintro e w' ⟨rfl, rfl⟩
          go_wp2_with fail
          go_ret2
          exact ⟨i, false, rfl, by rw [HL.out]; omega, HA.out, fun q h1 h2 => HB.out q h1 (by rw [HL.out] at h2; exact h2), ⟨(fun h => by cases h), fun h => absurd (by rw [← HX.out]; exact h.2) HQ.out⟩, hb⟩
      · go_wp2_with fail
        go_ret2
        exact ⟨i, false, rfl, by rw [HL.out]; omega, HA.out, fun q h1 h2 => HB.out q h1 (by rw [HL.out] at h2; exact h2), ⟨(fun h => by cases h), fun h => absurd h.1 (by rw [HL.out]; exact hin)⟩, hb⟩

theorem placed_at {ks : List ByteArray} {its : List V} {key : ByteArray} {i : Nat} (hl : ks.length = its.length) (h : ∀ q, q < i → Go.Op.bytesLess (ks.getD q ByteArray.empty).toList key.toList = true) (hi : i < ks.length) (he : ks.getD i ByteArray.empty = key) :
    M.lookup key ks its = some (its.getD i default) :=
  M.lookup_at hi (by omega) he fun q hq e => M.bl_ne (h q hq) (by rw [e])
theorem placed_none {ks : List ByteArray} {its : List V} {key : ByteArray} {i : Nat} (h : ∀ q, q < i → Go.Op.bytesLess (ks.getD q ByteArray.empty).toList key.toList = true) (hr : M.Rise ks) (hn : ¬ (i < ks.length ∧ ks.getD i ByteArray.empty = key))
    (h2 : ∀ q, i ≤ q → q < ks.length → Go.Op.bytesLess (ks.getD q ByteArray.empty).toList key.toList = false) : M.lookup key ks its = none := by
  refine M.lookup_none fun q h1 _ e => ?_
  rcases Nat.lt_or_ge q i with h3 | h3
  · exact M.bl_ne (h q h3) (by rw [e])
  · rcases Nat.lt_or_ge i q with h4 | h4
    · have := M.rise_lt hr h4 h1
      rw [e, h2 i (Nat.le_refl _) (by omega)] at this
      cases this
    · obtain rfl : i = q := by omega
      exact hn ⟨h1, e⟩

/-- What Get returns. -/
def NewG (B : Nat) (r : Option V) (w : World) (e : Ending) (w' : World) : Prop :=
  (∀ x, r = some x → ∃ v, e = .returned (.tuple #[v, .bool true]) ∧ VX w' B w'.heap.size v x) ∧ (r = none → e = .returned (.tuple #[.agg #[.int .i64 0, .int .i64 0, .string ByteArray.empty, .slice none 0 0, .slice none 0 0], .bool false])) ∧ Below B w w'

end Go.Proofs.YtdkggnciamfcmaaGreatDoor
