/-
  The reference's decimal form of an integer (layer 3): workflowref03.Decimal.
-/
import Derived.Test.YthmdacpejhncgaaDoorChecked
import Derived.Lib.ItoaNum
import Derived.Lib.ItoaMem
import Derived.Lib.ItoaLen
import Derived.WalkKit
import Derived.WalkLawsBesides
import Derived.BigQuiet
import Derived.Below
import Derived.Laws.BytesString
import Derived.Laws.BytesArg
import Derived.Lib.Hide
import Derived.Laws.NewBlocks
namespace Go.Proofs.YthmdacpejhncgaaDoor
open Go.RowKit
set_option linter.unusedVariables false

theorem strOf_one (x : Int) : strOfNums [x] = ⟨#[UInt8.ofNat x.toNat]⟩ := by simp [strOfNums]
theorem dec_one (w : World) (x : Int) :
    (convert 32 9 (.slice (some ⟨w.heap.size, 0, none⟩) 1 1)).run Tryd.prog (w.alloc (.cells #[.int .u8 x] 5)) = .ok (.string ⟨#[UInt8.ofNat x.toNat]⟩) (w.alloc (.cells #[.int .u8 x] 5)) := by
  rw [← strOf_one]
  refine run_convert_bytes_arg _ _ _ Tryd.underlying32 Tryd.underlying5 _ 0 1 1 [x] rfl ?_ _ Tryd.underlying9
  intro i hi
  obtain rfl : i = 0 := by omega
  rw [World.cell?_alloc_at (w := w) _ _ _ _ rfl]; rfl

/-- Digits in a string. -/
def dS (u : Nat) : ByteArray := ⟨(Lib.decDigits u).toArray⟩
theorem dS_size (u : Nat) (h : u ≤ 9223372036854775808) : (dS u).size ≤ 20 := by
  have : (Lib.decDigits u).length ≤ 20 := by rw [Lib.decDigits_length]; exact Lib.nDigits_le20 u (by omega)
  unfold dS; simpa [ByteArray.size] using this
theorem dS_small {u : Nat} (h : u < 10) : dS u = ⟨#[UInt8.ofNat (48 + u)]⟩ := by unfold dS; rw [Lib.decDigits_one h]
theorem dS_big {u : Nat} (h : ¬ u < 10) : dS u = dS (u / 10) ++ ⟨#[UInt8.ofNat (48 + u % 10)]⟩ := by
  unfold dS; rw [Lib.decDigits, dif_neg h]
  apply ByteArray.ext; simp

set_option maxRecDepth 100000 in
theorem digits_any (u : Nat) : ∀ w : World, u ≤ 9223372036854775808 →
    Calls Tryd.prog 31 #[.int .i64 (-(u : Int))] w fun e w' => e = .returned (.string (dS u)) ∧ Below w.heap.size w w' := by
  induction u using Nat.strongRecOn with
  | _ u ih =>
    intro w hu
    have hk := dec_one w (48 + (u : Int) % 10)
    have hb : Below w.heap.size w (w.alloc (.cells #[.int .u8 (48 + (u : Int) % 10)] 5)) := (Below.refl _ _).alloc (Nat.le_refl _) _
    have et : (48 + (u : Int) % 10).toNat = 48 + u % 10 := by omega
    rw [et] at hk
    have HB := Lib.hid hb
    clear hb et
    by_cases h10 : u < 10
    · have hS := dS_small h10
      have e1 : u % 10 = u := by omega
      rw [e1, ← hS] at hk
      obtain ⟨n, hn⟩ : ∃ n : Int, n = -(u : Int) := ⟨_, rfl⟩
      have hgt : (-10 : Int) < n := by omega
      rw [← hn]
      clear e1 hS ih
      go_enter Tryd.func31, Tryd.ntmps31
      go_wp2_with fail
      go_ret
      exact ⟨rfl, HB.out⟩
    · have HS := Lib.hid (dS_big h10)
      have hi := ih (u / 10) (by omega) (w.alloc (.cells #[.int .u8 (48 + (u : Int) % 10)] 5)) (by omega)
      have hz := dS_size (u / 10) (by omega)
      obtain ⟨n, hn⟩ : ∃ n : Int, n = -(u : Int) := ⟨_, rfl⟩
      have hgt : ¬ (-10 : Int) < n := by omega
      rw [← hn]
      obtain ⟨D, hD⟩ : ∃ D : ByteArray, D = ⟨#[UInt8.ofNat (48 + u % 10)]⟩ := ⟨_, rfl⟩
      have hd1 : D.size = 1 := by rw [hD]; rfl
      rw [← hD] at hk HS
      obtain ⟨E, hE⟩ : ∃ E, E = dS (u / 10) := ⟨_, rfl⟩
      rw [← hE] at hi HS hz
      have HI := Lib.hid hi
      clear ih hi hD hE
      go_enter Tryd.func31, Tryd.ntmps31
      go_wp2_with fail
      refine (HI.out).mono ?_
      rintro e w1 ⟨rfl, hb1⟩
      go_wp2_with fail
      go_ret
      exact ⟨by rw [HS.out]; rfl, HB.out.trans (hb1.mono (by simp))⟩

theorem dS_cons (u : Nat) : (⟨(45 :: Lib.decDigits u).toArray⟩ : ByteArray) = ⟨#[45]⟩ ++ dS u := by
  unfold dS; apply ByteArray.ext; simp

set_option maxRecDepth 100000 in
theorem decimal_any (n : Int) (w : World) (h0 : -9223372036854775808 ≤ n) (h1 : n ≤ 9223372036854775807) :
    Calls Tryd.prog 24 #[.int .i64 n] w fun e w' => e = .returned (.string ⟨(Lib.itoa n).toArray⟩) ∧ Below w.heap.size w w' := by
  by_cases hn : n < 0
  · obtain ⟨u, hu⟩ : ∃ u : Nat, -(u : Int) = n := ⟨n.natAbs, by omega⟩
    have hd := digits_any u w (by omega)
    have hz := dS_size u (by omega)
    have he : (⟨(Lib.itoa n).toArray⟩ : ByteArray) = ⟨#[45]⟩ ++ dS u := by rw [← hu, Lib.itoa_neg u (by omega), dS_cons]
    rw [hu] at hd
    rw [he]
    obtain ⟨E, hE⟩ : ∃ E, E = dS u := ⟨_, rfl⟩
    rw [← hE] at hd hz ⊢
    have HI := Lib.hid hd
    clear hd hE he hu
    go_enter Tryd.func24, Tryd.ntmps24
    go_wp2_with fail
    refine (HI.out).mono ?_
    rintro e w1 ⟨rfl, hb1⟩
    go_wp2_with fail
    go_ret
    exact ⟨rfl, hb1⟩
  · obtain ⟨u, hu⟩ : ∃ u : Nat, (u : Int) = n := ⟨n.toNat, by omega⟩
    have hd := digits_any u w (by omega)
    have he : (⟨(Lib.itoa n).toArray⟩ : ByteArray) = dS u := by rw [← hu, Lib.itoa_nonneg u]; rfl
    rw [hu] at hd
    rw [he]
    have HI := Lib.hid hd
    clear hd he hu
    go_enter Tryd.func24, Tryd.ntmps24
    go_wp2_with fail
    refine (HI.out).mono ?_
    rintro e w1 ⟨rfl, hb1⟩
    go_wp2_with fail
    go_ret
    exact ⟨rfl, hb1⟩
end Go.Proofs.YthmdacpejhncgaaDoor
