/-
  Layer 7: the code's scanner: one character of a literal.
-/
import Derived.Test.YtffolfnaalijnaaDoorSCodA
import Derived.Test.YtffolfnaalijnaaDoorLibP
import Derived.Laws.Runes
import Derived.WalkMore
import Derived.Laws.Strings3
import Derived.WalkSpells
namespace Go.Proofs.YtffolfnaalijnaaDoor
set_option linter.unusedVariables false
open Go.RowKit

def plainB (r : Int) : Bool := decide (32 ≤ r) && decide (r ≤ 126)
set_option maxHeartbeats 400000 in
theorem isPlain_any (r : Int) (w : World) (h0 : -1 ≤ r) (h1 : r ≤ 255) :
    Calls Tryd.prog 47 #[.int .i32 r] w fun e w' => e = .returned (.bool (plainB r)) ∧ w' = w := by
  by_cases a : (32 : Int) ≤ r
  · by_cases b : r ≤ 126
    · have hp : plainB r = true := by unfold plainB; simp; omega
      rw [hp]; clear hp
      go_enter Tryd.func47, Tryd.ntmps47
      go_wp2
      go_ret
      exact ⟨rfl, rfl⟩
    · have hp : plainB r = false := by unfold plainB; simp; omega
      rw [hp]; clear hp
      go_enter Tryd.func47, Tryd.ntmps47
      go_wp2
      go_ret
      exact ⟨rfl, rfl⟩
  · have hp : plainB r = false := by unfold plainB; simp; omega
    rw [hp]; clear hp
    go_enter Tryd.func47, Tryd.ntmps47
    go_wp2
    go_ret
    exact ⟨rfl, rfl⟩

/-- The kind of error where a literal can't go on. -/
def refE (r : Int) : Int := if r = -1 then 4 else 3
set_option maxHeartbeats 400000 in
theorem refuse_any (r : Int) (w : World) :
    Calls Tryd.prog 62 #[.int .i32 r] w fun e w' => e = .returned (.tuple #[.int .u8 0, .int .i64 (refE r)]) ∧ w' = w := by
  by_cases h : r = -1
  · subst h
    go_enter Tryd.func62, Tryd.ntmps62
    go_wp2
    go_ret2
    exact ⟨rfl, rfl⟩
  · have he : (r == -1) = false := by rw [beq_eq_false_iff_ne]; exact h
    rw [show refE r = 3 from if_neg h]
    go_enter Tryd.func62, Tryd.ntmps62
    go_wp2
    go_ret2
    exact ⟨rfl, rfl⟩

theorem hexS_size : (⟨#[48, 49, 50, 51, 52, 53, 54, 55, 56, 57, 97, 98, 99, 100, 101, 102]⟩ : ByteArray).size = 16 := rfl
set_option maxRecDepth 100000 in
set_option maxHeartbeats 1000000 in
theorem hexRune_no (w : World) :
    Calls Tryd.prog 63 #[.string ⟨#[48, 49, 50, 51, 52, 53, 54, 55, 56, 57, 97, 98, 99, 100, 101, 102]⟩, .int .i32 (-1)] w fun e w' => e = .returned (.int .i64 (-1)) ∧ ∃ n, w' = w.drewN n := by
  have hv : Lib.validRune (-1) = false := by decide
  have HV := Lib.hid hv
  clear hv
  go_enter Tryd.func63, Tryd.ntmps63
  go_wp2_with fail
  refine (Tryd.utf8_ValidRune (-1) w).mono ?_
  rintro e w1 ⟨rfl, rfl⟩
  rw [HV.out]
  go_wp2_with fail
  (try simp only [Exit.inBlock, Exit.then, Exit.noGoto_ret])
  go_ret
  exact ⟨rfl, 0, rfl⟩

theorem enc_two {r : Int} (h0 : 128 ≤ r) (h1 : r ≤ 255) : ∃ E : ByteArray, Utf8.encode r = E ∧ ∃ hs : E.size = 2, 128 ≤ (E[1]'(by omega)).toNat := by
  have hv : Utf8.valid r = true := by unfold Utf8.valid; simp; omega
  have hc : ¬ r.toNat < 128 := by omega
  have h2 : r.toNat < 2048 := by omega
  refine ⟨_, rfl, ?_⟩
  unfold Utf8.encode
  simp only [hv, if_true, hc, if_false, h2]
  refine ⟨rfl, ?_⟩
  show 128 ≤ (UInt8.ofNat (128 + r.toNat % 64)).toNat
  simp; omega
theorem idx_all : ∀ n, n < 128 → Lib.indexByte ((⟨#[50, 51, 52, 53, 54, 55, 56, 57, 97, 98, 99, 100, 101, 102]⟩ : ByteArray).data.toList) (128 + n).toUInt8 = -1 := by decide +kernel
theorem idx_none {c : Nat} (h : 128 ≤ c) (h2 : c < 256) : Lib.indexByte ((⟨#[50, 51, 52, 53, 54, 55, 56, 57, 97, 98, 99, 100, 101, 102]⟩ : ByteArray).data.toList) (c : Int).toNat.toUInt8 = -1 := by
  have := idx_all (c - 128) (by omega)
  rw [show 128 + (c - 128) = c by omega] at this
  rw [Int.toNat_natCast]; exact this

theorem ib_none {c : Nat} (h : 128 ≤ c) (h2 : c < 256) (w : World) : Calls Tryd.prog 75 #[.string ⟨#[50, 51, 52, 53, 54, 55, 56, 57, 97, 98, 99, 100, 101, 102]⟩, .int .u8 (c : Int)] w fun e w' => e = .returned (.int .i64 (-1)) ∧ w' = w :=
  (Tryd.strings_IndexByte _ _ w).mono fun _ _ k => ⟨k.1.trans (congrArg (fun x => Ending.returned (Value.int .i64 x)) (idx_none h h2)), k.2⟩
set_option maxRecDepth 1000000 in
set_option maxHeartbeats 2000000 in
theorem hexRune_high (w : World) (r : Int) (h0 : 128 ≤ r) (h1 : r ≤ 255) :
    Calls Tryd.prog 63 #[.string ⟨#[48, 49, 50, 51, 52, 53, 54, 55, 56, 57, 97, 98, 99, 100, 101, 102]⟩, .int .i32 r] w fun e w' => e = .returned (.int .i64 (-1)) ∧ ∃ n, w' = w.drewN n := by
  have hv : Lib.validRune r = true := by unfold Lib.validRune; simp; omega
  have HV := Lib.hid hv
  have e1 : (r == 65533) = false := by rw [beq_eq_false_iff_ne]; omega
  have d0 : (0 : Int) ≤ r := by omega
  have d1 : decide (r < 128) = false := by simp; omega
  obtain ⟨E, hE, hs, hb⟩ := enc_two h0 h1
  have hcv : ∀ w, (convert 21 9 (.int .i32 r)).run Tryd.prog w = .ok (.string E) w := fun w => by
    rw [run_convert_int_string w 21 9 .i32 r (by rw [Tryd.underlying21]; rfl) Tryd.underlying9, hE]
  have hb2 := (E[1]'(by omega)).toNat_lt
  obtain ⟨c, hc⟩ : ∃ c, c = (E[1]'(by omega)).toNat := ⟨_, rfl⟩
  rw [← hc] at hb hb2
  have hz : (E.size : Int) = 2 := by omega
  have j1 : (1 : Nat) < E.size := by omega
  have hcc : (E[1]'(by omega)).toNat = c := hc.symm
  have hsl : ∀ w, (Instr.slice 9 (.string ⟨#[48, 49, 50, 51, 52, 53, 54, 55, 56, 57, 97, 98, 99, 100, 101, 102]⟩) (some (.int .i64 2)) none none).run Tryd.prog w = .ok (.string ⟨#[50, 51, 52, 53, 54, 55, 56, 57, 97, 98, 99, 100, 101, 102]⟩) w := fun w => by kernel_rfl
  have hw2 : IntKind.i64.wrap 2 = 2 := by decide
  have n49 : ((((⟨#[48, 49, 50, 51, 52, 53, 54, 55, 56, 57, 97, 98, 99, 100, 101, 102]⟩ : ByteArray)[1]'(by decide)).toNat : Int) != (c : Int)) = true := bne_iff_ne.2 (by show (49 : Int) ≠ (c : Int); omega)
  clear hv hE hc
  go_enter Tryd.func63, Tryd.ntmps63
  go_wp2_with fail
  refine (Tryd.utf8_ValidRune r w).mono ?_
  rintro e w1 ⟨rfl, rfl⟩
  rw [HV.out]
  go_wp2_with fail
  go_step3
  go_wp2_with fail
  refine wp_loop_rounds 1 ?_
  rw [rounds_succ]
  go_wp2_with fail
  go_step3
  go_wp2_with fail
  go_quiet (fail)
  have HW : Hid (∃ n, w1.drewN nq = w1.drewN n) := Lib.hid ⟨_, rfl⟩
  generalize w1.drewN nq = w2 at *
  go_wp2_with fail
  go_quiet (first | (go_at_call 75; refine Calls.quiet_of_same (ib_none hb hb2 _)))
  go_wp2_with fail
  simp only [Exit.inBlock, Exit.then, Exit.noGoto_ret]
  go_ret
  obtain ⟨n, rfl⟩ := HW.out
  exact ⟨rfl, _, World.drewN_drewN _ _ _⟩
theorem hex_ascii : ∀ n, n < 128 → (Lib.indexByte ((⟨#[48, 49, 50, 51, 52, 53, 54, 55, 56, 57, 97, 98, 99, 100, 101, 102]⟩ : ByteArray).data.toList) n.toUInt8 : Int) = Z.hexd n := by decide +kernel
/-- The value of a hexadecimal digit, or -1; the reader's -1 is none. -/
def hexZ (r : Int) : Int := if r < 0 then -1 else Z.hexd r.toNat
theorem hexd_high {n : Nat} (h : 128 ≤ n) : Z.hexd n = -1 := by
  unfold Z.hexd Z.digit
  rw [if_neg (by simp; omega), if_neg (by omega)]
theorem hexRune_any (w : World) (r : Int) (h0 : -1 ≤ r) (h1 : r ≤ 255) :
    Calls Tryd.prog 63 #[.string ⟨#[48, 49, 50, 51, 52, 53, 54, 55, 56, 57, 97, 98, 99, 100, 101, 102]⟩, .int .i32 r] w fun e w' => e = .returned (.int .i64 (hexZ r)) ∧ ∃ n, w' = w.drewN n := by
  by_cases hn : r < 0
  · obtain rfl : r = -1 := by omega
    exact hexRune_no w
  · unfold hexZ
    rw [if_neg hn]
    by_cases h128 : r < 128
    · refine (Tryd.strings_IndexRune_ascii _ r w (by omega) h128).mono fun e w' h => ⟨?_, 0, h.2⟩
      rw [h.1, hex_ascii r.toNat (by omega)]
    · rw [hexd_high (by omega)]
      exact hexRune_high w r (by omega) h1

end Go.Proofs.YtffolfnaalijnaaDoor
