/-
  Layer 2: the code's constructors and copyWithinLimits.
-/
import Derived.Test.YtdkggnciamfcmaaGreatDoorVCodG
namespace Go.Proofs.YtdkggnciamfcmaaGreatDoor
set_option linter.unusedVariables false
open Go.RowKit
open M (V)

theorem results_cell_slot {fn : Func} {p q : Tmp} (h : fn.results = #[.cell p 25, .tmp q]) (tmps : Array Value) (w : World) (g : Nat) (t : TypeId) (cs : Array Value) (fr : Nat × Nat) (u : Value)
    (hp : tmps.getD p undef = .pointer (some ⟨g, 0, none⟩)) (hg : w.heap[g]? = some (.cells cs t fr)) (hi : (Tryz.prog.info? 25).map (·.size) = some cs.size) (hq : tmps.getD q undef = u) :
    (results fn tmps).run Tryz.prog w = .ok (.tuple #[.agg cs, u]) w := by
  have hp' : tmps[p]?.getD undef = .pointer (some ⟨g, 0, none⟩) := by simpa using hp
  have hq' : tmps[q]?.getD undef = u := by simpa using hq
  simp [results, h, hp', hq', asAddr, run_loadVar_row w g t _ cs fr _ hg Tryz.underlying25 rfl hi]

def zv : Value := .agg #[.int .i64 0, .int .i64 0, .string ByteArray.empty, .slice none 0 0, .slice none 0 0]
theorem VB.null (w : World) (lo hi d : Nat) : VB w lo hi (d + 1) (.agg #[.int .i64 0, .int .i64 0, .string ByteArray.empty, .slice none 0 0, .slice none 0 0]) V.null :=
  ⟨none, 0, 0, none, 0, 0, rfl, by show (-9223372036854775808 : Int) ≤ 0; omega, by show (0 : Int) ≤ _; omega, by show (-9223372036854775808 : Int) ≤ 0; omega, by show (0 : Int) ≤ _; omega, Nat.zero_le _, IS.nil_ _ _ _ _, KS.nil_ _ _ _⟩

theorem null_any (w : World) :
    Calls Tryz.prog 25 #[] w fun e w' => e = .returned (.agg #[.int .i64 0, .int .i64 0, .string ByteArray.empty, .slice none 0 0, .slice none 0 0]) ∧ Below w.heap.size w w' := by
  go_enter Tryz.func25, Tryz.ntmps25
  go_wp2_with fail
  exact bodyPost_ret (v := .agg #[.int .i64 0, .int .i64 0, .string ByteArray.empty, .slice none 0 0, .slice none 0 0]) (by simp [results, Tryz.results25, go_sem]; rfl) rfl ⟨rfl, (Below.refl _ _).alloc (Nat.le_refl _) _⟩
theorem int_any (n : Int) (w : World) :
    Calls Tryz.prog 50 #[.int .i64 n] w fun e w' => e = .returned (.agg #[.int .i64 2, .int .i64 n, .string ByteArray.empty, .slice none 0 0, .slice none 0 0]) ∧ Below w.heap.size w w' := by
  go_enter Tryz.func50, Tryz.ntmps50
  go_wp2_with fail
  exact bodyPost_ret (v := .agg #[.int .i64 2, .int .i64 n, .string ByteArray.empty, .slice none 0 0, .slice none 0 0]) (by simp [results, Tryz.results50, go_sem]; rfl) rfl ⟨rfl, (Below.refl _ _).alloc (Nat.le_refl _) _⟩
theorem text_any (s : ByteArray) (w : World) :
    Calls Tryz.prog 46 #[.string s] w fun e w' => e = .returned (.agg #[.int .i64 3, .int .i64 0, .string s, .slice none 0 0, .slice none 0 0]) ∧ Below w.heap.size w w' := by
  go_enter Tryz.func46, Tryz.ntmps46
  go_wp2_with fail
  exact bodyPost_ret (v := .agg #[.int .i64 3, .int .i64 0, .string s, .slice none 0 0, .slice none 0 0]) (by simp [results, Tryz.results46, go_sem]) rfl ⟨rfl, (Below.refl _ _).alloc (Nat.le_refl _) _⟩
theorem VB.int (w : World) (lo hi d : Nat) (n : Int) (h1 : -9223372036854775808 ≤ n) (h2 : n ≤ 9223372036854775807) : VB w lo hi (d + 1) (.agg #[.int .i64 2, .int .i64 n, .string ByteArray.empty, .slice none 0 0, .slice none 0 0]) (.mk 2 n ByteArray.empty [] []) :=
  ⟨none, 0, 0, none, 0, 0, rfl, by show (-9223372036854775808 : Int) ≤ 2; omega, by show (2 : Int) ≤ _; omega, h1, h2, Nat.zero_le _, IS.nil_ _ _ _ _, KS.nil_ _ _ _⟩
theorem VB.text (w : World) (lo hi d : Nat) (s : ByteArray) (h1 : s.size ≤ 140737488351232) : VB w lo hi (d + 1) (.agg #[.int .i64 3, .int .i64 0, .string s, .slice none 0 0, .slice none 0 0]) (.mk 3 0 s [] []) :=
  ⟨none, 0, 0, none, 0, 0, rfl, by show (-9223372036854775808 : Int) ≤ 3; omega, by show (3 : Int) ≤ _; omega, by show (-9223372036854775808 : Int) ≤ 0; omega, by show (0 : Int) ≤ _; omega, h1, IS.nil_ _ _ _ _, KS.nil_ _ _ _⟩

set_option maxRecDepth 100000 in
set_option maxHeartbeats 1000000 in
theorem list_any {d : Nat} {A : Option Addr} {n c lo hi : Nat} {l : List V} {w : World} (h : IS w lo hi (VB w lo hi d) A n c l) (hhi : hi ≤ w.heap.size) :
    Calls Tryz.prog 77 #[.slice A n c] w (NewV w.heap.size (d + 1) (.mk 4 0 ByteArray.empty l []) w) := by
  have hb0 := (Below.refl w.heap.size w).alloc (Nat.le_refl _) (.cells #[.int .i64 0, .int .i64 0, .string ByteArray.empty, .slice none 0 0, .slice none 0 0] 25)
  go_enter Tryz.func77, Tryz.ntmps77
  go_wp2_with fail
  refine (copyItems_any (copy_at d) (h.later hb0 hhi) (by simp; omega)).mono ?_
  rintro e w1 ⟨A1, m1, c1, rfl, hi1, hb1⟩
  have hr : w1.heap[w.heap.size]? = some (.cells #[.int .i64 0, .int .i64 0, .string ByteArray.empty, .slice none 0 0, .slice none 0 0] 25 (0, 0)) := by rw [hb1.block _ (by simp)]; exact heap_alloc_new _ _
  obtain ⟨b0, b1, b2, b3, b4, f0, f1, f2, f3, f4⟩ := lit5 hr
  have HR := Lib.hid hr
  clear hr
  go_wp2_with fail
  have hfin := lit_stored HR.out (.int .i64 4) (.int .i64 0) (.string ByteArray.empty) (.slice A1 m1 c1) (.slice none 0 0)
  have hko : Kept (w.heap.size + 1) w1.heap.size w1 (stored w1 w.heap.size (.int .i64 4) (.int .i64 0) (.string ByteArray.empty) (.slice A1 m1 c1) (.slice none 0 0)) := fun b x1 x2 => stored_other _ _ _ _ _ _ _ _ (by omega)
  refine bodyPost_ret (v := .agg #[.int .i64 4, .int .i64 0, .string ByteArray.empty, .slice A1 m1 c1, .slice none 0 0]) (results_cell_row Tryz.results77 _ _ w.heap.size 25 _ (0, 0) _ rfl hfin Tryz.underlying25 rfl (by kernel_rfl)) rfl ?_
  simp only [World.size_alloc] at hi1
  refine ⟨_, rfl, ⟨A1, m1, c1, none, 0, 0, rfl, by show (-9223372036854775808 : Int) ≤ 4; omega, by show (4 : Int) ≤ _; omega, by show (-9223372036854775808 : Int) ≤ 0; omega, by show (0 : Int) ≤ _; omega, Nat.zero_le _, ?_, KS.nil_ _ _ _⟩, ?_⟩
  · have hx := IS.kept hi1 hko (fun v t r => r.kept hko)
    exact hx.weak (by omega) (by show _ ≤ (stored _ _ _ _ _ _ _).heap.size; rw [stored_size]; omega) (fun v t r => r.weak (by omega) (by show _ ≤ (stored _ _ _ _ _ _ _).heap.size; rw [stored_size]; omega))
  · exact stored_below (below_step hb0 hb1) (Nat.le_refl _) _ _ _ _ _

/-- What copyWithinLimits returns. -/
def NewW (B d : Nat) (t : V) (w : World) (e : Ending) (w' : World) : Prop :=
  (t.within = true → ∃ v, e = .returned (.tuple #[v, .int .i64 0]) ∧ VB w' B w'.heap.size d v t) ∧ (t.within = false → e = .returned (.tuple #[.agg #[.int .i64 0, .int .i64 0, .string ByteArray.empty, .slice none 0 0, .slice none 0 0], .int .i64 6])) ∧ Below B w w'

end Go.Proofs.YtdkggnciamfcmaaGreatDoor
