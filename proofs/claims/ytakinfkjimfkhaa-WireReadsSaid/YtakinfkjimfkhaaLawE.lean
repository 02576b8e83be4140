/-
  Layer 1: the law WireReads.
-/
import Derived.Test.YtakinfkjimfkhaaPlay
namespace Go.Proofs.Ytakinfkjimfkhaa
open Go.RowKit

/-- A slice of three-cell structs of integers that came in. -/
def RS (w : World) (hi : Nat) (a : Option Addr) (len cap : Nat) : Prop :=
  len ≤ cap ∧ cap ≤ maxLen ∧ (0 < len → ∃ b off, a = some ⟨b, off, none⟩ ∧ b < hi ∧ ∀ i, i < len → ∃ k x y : Int,
    w.cell? ⟨b, off + i * 3, none⟩ = some (.int .i64 k) ∧ w.cell? ⟨b, off + i * 3 + 1, none⟩ = some (.int .i64 x) ∧ w.cell? ⟨b, off + i * 3 + 2, none⟩ = some (.int .i64 y))

set_option maxHeartbeats 4000000 in
set_option maxRecDepth 100000 in
theorem readsW (A : Option Addr) (n c : Nat) (l : List UInt8) (A2 : Option Addr) (m c2 : Nat) (w : World) (h : RB w 0 w.heap.size A n c l) (h' : RS w w.heap.size A2 m c2) :
    Calls Try.prog 4 #[.slice A n c, .slice A2 m c2] w fun e w' => e = .returned (.bool true) ∧ Below w.heap.size w w' := by
  by_cases hb : 300 < n ∨ 40 < m
  · rcases (show 300 < n ∨ (n ≤ 300 ∧ 40 < m) by omega) with hn | ⟨hn, hs3⟩
    all_goals
      clear hb
      go_enter Try.func4, Try.ntmps4
      go_wp2_with fail
      refine (works_any _).mono ?_
      rintro e w1 ⟨rfl, hb1⟩
      go_wp2_with fail
      go_ret
      exact ⟨rfl, hb1⟩
  · have hn : n ≤ 300 := by omega
    have hm : m ≤ 40 := by omega
    clear hb
    go_enter Try.func4, Try.ntmps4
    go_wp2_with fail
    refine (openX _ _ _ _ _ _ _ h (Nat.le_refl _) (by omega)).mono ?_
    rintro e w1 ⟨g1, rfl, hR, hb1⟩
    have hr1 : RB w1 0 w.heap.size A n c l := h.kept (Kept.of_below hb1 (Nat.le_refl _))
    go_wp2_with fail
    refine (rOpenX _ _ _ _ _ _ _ hr1 hb1.size (by omega)).mono ?_
    rintro e w2 ⟨g2, rfl, hF, hb2⟩
    have hT : Two w2 w.heap.size g1 w1.heap.size g2 ⟨l, 0⟩ := ⟨hR.below hb2 hR.lt, hF, hR.lt, fun e => absurd rfl e⟩
    have hB2 := b_step hb1 hb2
    clear hR hF hr1 hb1 hb2
    have HS := Lib.hid h'
    clear h'
    go_wp2_with fail
    go_loopw [26] (fun i wr => ∃ k : Nat, i = .int .i64 k ∧ k ≤ m ∧ Below w.heap.size w wr ∧ ∃ s, Two wr w.heap.size g1 w1.heap.size g2 s) (fun i _ => m - (intOf i).toNat)
    case atStart => exact ⟨0, rfl, by omega, hB2, _, hT⟩
    case round =>
      clear hB2 hT
      obtain ⟨k, rfl, hk, hB, s, hT⟩ := hrel
      by_cases hlt : k < m
      · obtain ⟨e1, e2, h0⟩ := HS.out
        obtain ⟨b, off, rfl, e3, e4⟩ := h0 (by omega)
        · obtain ⟨K, X, Y, q0, q1, q2⟩ := e4 k hlt
          have p0 := (hB.cell (p := ⟨b, off + k * 3, none⟩) e3).trans q0
          have p1 := (hB.cell (p := ⟨b, off + k * 3 + 1, none⟩) e3).trans q1
          have p2 := (hB.cell (p := ⟨b, off + k * 3 + 2, none⟩) e3).trans q2
          have E4 := Lib.hid e4
          clear e4 q0 q1 q2 h0
          unfold maxLen at e2
          have hT2 : Two (wr.alloc (.cells #[.int .i64 K, .int .i64 X, .int .i64 Y] 35)) w.heap.size g1 w1.heap.size g2 s := ⟨hT.rd.alloc _, hT.rf.alloc _, hT.lt, hT.ok⟩
          have HT := Lib.hid hT2
          clear hT hT2
          go_wp2_with fail
          refine (playX _ _ _ HT.out).mono ?_
          rintro e w3 ⟨rfl, hb3, s3, hT3⟩
          have hB3 := (b_alloc hB _).trans hb3
          go_wp2_with fail
          go_roundw
          case rel => exact ⟨k + 1, by go_num, by omega, hB3, _, hT3⟩
          case measure => simp [intOf]; omega
      · go_wp2_with fail
        refine (works_any _).mono ?_
        rintro e w3 ⟨rfl, hb3⟩
        go_wp2_with fail
        go_ret
        exact ⟨rfl, b_step hB hb3⟩
end Go.Proofs.Ytakinfkjimfkhaa
