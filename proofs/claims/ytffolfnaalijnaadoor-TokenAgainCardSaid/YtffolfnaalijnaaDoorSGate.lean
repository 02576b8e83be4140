/-
  Layer 7: strconv.Atoi of digits; what the library's variables hold.
-/
import Derived.Test.YtffolfnaalijnaaDoorSCodD
import Derived.Lib.AppendIntMem
import Derived.Lib.AtoiAllCases
import Derived.Lib.AtoiErrMem
namespace Go.Proofs.YtffolfnaalijnaaDoor
open Go.RowKit
set_option linter.unusedVariables false

/-- What the library's variables hold: its two errors, its table of powers of ten. -/
structure Gates (w : World) : Prop where
  syn : ∃ ev, w.cell? ⟨2, 0, none⟩ = some ev ∧ (ev = .nilIface ∨ ∃ te pe, ev = .iface te pe)
  rng : ∃ ev, w.cell? ⟨3, 0, none⟩ = some ev ∧ (ev = .nilIface ∨ ∃ te pe, ev = .iface te pe)
  tab : Lib.TabIs Tryd.prog w "internal/strconv.uint64pow10" .u64 Lib.pow10Tab
theorem Gates.below {w w' : World} (h : Gates w) (hb : Below w.heap.size w w') : Gates w' := by
  obtain ⟨⟨e1, a1, b1⟩, ⟨e2, a2, b2⟩, ht⟩ := h
  refine ⟨⟨e1, ?_, b1⟩, ⟨e2, ?_, b2⟩, Lib.tabBelow_of_tabIs ht w' hb⟩
  · have hl := Lib.lt_of_cell a1
    rw [← a1]; unfold World.cell?; rw [hb.block _ hl]
  · have hl := Lib.lt_of_cell a2
    rw [← a2]; unfold World.cell?; rw [hb.block _ hl]

/-- A world behind the one in which the law began: the variables stand; the scanner is new. -/
structure Env (W w : World) (g : Nat) : Prop where
  gates : Gates W
  bel : Below W.heap.size W w
  ge : W.heap.size ≤ g
theorem Env.now {W w : World} {g : Nat} (h : Env W w g) : Gates w := h.gates.below h.bel
theorem Env.step {W w w' : World} {g : Nat} (h : Env W w g) (hg : w.grownBy w' (some g)) : Env W w' g :=
  ⟨h.gates, h.bel.grown hg h.bel.size (fun k hk => by injection hk with hk; have := h.ge; omega), h.ge⟩
theorem grown_below {w w' : World} (h : Below w.heap.size w w') (r : Option Nat) : w.grownBy w' r := ⟨h.os, h.tape, h.output, h.size, fun k hk _ => h.block k hk⟩

theorem parse_big (l : List UInt8) : ∀ acc : Nat, Q.Digs l → acc < 18446744073709551616 → ¬ Q.Fits (Q.val acc l) → Lib.parseUint10 acc l = .range := by
  induction l with
  | nil => exact fun acc _ h0 h => absurd h0 h
  | cons c r ih =>
    intro acc hd h0 hv
    have hc := hd c (by simp)
    rw [Q.val_cons] at hv
    rw [Lib.parseUint10, if_pos hc]
    by_cases g1 : 1844674407370955162 ≤ acc
    · rw [if_pos g1]
    · rw [if_neg g1]
      by_cases g2 : 18446744073709551616 ≤ acc * 10 + (c.toNat - 48)
      · rw [if_pos g2]
      · rw [if_neg g2]
        have := ih (Q.stp acc c) (fun x hx => hd x (by simp [hx])) (by rw [Q.stp_eq]; omega) hv
        rwa [Q.stp_eq] at this
theorem atoi_digits {l : List UInt8} (hd : Q.Digs l) (hn : l ≠ []) : Lib.atoiAll l = if Z.val l ≤ 9223372036854775807 then .ok (Z.val l : Int) else .range := by
  cases l with
  | nil => exact absurd rfl hn
  | cons c r =>
    have hc := hd c (by simp)
    have hne : ¬ (c.toNat = 43 ∨ c.toNat = 45) := by omega
    have hne2 : ¬ c.toNat = 45 := by omega
    unfold Z.val
    simp only [Lib.atoiAll]
    rw [if_neg hne, Lib.parseMag, if_neg (by simp)]
    by_cases hf : Q.Fits (Q.val 0 (c :: r))
    · rw [Q.parse_val _ 0 hd hf]
      by_cases hb : Q.val 0 (c :: r) ≤ 9223372036854775807
      · rw [if_pos hb]; simp [hne2]; omega
      · rw [if_neg hb]; simp [hne2]; omega
    · rw [parse_big _ 0 hd (by decide) hf]
      unfold Q.Fits at hf
      rw [if_neg (by omega)]

/-- What strconv.Atoi gives of digits: their number, or an error. -/
theorem atoi7_any (T : ByteArray) (w : World) (hs : T.size ≤ 1000000000) (hd : Q.Digs T.data.toList) (hn : T.data.toList ≠ []) (G : Gates w) :
    Calls Tryd.prog 51 #[.string T] w fun e w' => ∃ n er, e = .returned (.tuple #[.int .i64 n, er]) ∧ Below w.heap.size w w' ∧
      ((Z.val T.data.toList ≤ 9223372036854775807 ∧ n = (Z.val T.data.toList : Int) ∧ er = .nilIface) ∨ (¬ Z.val T.data.toList ≤ 9223372036854775807 ∧ ∃ N, er = .iface 97 (.pointer (some ⟨N, 0, none⟩)))) := by
  have hq := atoi_digits hd hn
  by_cases hb : Z.val T.data.toList ≤ 9223372036854775807
  · rw [if_pos hb] at hq
    refine (Tryd.strconv_Atoi_ok T (by omega) _ hq w).mono ?_
    rintro e w' ⟨rfl, hw⟩
    refine ⟨_, .nilIface, rfl, ?_, .inl ⟨hb, rfl, rfl⟩⟩
    rcases hw with rfl | ⟨t, rfl⟩
    · exact Below.refl _ _
    · exact Lib.bytesWorld_below _ _ _
  · rw [if_neg hb] at hq
    obtain ⟨ev, h1, h2⟩ := G.rng
    refine (Tryd.strconv_Atoi_range T (by omega) hq ev w h1 h2).mono ?_
    rintro e w' ⟨N, rfl, -, -, hbl⟩
    exact ⟨_, _, rfl, hbl, .inr ⟨hb, ⟨N, rfl⟩⟩⟩
end Go.Proofs.YtffolfnaalijnaaDoor
