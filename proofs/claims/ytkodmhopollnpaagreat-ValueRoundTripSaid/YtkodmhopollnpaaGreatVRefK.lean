/-
  Layer 2: the constructors of the reference, value.Bool, the reference's List.
-/
import Derived.Test.YtkodmhopollnpaaGreatVPush
import Derived.Test.YtkodmhopollnpaaGreatVCodH
namespace Go.Proofs.YtkodmhopollnpaaGreat
set_option linter.unusedVariables false
open Go.RowKit
open M (V)

def boolv (b : Bool) : Value := .agg #[.int .i64 1, .int .i64 (if b = true then 1 else 0), .string ByteArray.empty, .slice none 0 0, .slice none 0 0]
theorem vBool_any (b : Bool) (w : World) :
    Calls Tryz.prog 50 #[.bool b] w fun e w' => e = .returned (boolv b) ∧ Below w.heap.size w w' := by
  have hb2 := pair_below w
  cases b with
  | true =>
    go_enter Tryz.func50, Tryz.ntmps50
    go_wp2_with fail
    refine bodyPost_ret (v := .agg #[.int .i64 1, .int .i64 1, .string ByteArray.empty, .slice none 0 0, .slice none 0 0]) (by simp [results, Tryz.results50, go_sem]; rfl) rfl ⟨rfl, ?_⟩
    exact hb2 _ _
  | false =>
    go_enter Tryz.func50, Tryz.ntmps50
    go_wp2_with fail
    refine bodyPost_ret (v := .agg #[.int .i64 1, .int .i64 0, .string ByteArray.empty, .slice none 0 0, .slice none 0 0]) (by simp [results, Tryz.results50, go_sem]; rfl) rfl ⟨rfl, ?_⟩
    exact hb2 _ _
theorem VB.bool (w : World) (lo hi d : Nat) (b : Bool) : VB w lo hi (d + 1) (boolv b) (.mk 1 (if b = true then 1 else 0) ByteArray.empty [] []) :=
  ⟨none, 0, 0, none, 0, 0, rfl, by show (-9223372036854775808 : Int) ≤ 1; omega, by show (1 : Int) ≤ _; omega, by show (-9223372036854775808 : Int) ≤ (if b = true then 1 else 0); split <;> omega, by show (if b = true then (1 : Int) else 0) ≤ _; split <;> omega, Nat.zero_le _, IS.nil_ _ _ _ _, KS.nil_ _ _ _⟩

/-- The flat cells of a slice of values. -/
theorem IS.flat {w : World} {lo hi d n c : Nat} {A : Option Addr} {l : List V} (h : IS w lo hi (VB w lo hi d) A n c l) (hn : 0 < n) :
    ∃ (b off : Nat) (cs : List Value), A = some ⟨b, off, none⟩ ∧ cs.length = n * 5 ∧ (∀ j u, cs[j]? = some u → w.cell? ((⟨b, off, none⟩ : Addr).add j) = some u) ∧ (∀ u ∈ cs, u.oneCell' = true) ∧ ∀ q, q < n → Elem w lo hi d cs.toArray q (l.getD q default) := by
  obtain ⟨b, off, e, h1, h2, h3⟩ := h.at_ hn
  refine ⟨b, off, (List.range (n * 5)).map (fun q => (w.cell? ⟨b, off + q, none⟩).getD undef), e, by simp, ?_, ?_, ?_⟩
  · intro j u hu
    have hadd : (⟨b, off, none⟩ : Addr).add j = ⟨b, off + j, none⟩ := by unfold Addr.add; split <;> simp_all
    rw [hadd]
    rw [List.getElem?_map] at hu
    have hj : j < n * 5 := by
      rcases Nat.lt_or_ge j (n * 5) with h | h
      · exact h
      · rw [List.getElem?_eq_none (by simpa using h)] at hu; cases hu
    rw [List.getElem?_range hj] at hu
    simp only [Option.map_some, Option.some.injEq] at hu
    obtain ⟨k, i, s, x, y, c0, c1, c2, c3, c4, hv⟩ := h3 (j / 5) (by omega)
    have hjr : j = j / 5 * 5 + j % 5 := by omega
    have hr : j % 5 < 5 := Nat.mod_lt _ (by omega)
    have : ∃ z, w.cell? ⟨b, off + j, none⟩ = some z := by
      rw [hjr, ← Nat.add_assoc]
      rcases h5 : j % 5 with _ | _ | _ | _ | _ | m
      · exact ⟨_, c0⟩
      · exact ⟨_, c1⟩
      · exact ⟨_, c2⟩
      · exact ⟨_, c3⟩
      · exact ⟨_, c4⟩
      · omega
    obtain ⟨z, hz⟩ := this
    rw [hz] at hu ⊢
    rw [← hu]; rfl
  · intro u hu
    simp only [List.mem_map, List.mem_range] at hu
    obtain ⟨j, hj, rfl⟩ := hu
    obtain ⟨k, i, s, x, y, c0, c1, c2, c3, c4, hv⟩ := h3 (j / 5) (by omega)
    obtain ⟨A1, m1, c1', B1, p1, e1, hxy⟩ := hv.agg
    simp only [Value.agg.injEq, Array.mk.injEq, List.cons.injEq, and_true] at hxy
    obtain ⟨-, -, -, rfl, rfl⟩ := hxy
    have hjr : j = j / 5 * 5 + j % 5 := by omega
    have hr : j % 5 < 5 := Nat.mod_lt _ (by omega)
    rw [hjr, ← Nat.add_assoc]
    rcases h5 : j % 5 with _ | _ | _ | _ | _ | m
    · rw [Nat.add_zero, c0]; rfl
    · rw [c1]; rfl
    · rw [c2]; rfl
    · rw [c3]; rfl
    · rw [c4]; rfl
    · omega
  · intro q hq
    obtain ⟨k, i, s, x, y, c0, c1, c2, c3, c4, hv⟩ := h3 q hq
    have g : ∀ r u, r < 5 → w.cell? ⟨b, off + q * 5 + r, none⟩ = some u → ((List.range (n * 5)).map (fun q => (w.cell? ⟨b, off + q, none⟩).getD undef)).toArray[q * 5 + r]? = some u := fun r u hr hu => by
      simp only [List.getElem?_toArray]
      rw [List.getElem?_map, List.getElem?_range (by omega)]
      simp only [Option.map_some]
      rw [← Nat.add_assoc, hu]; rfl
    exact ⟨k, i, s, x, y, g 0 _ (by omega) c0, g 1 _ (by omega) c1, g 2 _ (by omega) c2, g 3 _ (by omega) c3, g 4 _ (by omega) c4, hv⟩

section
variable {w : World} {ops : Array Oper} {rest : List Oper} {o : Oper} {a : Act} {Q : Exit → Act → World → Prop}
set_option maxRecDepth 100000 in
/-- 'append(nil, items...)' of values. -/
theorem wpList_append_vs (hgd : o.guard = none) (s x : Operand)
    (ho : o.op = .call { callee := .builtin .append, args := #[s, x], argTypes := #[28, 28] })
    (hs : a.eval s = .slice none 0 0) (lo hi d : Nat) (A : Option Addr) (n c : Nat) (l : List V) (hx : a.eval x = .slice A n c) (hr : IS w lo hi (VB w lo hi d) A n c l)
    (h : ∀ v' w' cs, OV w' w.heap.size v' cs n → Hid (∀ q, q < n → Elem w lo hi d cs.toArray q (l.getD q default)) → w.grownBy w' none → wpList Tryz.prog ops Q rest (a.put o.dst v') w') : wpList Tryz.prog ops Q (o :: rest) a w := by
  obtain ⟨i, hi0, hz0, hz1, hz2⟩ := info_parts val_info
  rcases A with _ | ad
  · obtain rfl := hr.nil rfl
    obtain rfl : n = 0 := by have := hr.cap; omega
    exact wpList_append_own_none hgd s x _ ho w.heap.size 31 i 5 Tryz.underlying28 hi0 (.slice none 0 0) 0 _ hs (World.ownsRow_nil _ _ _ _) hx (h _ w [] (World.ownsRow_nil _ _ _ _) (Lib.hid (fun q h => absurd h (by omega))) (World.grownBy.refl _ _))
  · rcases Nat.eq_zero_or_pos n with h0 | h0
    · subst h0
      refine wpList_append_own w hgd s x _ ho w.heap.size 31 i _ 5 80 Tryz.underlying28 hi0 hz0 hz1 hz2 rfl (by decide) (.slice none 0 0) 0 [] hs (World.ownsRow_nil _ _ _ _) ad 0 c [] hx rfl (fun j u hu => by simp at hu) (fun u hu => by simp at hu) (by unfold maxLen; omega) (by omega) (Nat.le_refl _) ?_
      intro v' w' h1 h2 h3
      exact h v' w' [] h1 (Lib.hid (fun q h => absurd h (by omega))) h2
    · obtain ⟨b, off, cs, e, g1, g2, g3, g4⟩ := hr.flat h0
      injection e with e
      subst e
      have hmost := hr.most
      refine wpList_append_own w hgd s x _ ho w.heap.size 31 i _ 5 80 Tryz.underlying28 hi0 hz0 hz1 hz2 rfl (by decide) (.slice none 0 0) 0 [] hs (World.ownsRow_nil _ _ _ _) _ n c cs hx g1 g2 g3 (by unfold maxLen; omega) (by omega) (Nat.le_refl _) ?_
      intro v' w' h1 h2 h3
      refine h v' w' cs ?_ (Lib.hid g4) h2
      have h1' := h1
      rw [Nat.zero_add, List.nil_append] at h1'
      exact h1'
end

end Go.Proofs.YtkodmhopollnpaaGreat
