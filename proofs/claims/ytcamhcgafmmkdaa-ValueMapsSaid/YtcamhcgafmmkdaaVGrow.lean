/-
  Layer 2: slices.Grow from nil, slices.Concat: of strings.
-/
import Derived.Test.YtcamhcgafmmkdaaVPush
import Derived.Test.YtcamhcgafmmkdaaVRefK
import Derived.Lib.AppendZeros
namespace Go.Proofs.Ytcamhcgafmmkdaa
set_option linter.unusedVariables false
open Go.RowKit
open M (V)

section
variable {w : World} {ops : Array Oper} {rest : List Oper} {o : Oper} {a : Act} {Q : Exit → Act → World → Prop}
set_option maxRecDepth 100000 in
theorem wpList_zeros_ks (hgd : o.guard = none) (s x : Operand) (ho : o.op = .call { callee := .builtin .append, args := #[s, x], argTypes := #[23, 3] })
    (hs : a.eval s = .slice none 0 0) (n : Nat) (hx : a.eval x = .int .i64 (n : Int)) (h0 : 0 < n) (hn : n ≤ 1000000)
    (h : ∀ c w', w'.ownsRow w.heap.size 9 1 (.slice (some ⟨w.heap.size, 0, none⟩) 0 c) 0 [] → n ≤ c → w.grownBy w' none → wpList Try.prog ops Q rest (a.put o.dst (.slice (some ⟨w.heap.size, 0, none⟩) n c)) w') : wpList Try.prog ops Q (o :: rest) a w := by
  obtain ⟨i, hi0, hz0, hz1, hz2⟩ := info_parts str_info
  refine wpList_plain hgd fun K hK => ?_
  have hrun := Lib.run_append_nil_zeros (P := Try.prog) w 23 3 o.type 9 i (.string ByteArray.empty) .i64 .i64 Try.underlying23 Try.underlying3 hi0 hz0 n h0 (by rw [hz1]; decide) (by omega) (by rw [hz2]; omega)
  unfold Oper.wp execOp
  simp only [ho, resolve, invoke, builtin, Sem.run_bind, Sem.run_pure, Result.andThen_ok, List.map_toArray, List.map_cons, List.map_nil, hs, hx, hrun]
  refine hK _ _ (h _ _ ⟨rfl, .inr ⟨w.heap.size, _, _, rfl, Nat.le_refl _, heap_alloc_new w.drew _, Nat.zero_le _, grownCap_le_maxLen w n 0 _ (by unfold maxLen; omega), ?_, ?_⟩⟩ (grownCap_ge w n 0 _) ⟨rfl, rfl, rfl, by simp, fun k hk _ => Below.heap_alloc w.drew _ k hk⟩)
  · have hge := grownCap_ge w n 0 9
    simp only [Array.size_append, size_zeroCells]
    show n * 1 + (_ - n) * 1 = _ * 1
    omega
  · simp
end

/-- A row of no string, with room. -/
def NewK0 (w : World) (e : Ending) (w' : World) : Prop := ∃ A c, e = .returned (.slice A 0 c) ∧ OS w' w.heap.size (.slice A 0 c) [] ∧ Below w.heap.size w w'
set_option maxRecDepth 100000 in
set_option maxHeartbeats 1000000 in
theorem growK (n : Nat) (hn : n ≤ 1000000) (w : World) : Calls Try.prog 44 #[.slice none 0 0, .int .i64 (n : Int)] w (NewK0 w) := by
  by_cases h0 : n = 0
  · subst h0
    go_enter Try.func44, Try.ntmps44
    go_wp2_with fail
    go_ret
    exact ⟨none, 0, rfl, OS.empty _ _, Below.refl _ _⟩
  · have h1 : 0 < n := by omega
    clear h0
    go_enter Try.func44, Try.ntmps44
    go_wp2_with (at_builtin; refine wpList_zeros_ks rfl _ _ rfl rfl n rfl h1 hn ?_)
    intro c w1 hown hc hg
    have HO := Lib.hid hown
    clear hown
    go_wp2_with fail
    go_ret
    exact ⟨_, c, rfl, HO.out, (Below.refl _ _).grown hg (Nat.le_refl _) (fun k hk => by cases hk)⟩

/-- The first j lists, one behind the other. -/
def cat {α : Type} (l : Nat → List α) : Nat → List α | 0 => [] | j + 1 => cat l j ++ l j
def tot (n : Nat → Nat) : Nat → Nat | 0 => 0 | j + 1 => tot n j + n j
theorem cat_len {α : Type} {l : Nat → List α} {n : Nat → Nat} : ∀ {j : Nat}, (∀ q, q < j → (l q).length = n q) → (cat l j).length = tot n j
  | 0, _ => rfl
  | j + 1, h => by rw [cat, tot, List.length_append, cat_len (fun q hq => h q (by omega)), h j (by omega)]
theorem tot_mono {n : Nat → Nat} {i j : Nat} (h : i ≤ j) : tot n i ≤ tot n j := by
  induction j with
  | zero => rw [Nat.le_zero.1 h]; exact Nat.le_refl _
  | succ j ih =>
    rcases Nat.lt_or_ge i (j + 1) with h1 | h1
    · have := ih (by omega); simp only [tot]; omega
    · rw [show i = j + 1 by omega]; exact Nat.le_refl _
def NewK (l : List ByteArray) (w : World) (e : Ending) (w' : World) : Prop := ∃ A n c, e = .returned (.slice A n c) ∧ KS w' w.heap.size w'.heap.size A n c l ∧ OS w' w.heap.size (.slice A n c) l ∧ Below w.heap.size w w'
set_option maxRecDepth 100000 in
set_option maxHeartbeats 4000000 in
theorem concatK {g L lo hi : Nat} {A : Nat → Option Addr} {n c : Nat → Nat} {l : Nat → List ByteArray} {w : World} (hcell : ∀ q, q < L → w.cell? ⟨g, q, none⟩ = some (.slice (A q) (n q) (c q))) (hg : g < w.heap.size)
    (hk : ∀ q, q < L → KS w lo hi (A q) (n q) (c q) (l q)) (hhi : hi ≤ w.heap.size) (hL : L ≤ 1000) (htot : tot n L ≤ 1000000) :
    Calls Try.prog 28 #[.slice (some ⟨g, 0, none⟩) L L] w (NewK (cat l L) w) := by
  have HC := Lib.hid hcell; have HK := Lib.hid hk
  clear hcell hk
  go_enter Try.func28, Try.ntmps28
  go_wp2_with fail
  go_loopw [3, 5, 11] (fun x z y wr => ∃ (j N : Nat), y = .int .i64 j ∧ j ≤ L ∧ x = .int .i64 N ∧ Hid (N = tot n j) ∧ N ≤ 1000000 ∧ w = wr) (fun _ _ y _ => L - (intOf y).toNat)
  case atStart => exact ⟨0, 0, rfl, by omega, rfl, Lib.hid rfl, by omega, rfl⟩
  case round =>
    obtain ⟨j, N, rfl, hj, rfl, HN, hN, rfl⟩ := hrel
    by_cases hlt : j < L
    · have c0 := HC.out j hlt
      have hN2 : N + n j ≤ 1000000 := by
        have h1 := tot_mono (n := n) (show j + 1 ≤ L by omega)
        have h2 := HN.out
        simp only [tot] at h1; omega
      have HN2 : Hid (N + n j = tot n (j + 1)) := Lib.hid (by simp only [tot]; rw [HN.out])
      generalize A j = Aj at *
      generalize n j = nj at *
      generalize c j = cj at *
      go_wp2_with fail
      exact ⟨⟨j + 1, N + nj, by go_num, by omega, by go_num, HN2, hN2, trivial⟩, by simp [intOf]; omega⟩
    · obtain rfl : j = L := by omega
      go_wp2_with fail
      refine (growK N hN w).mono ?_
      rintro e w1 ⟨A1, c1, rfl, hos1, hb1⟩
      have hz1 := hb1.size
      go_wp2_with fail
      go_loopw [6, 8, 27] (fun x z y wr => ∃ (i : Nat) (v : Value), y = .int .i64 i ∧ i ≤ j ∧ v = x ∧ OS wr w.heap.size v (cat l i) ∧ Below w.heap.size w wr) (fun _ _ y _ => j - (intOf y).toNat)
      case atStart => exact ⟨0, _, rfl, by omega, rfl, hos1, hb1⟩
      case round =>
        clear hos1 hb1
        obtain ⟨i, v, rfl, hi', rfl, hos, hb⟩ := hrel
        have hz := hb.size
        by_cases hlt2 : i < j
        · have c0 := (hb.cell (p := ⟨g, i, none⟩) hg).trans (HC.out i hlt2)
          have hks := (HK.out i hlt2).later hb hhi
          have hbound : (cat l i).length + n i ≤ 1000000 := by
            rw [cat_len (fun q hq => (HK.out q (by omega)).len)]
            have h1 := tot_mono (n := n) (show i + 1 ≤ j by omega)
            simp only [tot] at h1; omega
          have HCAT : Hid (cat l (i + 1) = cat l i ++ l i) := Lib.hid rfl
          generalize A i = Ai at *
          generalize n i = ni at *
          generalize c i = ci at *
          have hkc := hks.cap
          go_wp2_with (at_builtin; refine wpList_append_ks rfl _ _ rfl w.heap.size v (cat l i) rfl hos lo hi Ai ni ci (l i) rfl hks ?c2 ?c3 ?_)
          case c2 => omega
          case c3 => omega
          intro v2 w2 hos2 hb2 _
          go_wp2_with fail
          exact ⟨⟨i + 1, v2, by go_num, by omega, rfl, by rw [HCAT.out]; exact hos2, hb.trans hb2⟩, by simp [intOf]; omega⟩
        · obtain rfl : i = j := by omega
          have hlen : (cat l i).length ≤ 1000000 := by rw [cat_len (fun q hq => (HK.out q hq).len)]; exact htot
          have hsz : ∀ q, q < (cat l i).length → ((cat l i).getD q ByteArray.empty).size ≤ 140737488351232 := by
            have hm : ∀ i', i' ≤ i → ∀ k ∈ cat l i', k.size ≤ 140737488351232 := by
              intro i'
              induction i' with
              | zero => intro _ k hk; cases hk
              | succ i' ih =>
                intro h k hk
                rw [cat, List.mem_append] at hk
                rcases hk with h1 | h1
                · exact ih (by omega) k h1
                · obtain ⟨q, hq, rfl⟩ := List.getElem_of_mem h1
                  have h2 := HK.out i' (by omega)
                  have := h2.size q (by rw [← h2.len]; exact hq)
                  simpa [List.getD, List.getElem?_eq_getElem hq] using this
            intro q hq
            rw [show (cat l i).getD q ByteArray.empty = (cat l i)[q] by simp [List.getD, List.getElem?_eq_getElem hq]]
            exact hm i (Nat.le_refl _) _ (List.getElem_mem _)
          have hos' := hos
          obtain ⟨A8, n8, c8, rfl, hks⟩ := hos.form (by omega) hsz
          have HKS := Lib.hid hks; have HOS := Lib.hid hos'
          clear hks hos hos'
          go_wp2_with fail
          go_ret
          exact ⟨A8, n8, c8, rfl, HKS.out, HOS.out, hb⟩
end Go.Proofs.Ytcamhcgafmmkdaa
