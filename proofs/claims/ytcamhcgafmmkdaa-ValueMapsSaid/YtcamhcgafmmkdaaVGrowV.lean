/-
  Layer 2: slices.Grow from nil, slices.Concat: of values.
-/
import Derived.Test.YtcamhcgafmmkdaaVGrow
namespace Go.Proofs.Ytcamhcgafmmkdaa
set_option linter.unusedVariables false
open Go.RowKit
open M (V)

/-- The flat cells of a slice of values. -/
theorem IS.flat2 {w : World} {lo hi lo1 hi1 d n c : Nat} {A : Option Addr} {l : List V} (h : IS w lo hi (VB w lo1 hi1 d) A n c l) (hn : 0 < n) :
    ∃ (b off : Nat) (cs : List Value), A = some ⟨b, off, none⟩ ∧ cs.length = n * 5 ∧ (∀ j u, cs[j]? = some u → w.cell? ((⟨b, off, none⟩ : Addr).add j) = some u) ∧ (∀ u ∈ cs, u.oneCell' = true) ∧ ∀ q, q < n → Elem w lo1 hi1 d cs.toArray q (l.getD q default) := by
  obtain ⟨b, off, e, h1, h2, h3⟩ := h.at_ hn
  refine ⟨b, off, (List.range (n * 5)).map (fun q => (w.cell? ⟨b, off + q, none⟩).getD undef), e, by simp, ?_, ?_, ?_⟩
  · intro j u hu
    have hadd : (⟨b, off, none⟩ : Addr).add j = ⟨b, off + j, none⟩ := by unfold Addr.add; split <;> simp_all
    rw [hadd]
    rw [List.getElem?_map] at hu
    have hj : j < n * 5 := by
      rcases Nat.lt_or_ge j (n * 5) with h | h
      · exact h
      · rw [List.getElem?_eq_none (by simpa using h)] at hu; cases hu
    rw [List.getElem?_range hj] at hu
    simp only [Option.map_some, Option.some.injEq] at hu
    obtain ⟨k, i, s, x, y, c0, c1, c2, c3, c4, hv⟩ := h3 (j / 5) (by omega)
    have hjr : j = j / 5 * 5 + j % 5 := by omega
    have hr : j % 5 < 5 := Nat.mod_lt _ (by omega)
    have : ∃ z, w.cell? ⟨b, off + j, none⟩ = some z := by
      rw [hjr, ← Nat.add_assoc]
      rcases h5 : j % 5 with _ | _ | _ | _ | _ | m
      · exact ⟨_, c0⟩
      · exact ⟨_, c1⟩
      · exact ⟨_, c2⟩
      · exact ⟨_, c3⟩
      · exact ⟨_, c4⟩
      · omega
    obtain ⟨z, hz⟩ := this
    rw [hz] at hu ⊢
    rw [← hu]; rfl
  · intro u hu
    simp only [List.mem_map, List.mem_range] at hu
    obtain ⟨j, hj, rfl⟩ := hu
    obtain ⟨k, i, s, x, y, c0, c1, c2, c3, c4, hv⟩ := h3 (j / 5) (by omega)
    obtain ⟨A1, m1, c1', B1, p1, e1, hxy⟩ := hv.agg
    simp only [Value.agg.injEq, Array.mk.injEq, List.cons.injEq, and_true] at hxy
    obtain ⟨-, -, -, rfl, rfl⟩ := hxy
    have hjr : j = j / 5 * 5 + j % 5 := by omega
    have hr : j % 5 < 5 := Nat.mod_lt _ (by omega)
    rw [hjr, ← Nat.add_assoc]
    rcases h5 : j % 5 with _ | _ | _ | _ | _ | m
    · rw [Nat.add_zero, c0]; rfl
    · rw [c1]; rfl
    · rw [c2]; rfl
    · rw [c3]; rfl
    · rw [c4]; rfl
    · omega
  · intro q hq
    obtain ⟨k, i, s, x, y, c0, c1, c2, c3, c4, hv⟩ := h3 q hq
    have g : ∀ r u, r < 5 → w.cell? ⟨b, off + q * 5 + r, none⟩ = some u → ((List.range (n * 5)).map (fun q => (w.cell? ⟨b, off + q, none⟩).getD undef)).toArray[q * 5 + r]? = some u := fun r u hr hu => by
      simp only [List.getElem?_toArray]
      rw [List.getElem?_map, List.getElem?_range (by omega)]
      simp only [Option.map_some]
      rw [← Nat.add_assoc, hu]; rfl
    exact ⟨k, i, s, x, y, g 0 _ (by omega) c0, g 1 _ (by omega) c1, g 2 _ (by omega) c2, g 3 _ (by omega) c3, g 4 _ (by omega) c4, hv⟩

section
variable {w : World} {ops : Array Oper} {rest : List Oper} {o : Oper} {a : Act} {Q : Exit → Act → World → Prop}
set_option maxRecDepth 100000 in
theorem wpList_zeros_vs (hgd : o.guard = none) (s x : Operand) (ho : o.op = .call { callee := .builtin .append, args := #[s, x], argTypes := #[22, 3] })
    (hs : a.eval s = .slice none 0 0) (n : Nat) (hx : a.eval x = .int .i64 (n : Int)) (h0 : 0 < n) (hn : n ≤ 1000000)
    (h : ∀ c w', w'.ownsRow w.heap.size 25 5 (.slice (some ⟨w.heap.size, 0, none⟩) 0 c) 0 [] → n ≤ c → w.grownBy w' none → wpList Try.prog ops Q rest (a.put o.dst (.slice (some ⟨w.heap.size, 0, none⟩) n c)) w') : wpList Try.prog ops Q (o :: rest) a w := by
  obtain ⟨i, hi0, hz0, hz1, hz2⟩ := info_parts val_info
  refine wpList_plain hgd fun K hK => ?_
  have hrun := Lib.run_append_nil_zeros (P := Try.prog) w 22 3 o.type 25 i _ .i64 .i64 Try.underlying22 Try.underlying3 hi0 hz0 n h0 (by rw [hz1]; decide) (by omega) (by rw [hz2]; omega)
  unfold Oper.wp execOp
  simp only [ho, resolve, invoke, builtin, Sem.run_bind, Sem.run_pure, Result.andThen_ok, List.map_toArray, List.map_cons, List.map_nil, hs, hx, hrun]
  refine hK _ _ (h _ _ ⟨rfl, .inr ⟨w.heap.size, _, _, rfl, Nat.le_refl _, heap_alloc_new w.drew _, Nat.zero_le _, grownCap_le_maxLen w n 0 _ (by unfold maxLen; omega), ?_, ?_⟩⟩ (grownCap_ge w n 0 _) ⟨rfl, rfl, rfl, by simp, fun k hk _ => Below.heap_alloc w.drew _ k hk⟩)
  · have hge := grownCap_ge w n 0 25
    simp only [Array.size_append, size_zeroCells]
    show n * 5 + (_ - n) * 5 = _ * 5
    omega
  · simp
end

/-- A row of no value, with room. -/
def NewV0 (w : World) (e : Ending) (w' : World) : Prop := ∃ A c, e = .returned (.slice A 0 c) ∧ OV w' w.heap.size (.slice A 0 c) [] 0 ∧ Below w.heap.size w w'
set_option maxRecDepth 100000 in
set_option maxHeartbeats 1000000 in
theorem growV (n : Nat) (hn : n ≤ 1000000) (w : World) : Calls Try.prog 45 #[.slice none 0 0, .int .i64 (n : Int)] w (NewV0 w) := by
  by_cases h0 : n = 0
  · subst h0
    go_enter Try.func45, Try.ntmps45
    go_wp2_with fail
    go_ret
    exact ⟨none, 0, rfl, World.ownsRow_nil _ _ _ _, Below.refl _ _⟩
  · have h1 : 0 < n := by omega
    clear h0
    go_enter Try.func45, Try.ntmps45
    go_wp2_with (at_builtin; refine wpList_zeros_vs rfl _ _ rfl rfl n rfl h1 hn ?_)
    intro c w1 hown hc hg
    have HO := Lib.hid hown
    clear hown
    go_wp2_with fail
    go_ret
    exact ⟨_, c, rfl, HO.out, (Below.refl _ _).grown hg (Nat.le_refl _) (fun k hk => by cases hk)⟩

theorem elem_cat {W : World} {lo hi d m n : Nat} {xs cs : List Value} {L l : List V} (hx : xs.length = m * 5) (hc : cs.length = n * 5) (hL : L.length = m) (hl : l.length = n)
    (he : ∀ q, q < m → Elem W lo hi d xs.toArray q (L.getD q default)) (he' : ∀ q, q < n → Elem W lo hi d cs.toArray q (l.getD q default)) :
    ∀ q, q < m + n → Elem W lo hi d (xs ++ cs).toArray q ((L ++ l).getD q default) := by
  intro q hq
  rcases Nat.lt_or_ge q m with h | h
  · rw [show (L ++ l).getD q default = L.getD q default by simp [List.getD, List.getElem?_append_left (show q < L.length by omega)]]
    refine (he q h).same fun i h1 h2 => ?_
    simp only [List.getElem?_toArray]
    exact List.getElem?_append_left (by omega)
  · rw [show (L ++ l).getD q default = l.getD (q - m) default by simp [List.getD, List.getElem?_append_right (show L.length ≤ q by omega), hL]]
    obtain ⟨k0, i, s, x, y, c0, c1, c2, c3, c4, hv⟩ := he' (q - m) (by omega)
    have g : ∀ r, r < 5 → (xs ++ cs).toArray[q * 5 + r]? = cs.toArray[(q - m) * 5 + r]? := fun r hr => by
      simp only [List.getElem?_toArray]
      rw [List.getElem?_append_right (by omega), hx]
      congr 1; omega
    exact ⟨k0, i, s, x, y, (g 0 (by omega)).trans c0, (g 1 (by omega)).trans c1, (g 2 (by omega)).trans c2, (g 3 (by omega)).trans c3, (g 4 (by omega)).trans c4, hv⟩
theorem Elem.back {w w' : World} {lo hi d q : Nat} {cs : Array Value} {t : V} (h : Elem w lo hi d cs q t) (k : Kept lo hi w w') : Elem w' lo hi d cs q t := h.kept k

section
variable {w : World} {ops : Array Oper} {rest : List Oper} {o : Oper} {a : Act} {Q : Exit → Act → World → Prop}
set_option maxRecDepth 100000 in
/-- 'append(s, items...)': s the call's own; the items' readings in an elder world w0. -/
theorem wpList_append_v2 {w0 : World} (hgd : o.guard = none) (s x : Operand)
    (ho : o.op = .call { callee := .builtin .append, args := #[s, x], argTypes := #[22, 22] })
    (base m : Nat) (v : Value) (xs : List Value) (hs : a.eval s = v) (hown : w.ownsRow base 25 5 v m xs) (lo hi lo1 hi1 d : Nat) (A : Option Addr) (n c : Nat) (l : List V) (hx : a.eval x = .slice A n c) (hr : IS w0 lo hi (VB w0 lo1 hi1 d) A n c l)
    (hb0 : Below w0.heap.size w0 w) (hhi : hi ≤ w0.heap.size) (hbytes : (m + n) ≤ 1000000) (hbase : base ≤ w.heap.size)
    (h : ∀ v' w' cs, w'.ownsRow base 25 5 v' (m + n) (xs ++ cs) → cs.length = n * 5 → Hid (∀ q, q < n → Elem w0 lo1 hi1 d cs.toArray q (l.getD q default)) → Below base w w' → wpList Try.prog ops Q rest (a.put o.dst v') w') : wpList Try.prog ops Q (o :: rest) a w := by
  obtain ⟨i, hi0, hz0, hz1, hz2⟩ := info_parts val_info
  have hrow : ∀ k, v.ownBlock = some k → base ≤ k := fun k hk => (World.ownsRow.lt hown k hk).1
  rcases A with _ | ad
  · obtain rfl := hr.nil rfl
    obtain rfl : n = 0 := by have := hr.cap; omega
    exact wpList_append_own_none hgd s x _ ho base 25 i 5 Try.underlying22 hi0 v m xs hs hown hx (h _ w [] (by simpa using hown) rfl (Lib.hid (fun q h => absurd h (by omega))) (Below.refl _ _))
  · rcases Nat.eq_zero_or_pos n with h0 | h0
    · subst h0
      refine wpList_append_own w hgd s x _ ho base 25 i _ 5 80 Try.underlying22 hi0 hz0 hz1 hz2 rfl (by decide) v m xs hs hown ad 0 c [] hx rfl (fun j u hu => by simp at hu) (fun u hu => by simp at hu) (by unfold maxLen; omega) (by omega) hbase ?_
      intro v' w' h1 h2 h3
      exact h v' w' [] h1 rfl (Lib.hid (fun q h => absurd h (by omega))) ((Below.refl _ _).grown h2 hbase hrow)
    · have hr' := hr
      obtain ⟨b, off, cs, e, g1, g2, g3, g4⟩ := hr.flat2 h0
      injection e with e
      subst e
      have hbl : b < hi := by
        obtain ⟨b', off', e', _, q2, _⟩ := hr'.at_ h0
        injection e' with e'; injection e' with e'; omega
      refine wpList_append_own w hgd s x _ ho base 25 i _ 5 80 Try.underlying22 hi0 hz0 hz1 hz2 rfl (by decide) v m xs hs hown _ n c cs hx g1 (fun j u hu => ?_) g3 (by unfold maxLen; omega) (by omega) hbase ?_
      · have hadd : (⟨b, off, none⟩ : Addr).add j = ⟨b, off + j, none⟩ := by unfold Addr.add; split <;> simp_all
        have := g2 j u hu
        rw [hadd] at this ⊢
        exact (hb0.cell (p := ⟨b, off + j, none⟩) (by show b < _; omega)).trans this
      · intro v' w' h1 h2 h3
        exact h v' w' cs h1 g1 (Lib.hid g4) ((Below.refl _ _).grown h2 hbase hrow)
end

def NewVs (lo1 hi1 d : Nat) (l : List V) (w : World) (e : Ending) (w' : World) : Prop := ∃ A n c, e = .returned (.slice A n c) ∧ IS w' w.heap.size w'.heap.size (VB w' lo1 hi1 d) A n c l ∧ Below w.heap.size w w'
set_option maxRecDepth 100000 in
set_option maxHeartbeats 4000000 in
theorem concatV {g L lo hi lo1 hi1 d : Nat} {A : Nat → Option Addr} {n c : Nat → Nat} {l : Nat → List V} {w : World} (hcell : ∀ q, q < L → w.cell? ⟨g, q, none⟩ = some (.slice (A q) (n q) (c q))) (hg : g < w.heap.size)
    (hk : ∀ q, q < L → IS w lo hi (VB w lo1 hi1 d) (A q) (n q) (c q) (l q)) (hhi : hi ≤ w.heap.size) (hhi1 : hi1 ≤ w.heap.size) (hL : L ≤ 1000) (htot : tot n L ≤ 1000000) :
    Calls Try.prog 29 #[.slice (some ⟨g, 0, none⟩) L L] w (NewVs lo1 hi1 d (cat l L) w) := by
  have HC := Lib.hid hcell; have HK := Lib.hid hk
  clear hcell hk
  go_enter Try.func29, Try.ntmps29
  go_wp2_with fail
  go_loopw [3, 5, 11] (fun x z y wr => ∃ (j N : Nat), y = .int .i64 j ∧ j ≤ L ∧ x = .int .i64 N ∧ Hid (N = tot n j) ∧ N ≤ 1000000 ∧ w = wr) (fun _ _ y _ => L - (intOf y).toNat)
  case atStart => exact ⟨0, 0, rfl, by omega, rfl, Lib.hid rfl, by omega, rfl⟩
  case round =>
    obtain ⟨j, N, rfl, hj, rfl, HN, hN, rfl⟩ := hrel
    by_cases hlt : j < L
    · have c0 := HC.out j hlt
      have hN2 : N + n j ≤ 1000000 := by
        have h1 := tot_mono (n := n) (show j + 1 ≤ L by omega)
        have h2 := HN.out
        simp only [tot] at h1; omega
      have HN2 : Hid (N + n j = tot n (j + 1)) := Lib.hid (by simp only [tot]; rw [HN.out])
      generalize A j = Aj at *
      generalize n j = nj at *
      generalize c j = cj at *
      go_wp2_with fail
      exact ⟨⟨j + 1, N + nj, by go_num, by omega, by go_num, HN2, hN2, trivial⟩, by simp [intOf]; omega⟩
    · obtain rfl : j = L := by omega
      go_wp2_with fail
      refine (growV N hN w).mono ?_
      rintro e w1 ⟨A1, c1, rfl, hov1, hb1⟩
      have hz1 := hb1.size
      go_wp2_with fail
      go_loopw [6, 8, 27] (fun x z y wr => ∃ (i m : Nat) (v : Value) (cs : List Value), y = .int .i64 i ∧ i ≤ j ∧ v = x ∧ wr.ownsRow w.heap.size 25 5 v m cs ∧ Hid ((cat l i).length = m) ∧ Hid (∀ q, q < m → Elem w lo1 hi1 d cs.toArray q ((cat l i).getD q default)) ∧ Below w.heap.size w wr) (fun _ _ y _ => j - (intOf y).toNat)
      case atStart => exact ⟨0, 0, _, [], rfl, by omega, rfl, hov1, Lib.hid rfl, Lib.hid (fun q h => absurd h (by omega)), hb1⟩
      case round =>
        clear hov1 hb1
        obtain ⟨i, m, v, cs, rfl, hi', rfl, hov, HM, HE, hb⟩ := hrel
        have hz := hb.size
        by_cases hlt2 : i < j
        · have c0 := (hb.cell (p := ⟨g, i, none⟩) hg).trans (HC.out i hlt2)
          have hks := HK.out i hlt2
          have hbound : m + n i ≤ 1000000 := by
            rw [← HM.out, cat_len (fun q hq => (HK.out q (by omega)).len)]
            have h1 := tot_mono (n := n) (show i + 1 ≤ j by omega)
            simp only [tot] at h1; omega
          have HCAT : Hid (cat l (i + 1) = cat l i ++ l i) := Lib.hid rfl
          generalize A i = Ai at *
          generalize n i = ni at *
          generalize c i = ci at *
          have hkc := hks.cap
          have HKS := Lib.hid hks
          clear hks
          go_wp2_with (at_builtin; refine wpList_append_v2 (w0 := w) rfl _ _ rfl w.heap.size m v cs rfl hov lo hi lo1 hi1 d Ai ni ci (l i) rfl HKS.out hb hhi hbound hz ?_)
          intro v2 w2 cs2 hov2 hcl HE2 hb2
          have HE3 := elem_cat hov.1 hcl HM.out HKS.out.len HE.out HE2.out
          have HM2 : Hid ((cat l (i + 1)).length = m + ni) := Lib.hid (by rw [HCAT.out, List.length_append, HM.out, HKS.out.len])
          rw [← HCAT.out] at HE3
          have HE4 := Lib.hid HE3
          clear HE3 hcl
          go_wp2_with fail
          exact ⟨⟨i + 1, m + ni, v2, cs ++ cs2, by go_num, by omega, rfl, hov2, HM2, HE4, hb.trans hb2⟩, by simp [intOf]; omega⟩
        · obtain rfl : i = j := by omega
          have hlen : m ≤ 1000000 := by rw [← HM.out, cat_len (fun q hq => (HK.out q hq).len)]; exact htot
          obtain ⟨A8, c8, rfl, his⟩ := ovf2 (lo1 := lo1) (hi1 := hi1) (d := d) hov (by omega) HM.out (fun q hq => (HE.out q hq).kept (Kept.of_below hb hhi1))
          have HIS := Lib.hid his
          clear his hov
          go_wp2_with fail
          go_ret
          exact ⟨A8, m, c8, rfl, HIS.out, hb⟩
end Go.Proofs.Ytcamhcgafmmkdaa
