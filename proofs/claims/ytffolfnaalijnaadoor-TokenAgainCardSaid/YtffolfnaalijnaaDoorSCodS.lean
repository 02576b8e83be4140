/-
  Layer 7: the code's Spell.
-/
import Derived.Test.YtffolfnaalijnaaDoorSCodM
import Derived.Test.YtffolfnaalijnaaDoorSSpl
import Derived.Lib.AppendIntMem
namespace Go.Proofs.YtffolfnaalijnaaDoor
set_option linter.unusedVariables false
open Go.RowKit

theorem str7_info : (Tryd.prog.info? 9).map (fun i => (i.zero, i.size, i.bytes)) = some (some (.string ByteArray.empty), 1, 16) := by kernel_rfl
def strCells (L : List (List UInt8)) : List Value := L.map fun x => Value.string (bS x)
section
variable {w : World} {ops : Array Oper} {rest : List Oper} {o : Oper} {a : Act} {Q : Exit → Act → World → Prop}
set_option maxRecDepth 100000 in
/-- 'append(l, s)'. -/
theorem wpList_push_str (hgd : o.guard = none) (s x : Operand)
    (ho : o.op = .call { callee := .builtin .append, args := #[s, x], argTypes := #[43, 43] })
    (base n g : Nat) (v : Value) (xs : List Value) (k : ByteArray) (T : TypeId) (fr : Nat × Nat) (hs : a.eval s = v) (hown : w.ownsRow base 9 1 v n xs) (hx : a.eval x = .slice (some ⟨g, 0, none⟩) 1 1)
    (hg : w.heap[g]? = some (.cells #[.string k] T fr)) (hn : n ≤ 1000000) (hbase : base ≤ w.heap.size)
    (h : ∀ g1 cap w', w'.ownsRow base 9 1 (.slice (some ⟨g1, 0, none⟩) (n + 1) cap) (n + 1) (xs ++ [.string k]) → w.grownBy w' v.ownBlock → (v.ownBlock = some g1 ∨ w.heap.size ≤ g1) → g1 < w'.heap.size →
      wpList Tryd.prog ops Q rest (a.put o.dst (.slice (some ⟨g1, 0, none⟩) (n + 1) cap)) w') : wpList Tryd.prog ops Q (o :: rest) a w := by
  obtain ⟨i, hi0, hz0, hz1, hz2⟩ := info_parts str7_info
  refine wpList_append_lies w hgd s x _ ho base 9 i (.string ByteArray.empty) 1 16 Tryd.underlying43 hi0 hz0 hz1 hz2 rfl (by decide) v n xs hs hown ⟨g, 0, none⟩ 1 1 [.string k] hx rfl (World.news_of_block hg) ?_ (by decide) (by unfold maxLen; omega) (by omega) hbase w.heap.size rfl ?_
  · intro u hu; obtain rfl := List.mem_singleton.1 hu; rfl
  · intro g1 cap w' h1 h2 h3 h4
    exact h g1 cap w' h1 h2 (h3.imp id (fun e => by omega)) h4
end
/-- A list of texts of the call's own. -/
def OS7 (w : World) (base : Nat) (v : Value) (L : List (List UInt8)) : Prop := w.ownsRow base 9 1 v L.length (strCells L)
theorem OS7.empty (w : World) (base : Nat) : OS7 w base (.slice none 0 0) [] := World.ownsRow_nil _ _ _ _
theorem OS7.push {w : World} {base : Nat} {v : Value} {L : List (List UInt8)} {n : Nat} {x : List UInt8} {X : ByteArray} (hX : X = bS x) (hn : n = L.length) (h : w.ownsRow base 9 1 v (n + 1) (strCells L ++ [.string X])) : OS7 w base v (L ++ [x]) := by
  subst hn hX
  unfold OS7 strCells
  rw [List.length_append, List.map_append]
  exact h
theorem OS7.form {w : World} {base : Nat} {v : Value} {L : List (List UInt8)} (h : OS7 w base v L) : (v = .slice none 0 0 ∧ L = []) ∨ ∃ g cap, v = .slice (some ⟨g, 0, none⟩) (L.map bS).length cap ∧ g < w.heap.size ∧ (L.map bS).length ≤ cap ∧ ∀ (j : Nat) (x : ByteArray), (L.map bS)[j]? = some x → w.cell? ⟨g, 0 + j, none⟩ = some (.string x) := by
  obtain ⟨_, h2⟩ := h
  rcases h2 with ⟨rfl, h0⟩ | ⟨g, cap, cur, rfl, hg, hheap, h3, h4, h5, h6⟩
  · exact .inl ⟨rfl, List.eq_nil_of_length_eq_zero h0⟩
  · refine .inr ⟨g, cap, by rw [List.length_map], row_lt7 hheap, by rw [List.length_map]; exact h3, fun j x hx => ?_⟩
    have hj : j < L.length := by
      have := List.getElem?_eq_some_iff.1 hx
      obtain ⟨h, _⟩ := this
      rwa [List.length_map] at h
    have hk := cell_of_row w g (0 + j) _ _ (0, 0) hheap
    rw [hk]
    have e : (strCells L)[j]? = some (.string x) := by
      unfold strCells
      rw [List.getElem?_map] at hx ⊢
      cases hq : L[j]? with
      | none => rw [hq] at hx; simp at hx
      | some y => rw [hq] at hx; simp at hx; simp [hx]
    rw [← h6, List.getElem?_take_of_lt (by omega)] at e
    rw [Nat.zero_add]
    simpa using e

set_option maxRecDepth 100000 in
set_option maxHeartbeats 8000000 in
theorem spell7_any {w : World} {lo hi n c : Nat} {A : Option Addr} {l : List Z.Tok} (h : TR w lo hi A n c l) (hhi : hi ≤ w.heap.size) (hf : Z.Fits 100000 l) (hn : n ≤ 100000) (G : Gates w) :
    Calls Tryd.prog 16 #[.slice A n c] w fun e w' => e = .returned (.string (bS (Z.spell l))) ∧ Below w.heap.size w w' := by
  have hl := h.len
  have HL := Lib.hid hl
  have HH := Lib.hid h
  have HF := Lib.hid hf
  have HHI := Lib.hid hhi
  have HG := Lib.hid G
  have HSL : Hid ((Z.spell l).length ≤ 40002200000) := Lib.hid (Nat.le_trans (Z.spell_len hf) (by rw [hl]; omega))
  clear h hf hhi hl G
  go_enter Tryd.func16, Tryd.ntmps16
  go_wp2_with fail
  go_loopw [3, 5, 8] (fun x _ i wr => ∃ j : Nat, j ≤ n ∧ i = .int .i64 j ∧ Hid (OS7 wr w.heap.size x (Z.spells (l.take j))) ∧ Hid (Below w.heap.size w wr)) (fun _ _ i _ => n - (intOf i).toNat)
  case atStart => exact ⟨0, Nat.zero_le _, rfl, Lib.hid (OS7.empty _ _), Lib.hid (Below.refl _ _)⟩
  case round =>
    obtain ⟨j, hj, rfl, HO, HB⟩ := hrel
    by_cases hlt : j < n
    · have hjl : j < l.length := by rw [HL.out]; exact hlt
      have hTR := HH.out.below HB.out HHI.out
      obtain ⟨b, off, rfl, _, hbh, hc⟩ := hTR.at_ (by omega)
      obtain ⟨c0, c1, c2, c3⟩ := hc j hlt
      obtain ⟨hz, hv0, hv1⟩ := HF.out.at_ hjl
      obtain ⟨t, ht⟩ : ∃ t, t = l.getD j default := ⟨_, rfl⟩
      rw [← ht] at c0 c1 c2 c3 hz hv0 hv1
      have HT := Lib.hid ht
      have HJL := Lib.hid hjl
      clear hc hTR ht hjl
      obtain ⟨k, p, tx, v⟩ := t
      simp only at c0 c1 c2 c3 hz hv0 hv1
      obtain ⟨T, hT⟩ : ∃ T, T = bS tx := ⟨_, rfl⟩
      rw [← hT] at c2
      have zT : T.size ≤ 100000 := by rw [hT, bS_size]; exact hz
      have HTT := Lib.hid hT
      clear hT hz
      have hbz := HB.out.size
      have HOWN : Hid (∀ b, u3.ownBlock = some b → w.heap.size ≤ b) := Lib.hid fun b hb => (World.ownsRow.lt HO.out b hb).1
      have hspl : (Z.spells (l.take j)).length ≤ j := by
        have h1 := (Z.lens_le (HF.out.take j)).2
        rw [List.length_take] at h1; omega
      obtain ⟨na, hna⟩ : ∃ na, na = (Z.spells (l.take j)).length := ⟨_, rfl⟩
      rw [← hna] at hspl
      have hnb : na ≤ 1000000 := by omega
      have HNA := Lib.hid hna
      have ho : wr.ownsRow w.heap.size 9 1 u3 na (strCells (Z.spells (l.take j))) := by rw [hna]; exact HO.out
      clear hna hspl
      have j0 : (0 : Int) ≤ (j : Int) := by omega
      have j1 : (j : Int) < (n : Int) := by omega
      have hji : decide ((j : Int) < (n : Int)) = true := by simp; omega
      have HB1 := Lib.hid (HB.out.alloc HB.out.size (.cells #[.int .i64 k, .int .i64 p, .string T, .int .i64 v] 30))
      have HO1 := Lib.hid (World.ownsRow.alloc ho (.cells #[.int .i64 k, .int .i64 p, .string T, .int .i64 v] 30))
      obtain ⟨⟨r0, r1, r2, r3⟩, t0, t1, t2, t3⟩ := row4_cells (al1_heap wr (.cells #[.int .i64 k, .int .i64 p, .string T, .int .i64 v] 30))
      have HS1 : Hid (Z.spell1 (l.getD j default) = if k = 1 ∨ k = 2 ∨ k = 5 then some tx else if k = 3 then some (Lib.itoa v) else if k = 4 then some (Z.quote tx) else none) := Lib.hid (by rw [← HT.out]; rfl)
      have hsz1 : (wr.alloc (.cells #[.int .i64 k, .int .i64 p, .string T, .int .i64 v] 30)).heap.size = wr.heap.size + 1 := by simp
      have HSZ1 := Lib.hid hsz1
      clear ho hsz1
      by_cases hk0 : k = 1
      · have HS : Hid (Z.spell1 (l.getD j default) = some tx) := Lib.hid (by rw [HS1.out, if_pos (by omega)])
        have e1 : ((k : Int) == 1) = true := by rw [beq_iff_eq]; omega
        clear hk0
        have ho3 := World.ownsRow.alloc HO1.out (.cells #[.string T] 9)
        have a2 := (al2_heap wr (.cells #[.int .i64 k, .int .i64 p, .string T, .int .i64 v] 30) (.cells #[.string T] 9)).2
        have hbw := HB1.out.size
        go_wp2_with (at_builtin; refine wpList_push_str rfl _ _ rfl w.heap.size na (wr.heap.size + 1) u3 (strCells (Z.spells (l.take j))) T 9 (0, 0) rfl ho3 rfl a2 ?c1 ?c2 ?_)
        case c1 => exact hnb
        case c2 => (have := HB1.out.size; simp only [World.size_alloc] at this ⊢; omega)
        intro g1 cap w3 h1 h2 h3 h4
        have hg3 := (World.grownBy_alloc (wr.alloc (.cells #[.int .i64 k, .int .i64 p, .string T, .int .i64 v] 30)) (.cells #[.string T] 9) u3.ownBlock).trans h2
        have hb3 := HB1.out.grown hg3 HB1.out.size (fun b hb => HOWN.out b hb)
        have ho4 := OS7.push HTT.out HNA.out h1
        rw [← Z.spell_snoc_some HJL.out HS.out] at ho4
        have HB3 := Lib.hid hb3; have HO4 := Lib.hid ho4
        clear h1 h2 h3 h4 hg3 hb3 ho4 ho3 a2 hbw
        go_wp2_with fail
        go_roundw
        case rel => exact ⟨j + 1, hlt, by go_num, HO4, HB3⟩
        case measure => simp [intOf]; omega
      by_cases hk1 : k = 2
      · have HS : Hid (Z.spell1 (l.getD j default) = some tx) := Lib.hid (by rw [HS1.out, if_pos (by omega)])
        have e1 : ((k : Int) == 1) = false := by rw [beq_eq_false_iff_ne]; omega
        have e2 : ((k : Int) == 2) = true := by rw [beq_iff_eq]; omega
        clear hk0 hk1
        have ho3 := World.ownsRow.alloc HO1.out (.cells #[.string T] 9)
        have a2 := (al2_heap wr (.cells #[.int .i64 k, .int .i64 p, .string T, .int .i64 v] 30) (.cells #[.string T] 9)).2
        have hbw := HB1.out.size
        go_wp2_with (at_builtin; refine wpList_push_str rfl _ _ rfl w.heap.size na (wr.heap.size + 1) u3 (strCells (Z.spells (l.take j))) T 9 (0, 0) rfl ho3 rfl a2 ?c1 ?c2 ?_)
        case c1 => exact hnb
        case c2 => (have := HB1.out.size; simp only [World.size_alloc] at this ⊢; omega)
        intro g1 cap w3 h1 h2 h3 h4
        have hg3 := (World.grownBy_alloc (wr.alloc (.cells #[.int .i64 k, .int .i64 p, .string T, .int .i64 v] 30)) (.cells #[.string T] 9) u3.ownBlock).trans h2
        have hb3 := HB1.out.grown hg3 HB1.out.size (fun b hb => HOWN.out b hb)
        have ho4 := OS7.push HTT.out HNA.out h1
        rw [← Z.spell_snoc_some HJL.out HS.out] at ho4
        have HB3 := Lib.hid hb3; have HO4 := Lib.hid ho4
        clear h1 h2 h3 h4 hg3 hb3 ho4 ho3 a2 hbw
        go_wp2_with fail
        go_roundw
        case rel => exact ⟨j + 1, hlt, by go_num, HO4, HB3⟩
        case measure => simp [intOf]; omega
      by_cases hk2 : k = 5
      · have HS : Hid (Z.spell1 (l.getD j default) = some tx) := Lib.hid (by rw [HS1.out, if_pos (by omega)])
        have e1 : ((k : Int) == 1) = false := by rw [beq_eq_false_iff_ne]; omega
        have e2 : ((k : Int) == 2) = false := by rw [beq_eq_false_iff_ne]; omega
        have e5 : ((k : Int) == 5) = true := by rw [beq_iff_eq]; omega
        clear hk0 hk1 hk2
        have ho3 := World.ownsRow.alloc HO1.out (.cells #[.string T] 9)
        have a2 := (al2_heap wr (.cells #[.int .i64 k, .int .i64 p, .string T, .int .i64 v] 30) (.cells #[.string T] 9)).2
        have hbw := HB1.out.size
        go_wp2_with (at_builtin; refine wpList_push_str rfl _ _ rfl w.heap.size na (wr.heap.size + 1) u3 (strCells (Z.spells (l.take j))) T 9 (0, 0) rfl ho3 rfl a2 ?c1 ?c2 ?_)
        case c1 => exact hnb
        case c2 => (have := HB1.out.size; simp only [World.size_alloc] at this ⊢; omega)
        intro g1 cap w3 h1 h2 h3 h4
        have hg3 := (World.grownBy_alloc (wr.alloc (.cells #[.int .i64 k, .int .i64 p, .string T, .int .i64 v] 30)) (.cells #[.string T] 9) u3.ownBlock).trans h2
        have hb3 := HB1.out.grown hg3 HB1.out.size (fun b hb => HOWN.out b hb)
        have ho4 := OS7.push HTT.out HNA.out h1
        rw [← Z.spell_snoc_some HJL.out HS.out] at ho4
        have HB3 := Lib.hid hb3; have HO4 := Lib.hid ho4
        clear h1 h2 h3 h4 hg3 hb3 ho4 ho3 a2 hbw
        go_wp2_with fail
        go_roundw
        case rel => exact ⟨j + 1, hlt, by go_num, HO4, HB3⟩
        case measure => simp [intOf]; omega
      by_cases hk3 : k = 3
      · have HS : Hid (Z.spell1 (l.getD j default) = some (Lib.itoa v)) := Lib.hid (by rw [HS1.out, if_neg (by omega), if_pos hk3])
        have e1 : ((k : Int) == 1) = false := by rw [beq_eq_false_iff_ne]; omega
        have e2 : ((k : Int) == 2) = false := by rw [beq_eq_false_iff_ne]; omega
        have e5 : ((k : Int) == 5) = false := by rw [beq_eq_false_iff_ne]; omega
        have e3 : ((k : Int) == 3) = true := by rw [beq_iff_eq]; omega
        clear hk0 hk1 hk2 hk3
        have hlen := Lib.itoa_length_le v hv0 hv1
        obtain ⟨X, hX⟩ : ∃ X, X = bS (Lib.itoa v) := ⟨_, rfl⟩
        have zX : X.size ≤ 21 := by rw [hX, bS_size]; exact hlen
        have HX := Lib.hid hX
        have HC : Hid (∀ w', Below w.heap.size w w' → Calls Tryd.prog 25 #[.int .i64 v] w' fun e w2 => e = .returned (.string X) ∧ Below w'.heap.size w' w2) := Lib.hid fun w' hb => by
          refine (Tryd.strconv_Itoa v hv0 hv1 w' (HG.out.below hb).tab).mono ?_
          rintro e w2 ⟨rfl, k, os, rfl⟩
          exact ⟨by rw [hX]; rfl, Lib.below_grow _ _ (Nat.le_refl _) k os⟩
        clear hX hlen
        go_wp2_with fail
        refine (HC.out _ HB1.out).mono ?_
        rintro e w2 ⟨rfl, hb2⟩
        have HB2 := Lib.hid (HB1.out.trans (hb2.mono HB1.out.size))
        have HO2 := Lib.hid (HO1.out.kept (grown_below hb2 none) (Classical.em _))
        clear hb2 r0 r1 r2 r3 t0 t1 t2 t3
        have ho3 := World.ownsRow.alloc HO2.out (.cells #[.string X] 9)
        have a2 := al1_heap w2 (.cells #[.string X] 9)
        have hbw := HB2.out.size
        go_wp2_with (at_builtin; refine wpList_push_str rfl _ _ rfl w.heap.size na (w2.heap.size) u3 (strCells (Z.spells (l.take j))) X 9 (0, 0) rfl ho3 rfl a2 ?c1 ?c2 ?_)
        case c1 => exact hnb
        case c2 => (have := HB2.out.size; simp only [World.size_alloc] at this ⊢; omega)
        intro g1 cap w3 h1 h2 h3 h4
        have hg3 := (World.grownBy_alloc w2 (.cells #[.string X] 9) u3.ownBlock).trans h2
        have hb3 := HB2.out.grown hg3 HB2.out.size (fun b hb => HOWN.out b hb)
        have ho4 := OS7.push HX.out HNA.out h1
        rw [← Z.spell_snoc_some HJL.out HS.out] at ho4
        have HB3 := Lib.hid hb3; have HO4 := Lib.hid ho4
        clear h1 h2 h3 h4 hg3 hb3 ho4 ho3 a2 hbw
        go_wp2_with fail
        go_roundw
        case rel => exact ⟨j + 1, hlt, by go_num, HO4, HB3⟩
        case measure => simp [intOf]; omega
      by_cases hk4 : k = 4
      · have HS : Hid (Z.spell1 (l.getD j default) = some (Z.quote tx)) := Lib.hid (by rw [HS1.out, if_neg (by omega), if_neg hk3, if_pos hk4])
        have e1 : ((k : Int) == 1) = false := by rw [beq_eq_false_iff_ne]; omega
        have e2 : ((k : Int) == 2) = false := by rw [beq_eq_false_iff_ne]; omega
        have e5 : ((k : Int) == 5) = false := by rw [beq_eq_false_iff_ne]; omega
        have e3 : ((k : Int) == 3) = false := by rw [beq_eq_false_iff_ne]; omega
        have e4 : ((k : Int) == 4) = true := by rw [beq_iff_eq]; omega
        clear hk0 hk1 hk2 hk3 hk4
        have hlen := Z.quote_len tx
        obtain ⟨X, hX⟩ : ∃ X, X = bS (Z.quote tx) := ⟨_, rfl⟩
        have zX : X.size ≤ 400002 := by
          rw [hX, bS_size]
          have e : T.size = tx.length := by rw [HTT.out, bS_size]
          omega
        have HX := Lib.hid hX
        have HC : Hid (∀ w : World, Calls Tryd.prog 18 #[.string T] w fun e w' => e = .returned (.string X) ∧ Below w.heap.size w w') := Lib.hid fun w => by
          have := quote_any T w (by omega)
          rw [show T.data.toList = tx by rw [HTT.out]; rfl] at this
          rw [hX]; exact this
        clear hX hlen
        go_wp2_with fail
        refine (HC.out _).mono ?_
        rintro e w2 ⟨rfl, hb2⟩
        have HB2 := Lib.hid (HB1.out.trans (hb2.mono HB1.out.size))
        have HO2 := Lib.hid (HO1.out.kept (grown_below hb2 none) (Classical.em _))
        clear hb2 r0 r1 r2 r3 t0 t1 t2 t3
        have ho3 := World.ownsRow.alloc HO2.out (.cells #[.string X] 9)
        have a2 := al1_heap w2 (.cells #[.string X] 9)
        have hbw := HB2.out.size
        go_wp2_with (at_builtin; refine wpList_push_str rfl _ _ rfl w.heap.size na (w2.heap.size) u3 (strCells (Z.spells (l.take j))) X 9 (0, 0) rfl ho3 rfl a2 ?c1 ?c2 ?_)
        case c1 => exact hnb
        case c2 => (have := HB2.out.size; simp only [World.size_alloc] at this ⊢; omega)
        intro g1 cap w3 h1 h2 h3 h4
        have hg3 := (World.grownBy_alloc w2 (.cells #[.string X] 9) u3.ownBlock).trans h2
        have hb3 := HB2.out.grown hg3 HB2.out.size (fun b hb => HOWN.out b hb)
        have ho4 := OS7.push HX.out HNA.out h1
        rw [← Z.spell_snoc_some HJL.out HS.out] at ho4
        have HB3 := Lib.hid hb3; have HO4 := Lib.hid ho4
        clear h1 h2 h3 h4 hg3 hb3 ho4 ho3 a2 hbw
        go_wp2_with fail
        go_roundw
        case rel => exact ⟨j + 1, hlt, by go_num, HO4, HB3⟩
        case measure => simp [intOf]; omega
      have HS : Hid (Z.spell1 (l.getD j default) = none) := Lib.hid (by rw [HS1.out, if_neg (by omega), if_neg hk3, if_neg hk4])
      have e1 : ((k : Int) == 1) = false := by rw [beq_eq_false_iff_ne]; omega
      have e2 : ((k : Int) == 2) = false := by rw [beq_eq_false_iff_ne]; omega
      have e5 : ((k : Int) == 5) = false := by rw [beq_eq_false_iff_ne]; omega
      have e3 : ((k : Int) == 3) = false := by rw [beq_eq_false_iff_ne]; omega
      have e4 : ((k : Int) == 4) = false := by rw [beq_eq_false_iff_ne]; omega
      clear hk0 hk1 hk2 hk3 hk4
      have HO4 : Hid (OS7 (wr.alloc (.cells #[.int .i64 k, .int .i64 p, .string T, .int .i64 v] 30)) w.heap.size u3 (Z.spells (l.take (j + 1)))) := Lib.hid (by
        rw [Z.spell_snoc_none HJL.out HS.out]; unfold OS7; rw [← HNA.out]; exact HO1.out)
      go_wp2_with fail
      go_roundw
      case rel => exact ⟨j + 1, hlt, by go_num, HO4, HB1⟩
      case measure => simp [intOf]; omega
    · obtain rfl : j = n := by omega
      have hji : decide ((j : Int) < (j : Int)) = false := by simp
      have HO2 : Hid (OS7 wr w.heap.size u3 (Z.spells l)) := Lib.hid (by have := HO.out; rwa [List.take_of_length_le (by rw [HL.out]; omega)] at this)
      clear HO
      have hbz := HB.out.size
      rcases HO2.out.form with ⟨rfl, h0⟩ | ⟨g, cap, rfl, hg, hcap, hcells⟩
      · have HE : Hid (Z.spell l = []) := Lib.hid (by unfold Z.spell; rw [h0, Lib.join_nil])
        clear h0
        go_wp2_with fail
        refine (Tryd.strings_Join_none _ _ _ _).mono ?_
        rintro e w2 ⟨rfl, rfl⟩
        go_wp2_with fail
        go_ret
        exact ⟨by rw [HE.out]; rfl, HB.out⟩
      · obtain ⟨xs, hxs⟩ : ∃ xs, xs = (Z.spells l).map bS := ⟨_, rfl⟩
        rw [← hxs] at hcap hcells ⊢
        have hxm : xs.map (·.data.toList) = Z.spells l := by
          rw [hxs, List.map_map]
          exact List.map_id' _
        have hxl : xs.length ≤ 100000 := by
          rw [hxs, List.length_map]
          have := (Z.lens_le HF.out).2
          rw [HL.out] at this; omega
        have HC : Hid (Calls Tryd.prog 26 #[.slice (some ⟨g, 0, none⟩) xs.length cap, .string ⟨#[32]⟩] wr fun e w' => e = .returned (.string (bS (Z.spell l))) ∧ Below wr.heap.size wr w') := Lib.hid (by
          have hj : Lib.join (xs.map (·.data.toList)) (⟨#[32]⟩ : ByteArray).data.toList = Z.spell l := by rw [hxm]; rfl
          have := Tryd.strings_Join g 0 cap xs ⟨#[32]⟩ wr hcells hg (by omega) hcap (by rw [hj]; have := HSL.out; omega)
          rw [hj] at this
          exact this)
        obtain ⟨m, hm⟩ : ∃ m, m = xs.length := ⟨_, rfl⟩
        rw [← hm] at HC ⊢
        clear hcells hcap hg hxs hxm hxl hm
        go_wp2_with fail
        refine HC.out.mono ?_
        rintro e w2 ⟨rfl, hb2⟩
        have HB2 := Lib.hid (HB.out.trans (hb2.mono hbz))
        clear hb2
        go_wp2_with fail
        go_ret
        exact ⟨rfl, HB2.out⟩
end Go.Proofs.YtffolfnaalijnaaDoor
