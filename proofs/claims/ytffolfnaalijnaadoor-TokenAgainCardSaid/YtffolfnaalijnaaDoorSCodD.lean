/-
  Layer 7: the code's scanner: words, integers, signs.
-/
import Derived.Test.YtffolfnaalijnaaDoorSCodB
import Derived.Test.YtffolfnaalijnaaDoorSCodK
import Derived.Laws.Rows
namespace Go.Proofs.YtffolfnaalijnaaDoor
set_option linter.unusedVariables false
open Go.RowKit

/-- A token as a value. -/
def tokV (k p : Int) (t : ByteArray) (v : Int) : Value := .agg #[.int .i64 k, .int .i64 p, .string t, .int .i64 v]
theorem results_tok {fn : Func} {p q : Tmp} (h : fn.results = #[.cell p 30, .tmp q]) (tmps : Array Value) (w : World) (g1 : Nat) (cs : Array Value) (fr : Nat × Nat) (x : Value)
    (hp : tmps.getD p undef = .pointer (some ⟨g1, 0, none⟩)) (hq : tmps.getD q undef = x)
    (hg : w.heap[g1]? = some (.cells cs 30 fr)) (hi : (Tryd.prog.info? 30).map (·.size) = some cs.size) :
    (results fn tmps).run Tryd.prog w = .ok (.tuple #[.agg cs, x]) w := by
  have hp' : tmps[p]?.getD undef = .pointer (some ⟨g1, 0, none⟩) := by simpa using hp
  have hq' : tmps[q]?.getD undef = x := by simpa using hq
  have l1 := run_loadVar_row w g1 30 _ cs fr _ hg Tryd.underlying30 rfl hi
  simp [results, h, hp', hq', asAddr, l1]

/-- What the reading of a token ends in. -/
def TEnds (g h : Nat) (s : ByteArray) (r : Z.R) (i : Nat) (w : World) (e : Ending) (w' : World) : Prop :=
  w.grownBy w' (some g) ∧ match r with
  | .ok k t v n => e = .returned (.tuple #[tokV k 0 (bS t) v, .int .i64 0]) ∧ Sc w' g h s (i + n)
  | .err er => e = .returned (.tuple #[tokV 0 0 ⟨#[]⟩ 0, .int .i64 er]) ∧ er ≠ 0 ∧ ∃ j, Sc w' g h s j

/-- The cells of a token stored. -/
def put4 (w : World) (g : Nat) (a b c d : Value) : World := (((w.setCell ⟨g, 0, none⟩ a).setCell ⟨g, 1, none⟩ b).setCell ⟨g, 2, none⟩ c).setCell ⟨g, 3, none⟩ d
theorem put4_row {w : World} {g : Nat} {T : TypeId} {x0 x1 x2 x3 : Value} (h : w.heap[g]? = some (.cells #[x0, x1, x2, x3] T (0, 0))) (a b c d : Value) : (put4 w g a b c d).heap[g]? = some (.cells #[a, b, c, d] T (0, 0)) := by
  exact heap_setCell_same _ _ 3 _ _ _ (heap_setCell_same _ _ 2 _ _ _ (heap_setCell_same _ _ 1 _ _ _ (heap_setCell_same _ _ 0 _ _ _ h)))
theorem put4_other (w : World) (g k : Nat) (a b c d : Value) (hk : k ≠ g) : (put4 w g a b c d).heap[k]? = w.heap[k]? := by
  unfold put4
  rw [heap_setCell_other _ _ _ _ hk, heap_setCell_other _ _ _ _ hk, heap_setCell_other _ _ _ _ hk, heap_setCell_other _ _ _ _ hk]
theorem grown7_put4 (w : World) (g : Nat) (a b c d : Value) : w.grownBy (put4 w g a b c d) (some g) :=
  (((grown7_set w g 0 a).trans (grown7_set _ g 1 b)).trans (grown7_set _ g 2 c)).trans (grown7_set _ g 3 d)
/-- A block that is new since w0 may be written. -/
theorem grown7_new {w0 w w' : World} {r : Option Nat} {g : Nat} (h : w0.grownBy w r) (hg : w0.heap.size ≤ g) (k : w.grownBy w' (some g)) : w0.grownBy w' r :=
  h.andThen k (fun x hx => .inl (by injection hx with hx; omega))
theorem Sc.put {w : World} {g h i r : Nat} {s : ByteArray} (k : Sc w g h s i) (h1 : g ≠ r) (h2 : h ≠ r) (a b c d : Value) : Sc (put4 w r a b c d) g h s i :=
  k.kept (grown7_put4 w r a b c d) (fun e => h1 (by injection e)) (fun e => h2 (by injection e))

theorem TEnds.no {g h r : Nat} {s : ByteArray} {R : Z.R} {i j : Nat} {w w0 w' : World} {er : Int} (hR : R = .err er) (he : er ≠ 0) (hg : w.grownBy w0 (some g)) (hr : w.heap.size ≤ r) (k : Sc w0 g h s j) (hw : w' = put4 w0 r (.int .i64 0) (.int .i64 0) (.string ⟨#[]⟩) (.int .i64 0)) (hgr : g < w.heap.size) (hhr : h < w.heap.size) :
    TEnds g h s R i w (.returned (.tuple #[tokV 0 0 ⟨#[]⟩ 0, .int .i64 er])) w' := by
  subst hR hw
  exact ⟨grown7_new hg hr (grown7_put4 _ _ _ _ _ _), rfl, he, j, k.put (by omega) (by omega) _ _ _ _⟩
theorem TEnds.yes {g h r : Nat} {s : ByteArray} {R : Z.R} {i j n : Nat} {w w0 w' : World} {k v : Int} {t : List UInt8} {T : ByteArray} (hR : R = .ok k t v n) (hT : T = bS t) (hj : j = i + n) (hg : w.grownBy w0 (some g)) (hr : w.heap.size ≤ r) (kk : Sc w0 g h s j) (hw : w' = put4 w0 r (.int .i64 k) (.int .i64 0) (.string T) (.int .i64 v)) (hgr : g < w.heap.size) (hhr : h < w.heap.size) :
    TEnds g h s R i w (.returned (.tuple #[tokV k 0 T v, .int .i64 0])) w' := by
  subst hR hw hj hT
  exact ⟨grown7_new hg hr (grown7_put4 _ _ _ _ _ _), rfl, kk.put (by omega) (by omega) _ _ _ _⟩

theorem al1_heap (w : World) (o : Obj) : (w.alloc o).heap[w.heap.size]? = some o := heap_alloc_new w o
theorem al_old {w : World} {o : Obj} {j : Nat} (h : j < w.heap.size) : (w.alloc o).heap[j]? = w.heap[j]? := by
  have := (World.grownBy_alloc w o none).block j h (by simp); exact this
theorem al2_heap (w : World) (o o' : Obj) : ((w.alloc o).alloc o').heap[w.heap.size]? = some o ∧ ((w.alloc o).alloc o').heap[w.heap.size + 1]? = some o' := by
  refine ⟨(al_old (by simp)).trans (al1_heap w o), ?_⟩
  have := al1_heap (w.alloc o) o'
  simpa using this
theorem row4_cells {w : World} {r : Nat} {x0 x1 x2 x3 : Value} {T : TypeId} (h : w.heap[r]? = some (.cells #[x0, x1, x2, x3] T (0, 0))) :
    (w.cell? ⟨r, 0, none⟩ = some x0 ∧ w.cell? ⟨r, 1, none⟩ = some x1 ∧ w.cell? ⟨r, 2, none⟩ = some x2 ∧ w.cell? ⟨r, 3, none⟩ = some x3) ∧
    (w.frozen? ⟨r, 0, none⟩ = false ∧ w.frozen? ⟨r, 1, none⟩ = false ∧ w.frozen? ⟨r, 2, none⟩ = false ∧ w.frozen? ⟨r, 3, none⟩ = false) :=
  ⟨⟨cell_of_row w r 0 _ _ _ h, cell_of_row w r 1 _ _ _ h, cell_of_row w r 2 _ _ _ h, cell_of_row w r 3 _ _ _ h⟩, ⟨frozen_of_row w r 0 _ _ h, frozen_of_row w r 1 _ _ h, frozen_of_row w r 2 _ _ h, frozen_of_row w r 3 _ _ h⟩⟩
theorem inL_word : inL [2, 3] = Z.part := by
  funext c
  unfold inL Z.part
  have h2 := @Z.letter_cls c; have h3 := @Z.digit_cls c
  cases hl : Z.letter c with
  | true => rw [h2.2 hl]; rfl
  | false => cases hd : Z.digit c with
    | true => rw [h3.2 hd]; rfl
    | false =>
      have n2 : Z.cls c ≠ 2 := fun e => by rw [h2.1 e] at hl; cases hl
      have n3 : Z.cls c ≠ 3 := fun e => by rw [h3.1 e] at hd; cases hd
      simp [n2, n3]
theorem inL_digit : inL [3] = Z.digit := by
  funext c
  unfold inL
  have h3 := @Z.digit_cls c
  cases hd : Z.digit c with
  | true => rw [h3.2 hd]; rfl
  | false =>
    have n3 : Z.cls c ≠ 3 := fun e => by rw [h3.1 e] at hd; cases hd
    simp [n3]
theorem inL_blank : inL [1] = Z.blank := by
  funext c
  unfold inL
  have h3 := @Z.blank_cls c
  cases hd : Z.blank c with
  | true => rw [h3.2 hd]; rfl
  | false =>
    have n3 : Z.cls c ≠ 1 := fun e => by rw [h3.1 e] at hd; cases hd
    simp [n3]

set_option maxRecDepth 100000 in
set_option maxHeartbeats 2000000 in
theorem word_any {w : World} {g h i : Nat} {s : ByteArray} (k : Sc w g h s i) :
    Calls Tryd.prog 35 #[.pointer (some ⟨g, 0, none⟩)] w (TEnds g h s (Z.word (left s i)) i w) := by
  have HK := Lib.hid k
  have hlt := k.lt
  have hlh := k.lth
  obtain ⟨R, hR⟩ : ∃ R, R = Z.word (left s i) := ⟨_, rfl⟩
  rw [← hR]
  unfold Z.word at hR
  have HR := Lib.hid hR
  clear k hR
  go_enter Tryd.func35, Tryd.ntmps35
  go_wp2_with fail
  have hkr : Sc ((w.alloc (.cells #[.int .i64 0, .int .i64 0, .string ⟨#[]⟩, .int .i64 0] 30)).alloc (.cells #[.int .u8 2, .int .u8 3] 59)) g h s i := (HK.out.alloc _).alloc _
  have hcr : CR ((w.alloc (.cells #[.int .i64 0, .int .i64 0, .string ⟨#[]⟩, .int .i64 0] 30)).alloc (.cells #[.int .u8 2, .int .u8 3] 59)) (w.heap.size + 1) [2, 3] := ⟨(al2_heap _ _ _).2, by decide⟩
  have hrow : ((w.alloc (.cells #[.int .i64 0, .int .i64 0, .string ⟨#[]⟩, .int .i64 0] 30)).alloc (.cells #[.int .u8 2, .int .u8 3] 59)).heap[w.heap.size]? = some (.cells #[.int .i64 0, .int .i64 0, .string ⟨#[]⟩, .int .i64 0] 30 (0, 0)) := (al2_heap _ _ _).1
  have hg0 : w.grownBy ((w.alloc (.cells #[.int .i64 0, .int .i64 0, .string ⟨#[]⟩, .int .i64 0] 30)).alloc (.cells #[.int .u8 2, .int .u8 3] 59)) (some g) := (World.grownBy_alloc _ _ _).trans (World.grownBy_alloc _ _ _)
  refine (span_any (L := [2, 3]) hkr hcr (by omega) (by decide)).mono ?_
  rintro e w1 ⟨rfl, k1, hg1⟩
  have hrow1 := (hg1.block _ (row_lt7 hrow) (by simp; omega)).trans hrow
  have hg2 := hg0.trans hg1
  rw [inL_word] at k1 ⊢
  have HK1 := Lib.hid k1
  have HG := Lib.hid hg2
  have HROW := Lib.hid hrow1
  obtain ⟨⟨r0, r1, r2, r3⟩, f0, f1, f2, f3⟩ := row4_cells hrow1
  obtain ⟨N, hN⟩ : ∃ N, N = Z.spanN Z.part (left s i) := ⟨_, rfl⟩
  rw [← hN] at HR HK1 ⊢
  obtain ⟨T, hT⟩ : ∃ T, T = bS ((left s i).take N) := ⟨_, rfl⟩
  rw [← hT]
  have hTs : T.size = N := by
    rw [hT, bS_size, List.length_take]
    have := Z.spanN_le Z.part (left s i)
    omega
  have hNs : N ≤ 16384 := by
    have h1 := Z.spanN_le Z.part (left s i)
    have h2 := HK.out.fit
    rw [← hN] at h1
    have h3 : (left s i).length ≤ s.size := by show (s.data.toList.drop i).length ≤ _; rw [List.length_drop, l7_len]; omega
    omega
  have HT := Lib.hid hT
  have HN0 := Lib.hid hN
  clear hN hkr hcr hrow hg0 k1 hg1 hrow1 hg2 hT
  by_cases h64 : 64 < N
  · have HN := Lib.hid h64
    go_wp2_with fail
    (try simp only [Exit.inBlock, Exit.then])
    refine bodyPost_ret (results_tok Tryd.results35 _ _ w.heap.size _ (0, 0) _ rfl rfl (put4_row HROW.out _ _ _ _) (by kernel_rfl)) rfl ?_
    exact TEnds.no (r := w.heap.size) (by rw [HR.out, if_pos HN.out]) (by decide) HG.out (Nat.le_refl _) HK1.out rfl hlt hlh
  · have HN := Lib.hid h64
    have h64i : decide (64 < (N : Int)) = false := by simp; omega
    cases hkw : Z.kw T.data.toList with
    | true =>
      have HKW := Lib.hid hkw
      clear hkw h64
      go_wp2_with fail
      refine (keyword_any T w1).mono ?_
      rintro e w2 ⟨rfl, rfl⟩
      rw [HKW.out]
      go_wp2_with fail
      (try simp only [Exit.inBlock, Exit.then])
      refine bodyPost_ret (results_tok Tryd.results35 _ _ w.heap.size _ (0, 0) _ rfl rfl (put4_row HROW.out _ _ _ _) (by kernel_rfl)) rfl ?_
      have hk := HKW.out
      rw [HT.out, bS_data] at hk
      exact TEnds.yes (r := w.heap.size) (by rw [HR.out, if_neg (by have := HN.out; omega), if_pos hk]) HT.out rfl HG.out (Nat.le_refl _) HK1.out rfl hlt hlh
    | false =>
      have HKW := Lib.hid hkw
      clear hkw h64
      go_wp2_with fail
      refine (keyword_any T w1).mono ?_
      rintro e w2 ⟨rfl, rfl⟩
      rw [HKW.out]
      go_wp2_with fail
      (try simp only [Exit.inBlock, Exit.then])
      refine bodyPost_ret (results_tok Tryd.results35 _ _ w.heap.size _ (0, 0) _ rfl rfl (put4_row HROW.out _ _ _ _) (by kernel_rfl)) rfl ?_
      have hk := HKW.out
      rw [HT.out, bS_data] at hk
      exact TEnds.yes (r := w.heap.size) (by rw [HR.out, if_neg (by have := HN.out; omega), if_neg (by rw [hk]; decide)]) HT.out rfl HG.out (Nat.le_refl _) HK1.out rfl hlt hlh
end Go.Proofs.YtffolfnaalijnaaDoor
