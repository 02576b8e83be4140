/-
  Layer 2: Failure, of the code and of the reference.
-/
import Derived.Test.YtfcbieiefdbbpaaVRefK
import Derived.Test.YtfcbieiefdbbpaaVWorks
import Derived.Deep.RegionHeld3
namespace Go.Proofs.Ytfcbieiefdbbpaa
set_option linter.unusedVariables false
open Go.RowKit
open M (V)

theorem alloc_lt {W : World} {k : Nat} (o : Obj) (h : k < W.heap.size) : k < (W.alloc o).heap.size := by simp; omega
/-- The exception of a failed operation. -/
def failV (kind : ByteArray) (t : V) : V := .mk 5 0 ByteArray.empty [t, .mk 3 0 kind [] []] [⟨#[100, 97, 116, 97]⟩, ⟨#[116, 121, 112, 101]⟩]

theorem fail_pair {W : World} {gk gi T T' hi d : Nat} {k1 n1 : Int} {s1 kind : ByteArray} {x1 y1 : Value} {t : V} (hk : W.heap[gk]? = some (.cells #[.string ⟨#[100, 97, 116, 97]⟩, .string ⟨#[116, 121, 112, 101]⟩] T (0, 0)))
    (hi' : W.heap[gi]? = some (.cells #[.int .i64 k1, .int .i64 n1, .string s1, x1, y1, .int .i64 3, .int .i64 0, .string kind, .slice none 0 0, .slice none 0 0] T' (0, 0))) (hv : VB W 0 hi d (.agg #[.int .i64 k1, .int .i64 n1, .string s1, x1, y1]) t) (hhi : hi ≤ W.heap.size) (hkind : kind.size ≤ 140737488351232) :
    VX W 0 W.heap.size (.agg #[.int .i64 5, .int .i64 0, .string ByteArray.empty, .slice (some ⟨gi, 0, none⟩) 2 2, .slice (some ⟨gk, 0, none⟩) 2 2]) (failV kind t) := by
  have h1 := row_lt hk
  have h2 := row_lt hi'
  refine ⟨d + 1 + 1, some ⟨gi, 0, none⟩, 2, 2, some ⟨gk, 0, none⟩, 2, 2, rfl, by simp [failV, V.k], by simp [failV, V.k], by simp [failV, V.n], by simp [failV, V.n], by simp [failV, V.s], ?_, ?_⟩
  · exact is_pair hi' ((hv.weak (Nat.zero_le _) hhi).up (by omega)) (VB.text _ _ _ _ _ hkind) (Nat.zero_le _) h2
  · exact (ks_pair hk (by decide) (by decide)).weak (Nat.zero_le _) (by omega)

set_option maxRecDepth 100000 in
set_option maxHeartbeats 2000000 in
theorem failureX {v : Value} {t : V} {hi : Nat} {kind : ByteArray} {w : World} (h : VX w 0 hi v t) (hhi : hi ≤ w.heap.size) (hkind : kind.size ≤ 140737488351232) :
    Calls Try.prog 15 #[.string kind, v] w fun e w' => ∃ v', e = .returned v' ∧ VX w' 0 w'.heap.size v' (failV kind t) ∧ Below w.heap.size w w' := by
  obtain ⟨A, m, c, B, p, e, rfl⟩ := h.form
  obtain ⟨d, h⟩ := h
  have hb0 : Below (w.heap.size + 3) (((w.alloc (.cells #[.int .i64 t.k, .int .i64 t.n, .string t.s, .slice A m c, .slice B p e] 26)).alloc (.cells #[.int .i64 0, .int .i64 0, .string ⟨#[]⟩, .slice none 0 0, .slice none 0 0] 26)).alloc (.cells #[.string ⟨#[100, 97, 116, 97]⟩, .string ⟨#[116, 121, 112, 101]⟩] 9)) _ := Below.refl _ _
  have hbA : Below (w.heap.size + 2) ((w.alloc (.cells #[.int .i64 t.k, .int .i64 t.n, .string t.s, .slice A m c, .slice B p e] 26)).alloc (.cells #[.int .i64 0, .int .i64 0, .string ⟨#[]⟩, .slice none 0 0, .slice none 0 0] 26)) _ := Below.refl _ _
  have hz := three_size hb0
  obtain ⟨⟨b0, b1, b2, b3, b4⟩, -⟩ := two5 hbA
  have H := Lib.hid h
  clear h
  go_enter Try.func15, Try.ntmps15
  go_wp2_with fail
  refine (copy_at d _ _ _ _ _ (H.out.later (three_below hb0) hhi) (by omega)).mono ?_
  rintro e w1 ⟨v2, rfl, hv2, hb3⟩
  obtain ⟨A2, m2, c2, B2, p2, e2, rfl⟩ := hv2.agg
  have hb4 := hb0.trans (hb3.mono hz)
  have hz4 := three_size hb4
  have HV := Lib.hid hv2
  clear hv2
  go_wp2_with fail
  refine (text_any _ _).mono ?_
  rintro e w2 ⟨rfl, hb5⟩
  have hb6 := hb4.trans (hb5.mono hz4)
  have hz6 := three_size hb6
  have hs5 := hb5.size
  obtain ⟨q0, q1, q2⟩ := three_heap hb6 (Nat.le_refl _)
  obtain ⟨g0, g1, g2, g3, g4, f0, f1, f2, f3, f4⟩ := lit5 q1
  have hms : w2.heap.size > w.heap.size + 1 := by omega
  have Q1 := Lib.hid q1; have Q2 := Lib.hid q2
  clear q0 q1 q2 b0 b1 b2 b3 b4
  go_wp2_with fail
  have hfin := lit_stored Q1.out (.int .i64 5) (.int .i64 0) (.string ByteArray.empty) (.slice (some ⟨w2.heap.size, 0, none⟩) 2 2) (.slice (some ⟨w.heap.size + 1 + 1, 0, none⟩) 2 2)
  have hbW := stored_below (three_below hb6) (show w.heap.size ≤ w.heap.size + 1 by omega) (.int .i64 5) (.int .i64 0) (.string ByteArray.empty) (.slice (some ⟨w2.heap.size, 0, none⟩) 2 2) (.slice (some ⟨w.heap.size + 1 + 1, 0, none⟩) 2 2)
  have hko : ∀ k, k ≠ w.heap.size + 1 → (stored w2 (w.heap.size + 1) (.int .i64 5) (.int .i64 0) (.string ByteArray.empty) (.slice (some ⟨w2.heap.size, 0, none⟩) 2 2) (.slice (some ⟨w.heap.size + 1 + 1, 0, none⟩) 2 2)).heap[k]? = w2.heap[k]? := fun k hk => stored_other _ _ _ _ _ _ _ _ hk
  have hws := stored_size w2 (w.heap.size + 1) (.int .i64 5) (.int .i64 0) (.string ByteArray.empty) (.slice (some ⟨w2.heap.size, 0, none⟩) 2 2) (.slice (some ⟨w.heap.size + 1 + 1, 0, none⟩) 2 2)
  change bodyPost _ _ _ _ _ ((stored w2 (w.heap.size + 1) (.int .i64 5) (.int .i64 0) (.string ByteArray.empty) (.slice (some ⟨w2.heap.size, 0, none⟩) 2 2) (.slice (some ⟨w.heap.size + 1 + 1, 0, none⟩) 2 2)).alloc (.cells #[.int .i64 t.k, .int .i64 t.n, .string t.s, .slice A2 m2 c2, .slice B2 p2 e2, .int .i64 3, .int .i64 0, .string kind, .slice none 0 0, .slice none 0 0] 26))
  generalize (stored w2 (w.heap.size + 1) (.int .i64 5) (.int .i64 0) (.string ByteArray.empty) (.slice (some ⟨w2.heap.size, 0, none⟩) 2 2) (.slice (some ⟨w.heap.size + 1 + 1, 0, none⟩) 2 2)) = ws at *
  have ho : ∀ k, k < w2.heap.size → (ws.alloc (.cells #[.int .i64 t.k, .int .i64 t.n, .string t.s, .slice A2 m2 c2, .slice B2 p2 e2, .int .i64 3, .int .i64 0, .string kind, .slice none 0 0, .slice none 0 0] 26)).heap[k]? = ws.heap[k]? := fun k hk => Below.heap_alloc _ _ _ (by omega)
  have hn := heap_alloc_new ws (.cells #[.int .i64 t.k, .int .i64 t.n, .string t.s, .slice A2 m2 c2, .slice B2 p2 e2, .int .i64 3, .int .i64 0, .string kind, .slice none 0 0, .slice none 0 0] 26)
  have hbF := hbW.alloc (show w.heap.size ≤ ws.heap.size by omega) (.cells #[.int .i64 t.k, .int .i64 t.n, .string t.s, .slice A2 m2 c2, .slice B2 p2 e2, .int .i64 3, .int .i64 0, .string kind, .slice none 0 0, .slice none 0 0] 26)
  have hsF : (ws.alloc (.cells #[.int .i64 t.k, .int .i64 t.n, .string t.s, .slice A2 m2 c2, .slice B2 p2 e2, .int .i64 3, .int .i64 0, .string kind, .slice none 0 0, .slice none 0 0] 26)).heap.size = w2.heap.size + 1 := by simp [hws]
  rw [hws] at hn
  generalize (ws.alloc (.cells #[.int .i64 t.k, .int .i64 t.n, .string t.s, .slice A2 m2 c2, .slice B2 p2 e2, .int .i64 3, .int .i64 0, .string kind, .slice none 0 0, .slice none 0 0] 26)) = wf at *
  refine bodyPost_ret (v := .agg #[.int .i64 5, .int .i64 0, .string ByteArray.empty, .slice (some ⟨w2.heap.size, 0, none⟩) 2 2, .slice (some ⟨w.heap.size + 1 + 1, 0, none⟩) 2 2]) (results_cell_row Try.results15 _ _ (w.heap.size + 1) 26 _ (0, 0) _ rfl ((ho _ (by omega)).trans hfin) Try.underlying26 rfl (by kernel_rfl)) rfl ?_
  refine ⟨_, rfl, fail_pair (hi := w1.heap.size) (d := d) (T := 9) (T' := 26) ?_ hn ?_ (by omega) hkind, hbF⟩
  · rw [ho _ (by omega), hko _ (by omega)]; exact Q2.out
  · exact (HV.out.kept (fun b x1 x2 => by
      simp only [World.size_alloc] at x1
      rw [ho _ (by omega), hko _ (by omega), hb5.block b (by omega)])).weak (Nat.zero_le _) (Nat.le_refl _)

theorem rfail_end {a : Act} {wf w : World} {R gi gk hi d T T' : Nat} {k1 n1 : Int} {s1 kind : ByteArray} {x1 y1 : Value} {t : V} (ha : a.tmps.getD 4 undef = .pointer (some ⟨R, 0, none⟩)) (hd : a.defers = [])
    (h1 : wf.heap[R]? = some (.cells #[.int .i64 5, .int .i64 0, .string ⟨#[]⟩, .slice (some ⟨gi, 0, none⟩) 2 2, .slice (some ⟨gk, 0, none⟩) 2 2] 26 (0, 0)))
    (hk : wf.heap[gk]? = some (.cells #[.string ⟨#[100, 97, 116, 97]⟩, .string ⟨#[116, 121, 112, 101]⟩] T (0, 0)))
    (hi' : wf.heap[gi]? = some (.cells #[.int .i64 k1, .int .i64 n1, .string s1, x1, y1, .int .i64 3, .int .i64 0, .string kind, .slice none 0 0, .slice none 0 0] T' (0, 0))) (hv : VB wf 0 hi d (.agg #[.int .i64 k1, .int .i64 n1, .string s1, x1, y1]) t) (hhi : hi ≤ wf.heap.size) (hkind : kind.size ≤ 140737488351232) (hb : Below w.heap.size w wf) :
    bodyPost Try.prog Try.f16 (fun e w' => ∃ v', e = .returned v' ∧ VX w' 0 w'.heap.size v' (failV kind t) ∧ Below w.heap.size w w') .ret a wf :=
  bodyPost_ret (v := .agg #[.int .i64 5, .int .i64 0, .string ⟨#[]⟩, .slice (some ⟨gi, 0, none⟩) 2 2, .slice (some ⟨gk, 0, none⟩) 2 2]) (results_cell_row Try.results16 _ _ R 26 _ (0, 0) _ ha h1 Try.underlying26 rfl (by kernel_rfl)) hd
    ⟨_, rfl, fail_pair hk hi' hv hhi hkind, hb⟩
section
variable {a : Act} {w W0 w2 : World} {hi d : Nat} {A B : Option Addr} {m c p e : Nat} {t : V} {kind : ByteArray}
set_option maxHeartbeats 1000000 in
theorem rfail_A (ha : a.tmps.getD 4 undef = .pointer (some ⟨w.heap.size + 1, 0, none⟩)) (hd : a.defers = []) (hbw : Below w.heap.size w W0) (hz : w.heap.size + 2 ≤ W0.heap.size) (hv : VB w 0 hi d (.agg #[.int .i64 t.k, .int .i64 t.n, .string t.s, .slice A m c, .slice B p e]) t) (hhi : hi ≤ w.heap.size) (hkind : kind.size ≤ 140737488351232)
    (hb5 : Below (W0.alloc (.cells #[.string ⟨#[100, 97, 116, 97]⟩, .string ⟨#[116, 121, 112, 101]⟩] 9)).heap.size (W0.alloc (.cells #[.string ⟨#[100, 97, 116, 97]⟩, .string ⟨#[116, 121, 112, 101]⟩] 9)) w2) (hq : w2.heap[w.heap.size + 1]? = some (.cells #[.int .i64 0, .int .i64 0, .string ⟨#[]⟩, .slice none 0 0, .slice none 0 0] 26 (0, 0))) :
    bodyPost Try.prog Try.f16 (fun e w' => ∃ v', e = .returned v' ∧ VX w' 0 w'.heap.size v' (failV kind t) ∧ Below w.heap.size w w') .ret a
      ((stored w2 (w.heap.size + 1) (.int .i64 5) (.int .i64 0) (.string ⟨#[]⟩) (.slice (some ⟨w2.heap.size, 0, none⟩) 2 2) (.slice (some ⟨W0.heap.size, 0, none⟩) 2 2)).alloc (.cells #[.int .i64 t.k, .int .i64 t.n, .string t.s, .slice A m c, .slice B p e, .int .i64 3, .int .i64 0, .string kind, .slice none 0 0, .slice none 0 0] 26)) := by
  have hs := hb5.size
  simp only [World.size_alloc] at hs
  have hk0 : w2.heap[W0.heap.size]? = some (.cells #[.string ⟨#[100, 97, 116, 97]⟩, .string ⟨#[116, 121, 112, 101]⟩] 9 (0, 0)) := (hb5.block _ (by simp)).trans (heap_alloc_new W0 _)
  have hbw2 : Below w.heap.size w w2 := (hbw.alloc hbw.size _).trans (hb5.mono (by simp; omega))
  have hfin := lit_stored hq (.int .i64 5) (.int .i64 0) (.string ⟨#[]⟩) (.slice (some ⟨w2.heap.size, 0, none⟩) 2 2) (.slice (some ⟨W0.heap.size, 0, none⟩) 2 2)
  have hbs := stored_below hbw2 (show w.heap.size ≤ w.heap.size + 1 by omega) (.int .i64 5) (.int .i64 0) (.string ⟨#[]⟩) (.slice (some ⟨w2.heap.size, 0, none⟩) 2 2) (.slice (some ⟨W0.heap.size, 0, none⟩) 2 2)
  have hko := fun k (hk : k ≠ w.heap.size + 1) => stored_other w2 (w.heap.size + 1) k (.int .i64 5) (.int .i64 0) (.string ⟨#[]⟩) (.slice (some ⟨w2.heap.size, 0, none⟩) 2 2) (.slice (some ⟨W0.heap.size, 0, none⟩) 2 2) hk
  have hws := stored_size w2 (w.heap.size + 1) (.int .i64 5) (.int .i64 0) (.string ⟨#[]⟩) (.slice (some ⟨w2.heap.size, 0, none⟩) 2 2) (.slice (some ⟨W0.heap.size, 0, none⟩) 2 2)
  generalize stored w2 (w.heap.size + 1) (.int .i64 5) (.int .i64 0) (.string ⟨#[]⟩) (.slice (some ⟨w2.heap.size, 0, none⟩) 2 2) (.slice (some ⟨W0.heap.size, 0, none⟩) 2 2) = ws at *
  have hn := heap_alloc_new ws (.cells #[.int .i64 t.k, .int .i64 t.n, .string t.s, .slice A m c, .slice B p e, .int .i64 3, .int .i64 0, .string kind, .slice none 0 0, .slice none 0 0] 26)
  rw [hws] at hn
  refine rfail_end (gi := w2.heap.size) (gk := W0.heap.size) (hi := hi) (d := d) ha hd ((Below.heap_alloc _ _ _ (by omega)).trans hfin) ((Below.heap_alloc _ _ _ (by omega)).trans ((hko _ (by omega)).trans hk0)) hn (hv.later (hbs.alloc (by omega) _) hhi) (by simp; omega) hkind (hbs.alloc (by omega) _)
set_option maxHeartbeats 1000000 in
theorem rfail_B (ha : a.tmps.getD 4 undef = .pointer (some ⟨w.heap.size + 1, 0, none⟩)) (hd : a.defers = []) (hbw : Below w.heap.size w W0) (hz : w.heap.size + 2 ≤ W0.heap.size) (hv : VB w 0 hi d (.agg #[.int .i64 t.k, .int .i64 t.n, .string t.s, .slice A m c, .slice B p e]) t) (hhi : hi ≤ w.heap.size) (hkind : kind.size ≤ 140737488351232)
    (hb5 : Below W0.heap.size W0 w2) (hq : w2.heap[w.heap.size + 1]? = some (.cells #[.int .i64 0, .int .i64 0, .string ⟨#[]⟩, .slice none 0 0, .slice none 0 0] 26 (0, 0))) :
    bodyPost Try.prog Try.f16 (fun e w' => ∃ v', e = .returned v' ∧ VX w' 0 w'.heap.size v' (failV kind t) ∧ Below w.heap.size w w') .ret a
      (((stored w2 (w.heap.size + 1) (.int .i64 5) (.int .i64 0) (.string ⟨#[]⟩) (.slice (some ⟨w2.heap.size + 1, 0, none⟩) 2 2) (.slice (some ⟨w2.heap.size, 0, none⟩) 2 2)).alloc (.cells #[.string ⟨#[100, 97, 116, 97]⟩, .string ⟨#[116, 121, 112, 101]⟩] 9)).alloc (.cells #[.int .i64 t.k, .int .i64 t.n, .string t.s, .slice A m c, .slice B p e, .int .i64 3, .int .i64 0, .string kind, .slice none 0 0, .slice none 0 0] 26)) := by
  have hs := hb5.size
  have hbw2 : Below w.heap.size w w2 := hbw.trans (hb5.mono (by omega))
  have hfin := lit_stored hq (.int .i64 5) (.int .i64 0) (.string ⟨#[]⟩) (.slice (some ⟨w2.heap.size + 1, 0, none⟩) 2 2) (.slice (some ⟨w2.heap.size, 0, none⟩) 2 2)
  have hbs := stored_below hbw2 (show w.heap.size ≤ w.heap.size + 1 by omega) (.int .i64 5) (.int .i64 0) (.string ⟨#[]⟩) (.slice (some ⟨w2.heap.size + 1, 0, none⟩) 2 2) (.slice (some ⟨w2.heap.size, 0, none⟩) 2 2)
  have hws := stored_size w2 (w.heap.size + 1) (.int .i64 5) (.int .i64 0) (.string ⟨#[]⟩) (.slice (some ⟨w2.heap.size + 1, 0, none⟩) 2 2) (.slice (some ⟨w2.heap.size, 0, none⟩) 2 2)
  generalize stored w2 (w.heap.size + 1) (.int .i64 5) (.int .i64 0) (.string ⟨#[]⟩) (.slice (some ⟨w2.heap.size + 1, 0, none⟩) 2 2) (.slice (some ⟨w2.heap.size, 0, none⟩) 2 2) = ws at *
  have hn := heap_alloc_new ws (.cells #[.string ⟨#[100, 97, 116, 97]⟩, .string ⟨#[116, 121, 112, 101]⟩] 9)
  have hbs2 := hbs.alloc (show w.heap.size ≤ ws.heap.size by omega) (.cells #[.string ⟨#[100, 97, 116, 97]⟩, .string ⟨#[116, 121, 112, 101]⟩] 9)
  have hf2 : (ws.alloc (.cells #[.string ⟨#[100, 97, 116, 97]⟩, .string ⟨#[116, 121, 112, 101]⟩] 9)).heap[w.heap.size + 1]? = _ := (Below.heap_alloc _ _ _ (by omega)).trans hfin
  have hw2 : (ws.alloc (.cells #[.string ⟨#[100, 97, 116, 97]⟩, .string ⟨#[116, 121, 112, 101]⟩] 9)).heap.size = w2.heap.size + 1 := by simp [hws]
  rw [hws] at hn
  generalize (ws.alloc (.cells #[.string ⟨#[100, 97, 116, 97]⟩, .string ⟨#[116, 121, 112, 101]⟩] 9)) = wu at *
  have hn2 := heap_alloc_new wu (.cells #[.int .i64 t.k, .int .i64 t.n, .string t.s, .slice A m c, .slice B p e, .int .i64 3, .int .i64 0, .string kind, .slice none 0 0, .slice none 0 0] 26)
  rw [hw2] at hn2
  refine rfail_end (gi := w2.heap.size + 1) (gk := w2.heap.size) (hi := hi) (d := d) ha hd ((Below.heap_alloc _ _ _ (by omega)).trans hf2) ((Below.heap_alloc _ _ _ (by omega)).trans hn) hn2 (hv.later (hbs2.alloc (by omega) _) hhi) (by simp; omega) hkind (hbs2.alloc (by omega) _)
set_option maxHeartbeats 1000000 in
theorem rfail_C (ha : a.tmps.getD 4 undef = .pointer (some ⟨w.heap.size + 1, 0, none⟩)) (hd : a.defers = []) (hbw : Below w.heap.size w W0) (hz : w.heap.size + 2 ≤ W0.heap.size) (hv : VB w 0 hi d (.agg #[.int .i64 t.k, .int .i64 t.n, .string t.s, .slice A m c, .slice B p e]) t) (hhi : hi ≤ w.heap.size) (hkind : kind.size ≤ 140737488351232)
    (hb5 : Below W0.heap.size W0 w2) (hq : w2.heap[w.heap.size + 1]? = some (.cells #[.int .i64 0, .int .i64 0, .string ⟨#[]⟩, .slice none 0 0, .slice none 0 0] 26 (0, 0))) :
    bodyPost Try.prog Try.f16 (fun e w' => ∃ v', e = .returned v' ∧ VX w' 0 w'.heap.size v' (failV kind t) ∧ Below w.heap.size w w') .ret a
      (((stored w2 (w.heap.size + 1) (.int .i64 5) (.int .i64 0) (.string ⟨#[]⟩) (.slice (some ⟨w2.heap.size, 0, none⟩) 2 2) (.slice (some ⟨w2.heap.size + 1, 0, none⟩) 2 2)).alloc (.cells #[.int .i64 t.k, .int .i64 t.n, .string t.s, .slice A m c, .slice B p e, .int .i64 3, .int .i64 0, .string kind, .slice none 0 0, .slice none 0 0] 26)).alloc (.cells #[.string ⟨#[100, 97, 116, 97]⟩, .string ⟨#[116, 121, 112, 101]⟩] 9)) := by
  have hs := hb5.size
  have hbw2 : Below w.heap.size w w2 := hbw.trans (hb5.mono (by omega))
  have hfin := lit_stored hq (.int .i64 5) (.int .i64 0) (.string ⟨#[]⟩) (.slice (some ⟨w2.heap.size, 0, none⟩) 2 2) (.slice (some ⟨w2.heap.size + 1, 0, none⟩) 2 2)
  have hbs := stored_below hbw2 (show w.heap.size ≤ w.heap.size + 1 by omega) (.int .i64 5) (.int .i64 0) (.string ⟨#[]⟩) (.slice (some ⟨w2.heap.size, 0, none⟩) 2 2) (.slice (some ⟨w2.heap.size + 1, 0, none⟩) 2 2)
  have hws := stored_size w2 (w.heap.size + 1) (.int .i64 5) (.int .i64 0) (.string ⟨#[]⟩) (.slice (some ⟨w2.heap.size, 0, none⟩) 2 2) (.slice (some ⟨w2.heap.size + 1, 0, none⟩) 2 2)
  generalize stored w2 (w.heap.size + 1) (.int .i64 5) (.int .i64 0) (.string ⟨#[]⟩) (.slice (some ⟨w2.heap.size, 0, none⟩) 2 2) (.slice (some ⟨w2.heap.size + 1, 0, none⟩) 2 2) = ws at *
  have hn := heap_alloc_new ws (.cells #[.int .i64 t.k, .int .i64 t.n, .string t.s, .slice A m c, .slice B p e, .int .i64 3, .int .i64 0, .string kind, .slice none 0 0, .slice none 0 0] 26)
  have hbs2 := hbs.alloc (show w.heap.size ≤ ws.heap.size by omega) (.cells #[.int .i64 t.k, .int .i64 t.n, .string t.s, .slice A m c, .slice B p e, .int .i64 3, .int .i64 0, .string kind, .slice none 0 0, .slice none 0 0] 26)
  have hf2 : (ws.alloc (.cells #[.int .i64 t.k, .int .i64 t.n, .string t.s, .slice A m c, .slice B p e, .int .i64 3, .int .i64 0, .string kind, .slice none 0 0, .slice none 0 0] 26)).heap[w.heap.size + 1]? = _ := (Below.heap_alloc _ _ _ (by omega)).trans hfin
  have hw2 : (ws.alloc (.cells #[.int .i64 t.k, .int .i64 t.n, .string t.s, .slice A m c, .slice B p e, .int .i64 3, .int .i64 0, .string kind, .slice none 0 0, .slice none 0 0] 26)).heap.size = w2.heap.size + 1 := by simp [hws]
  rw [hws] at hn
  generalize (ws.alloc (.cells #[.int .i64 t.k, .int .i64 t.n, .string t.s, .slice A m c, .slice B p e, .int .i64 3, .int .i64 0, .string kind, .slice none 0 0, .slice none 0 0] 26)) = wu at *
  have hn2 := heap_alloc_new wu (.cells #[.string ⟨#[100, 97, 116, 97]⟩, .string ⟨#[116, 121, 112, 101]⟩] 9)
  rw [hw2] at hn2
  refine rfail_end (gi := w2.heap.size) (gk := w2.heap.size + 1) (hi := hi) (d := d) ha hd ((Below.heap_alloc _ _ _ (by omega)).trans hf2) hn2 ((Below.heap_alloc _ _ _ (by omega)).trans hn) (hv.later (hbs2.alloc (by omega) _) hhi) (by simp; omega) hkind (hbs2.alloc (by omega) _)
end

set_option maxRecDepth 100000 in
set_option maxHeartbeats 4000000 in
theorem rFailureX {v : Value} {t : V} {hi : Nat} {kind : ByteArray} {w : World} (h : VX w 0 hi v t) (hhi : hi ≤ w.heap.size) (hkind : kind.size ≤ 140737488351232) :
    Calls Try.prog 16 #[.string kind, v] w fun e w' => ∃ v', e = .returned v' ∧ VX w' 0 w'.heap.size v' (failV kind t) ∧ Below w.heap.size w w' := by
  obtain ⟨A, m, c, B, p, e, rfl⟩ := h.form
  obtain ⟨d, h⟩ := h
  have hb0 : Below (w.heap.size + 2) ((w.alloc (.cells #[.int .i64 t.k, .int .i64 t.n, .string t.s, .slice A m c, .slice B p e] 26)).alloc (.cells #[.int .i64 0, .int .i64 0, .string ⟨#[]⟩, .slice none 0 0, .slice none 0 0] 26)) _ := Below.refl _ _
  have hz := two_size hb0
  obtain ⟨⟨b0, b1, b2, b3, b4⟩, -⟩ := two5 hb0
  have H := Lib.hid h
  clear h
  obtain ⟨q0, q1⟩ := two_heap hb0 (Nat.le_refl _)
  have hbw := two_below hb0
  have Q1 := Lib.hid q1
  clear q0 q1 hb0
  go_enter Try.func16, Try.ntmps16
  go_wp2_with fail
  generalize ((w.alloc (.cells #[.int .i64 t.k, .int .i64 t.n, .string t.s, .slice A m c, .slice B p e] 26)).alloc (.cells #[.int .i64 0, .int .i64 0, .string ⟨#[]⟩, .slice none 0 0, .slice none 0 0] 26)) = W0 at *
  have hm1 : W0.heap.size > w.heap.size := by omega
  have hm2 : W0.heap.size > w.heap.size + 1 := by omega
  have c90 := b0; have c91 := b1; have c92 := b2; have c93 := b3; have c94 := b4
  go_region_with (
    go_at_call 14
    refine (rText_any _ _).mono ?_
    rintro e w2 ⟨rfl, hb5⟩
    have q1 : w2.heap[w.heap.size + 1]? = some (.cells #[.int .i64 0, .int .i64 0, .string ⟨#[]⟩, .slice none 0 0, .slice none 0 0] 26 (0, 0)) := by
      first
        | exact (hb5.block _ hm2).trans Q1.out
        | exact (hb5.block _ (alloc_lt _ hm2)).trans ((Below.heap_alloc _ _ _ hm2).trans Q1.out)
    obtain ⟨g0, g1, g2, g3, g4, f0, f1, f2, f3, f4⟩ := lit5 q1
    have q2 : ∀ i, w2.cell? ⟨w.heap.size, i, none⟩ = W0.cell? ⟨w.heap.size, i, none⟩ := fun i => by
      first
        | exact hb5.cell (p := ⟨w.heap.size, i, none⟩) hm1
        | exact (hb5.cell (p := ⟨w.heap.size, i, none⟩) (alloc_lt _ hm1)).trans (World.cell?_of_block (Below.heap_alloc _ _ _ hm1))
    have d0 := (q2 0).trans c90; have d1 := (q2 1).trans c91; have d2 := (q2 2).trans c92; have d3 := (q2 3).trans c93; have d4 := (q2 4).trans c94
    have hm4 : w2.heap.size > w.heap.size + 1 := row_lt q1
    have hm3 : w2.heap.size > w.heap.size := Nat.lt_of_succ_lt hm4
    have Q2 := Lib.hid q1
    clear q1 q2)
  all_goals (go_wp2_with fail)
  all_goals (have hb6 := (below_drew (Below.refl _ _)).trans hb5)
  · exact rfail_A rfl rfl hbw (by omega) H.out hhi hkind hb6 Q2.out
  · exact rfail_A rfl rfl hbw (by omega) H.out hhi hkind hb6 Q2.out
  · exact rfail_A rfl rfl hbw (by omega) H.out hhi hkind hb6 Q2.out
  · exact rfail_B rfl rfl hbw (by omega) H.out hhi hkind hb6 Q2.out
  · exact rfail_C rfl rfl hbw (by omega) H.out hhi hkind hb6 Q2.out
  · exact rfail_B rfl rfl hbw (by omega) H.out hhi hkind hb6 Q2.out
  · exact rfail_B rfl rfl hbw (by omega) H.out hhi hkind hb6 Q2.out
  · exact rfail_C rfl rfl hbw (by omega) H.out hhi hkind hb6 Q2.out
end Go.Proofs.Ytfcbieiefdbbpaa
