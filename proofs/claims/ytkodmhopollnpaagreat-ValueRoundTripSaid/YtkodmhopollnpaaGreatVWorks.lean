/-
  Layer 2: works.
-/
import Derived.Test.YtkodmhopollnpaaGreatVCodL
import Derived.Test.YtkodmhopollnpaaGreatVCodF
import Derived.Test.YtkodmhopollnpaaGreatVCodE
import Derived.Test.YtkodmhopollnpaaGreatVCodI
import Derived.Deep.RegionWith
namespace Go.Proofs.YtkodmhopollnpaaGreat
set_option linter.unusedVariables false
open Go.RowKit
open M (V)

theorem ks_pair {W : World} {g T : Nat} {a b : ByteArray} (h : W.heap[g]? = some (.cells #[.string a, .string b] T (0, 0))) (ha : a.size ≤ 140737488351232) (hb : b.size ≤ 140737488351232) : KS W g (g + 1) (some ⟨g, 0, none⟩) 2 2 [a, b] := by
  refine ⟨rfl, Nat.le_refl _, by decide, (fun e => by cases e), fun j hj => ?_, fun _ => ⟨g, 0, rfl, Nat.le_refl _, Nat.lt_succ_self _, fun j hj => ?_⟩⟩
  · rcases j with _ | _ | j
    · exact ha
    · exact hb
    · omega
  · rw [Nat.zero_add, cell_of_row W g j _ T (0, 0) h]
    rcases j with _ | _ | j
    · rfl
    · rfl
    · omega
theorem is_pair {W : World} {g T lo hi d : Nat} {k1 n1 k2 n2 : Int} {s1 s2 : ByteArray} {x1 y1 x2 y2 : Value} {t1 t2 : V} (h : W.heap[g]? = some (.cells #[.int .i64 k1, .int .i64 n1, .string s1, x1, y1, .int .i64 k2, .int .i64 n2, .string s2, x2, y2] T (0, 0)))
    (h1 : VB W lo hi d (.agg #[.int .i64 k1, .int .i64 n1, .string s1, x1, y1]) t1) (h2 : VB W lo hi d (.agg #[.int .i64 k2, .int .i64 n2, .string s2, x2, y2]) t2) (hlo : lo ≤ g) (hhi : g < hi) : IS W lo hi (VB W lo hi d) (some ⟨g, 0, none⟩) 2 2 [t1, t2] := by
  refine IS.row h rfl (Nat.le_refl _) (by decide) hlo hhi fun q hq => ?_
  rcases q with _ | _ | q
  · exact ⟨_, _, _, _, _, rfl, rfl, rfl, rfl, rfl, h1⟩
  · exact ⟨_, _, _, _, _, rfl, rfl, rfl, rfl, rfl, h2⟩
  · omega

theorem perm2 {p : List Nat} (h : p.Perm (List.range 2)) : p = [0, 1] ∨ p = [1, 0] := by
  have h1 : p.length = 2 := by simpa using h.length_eq
  have h2 : p.Nodup := h.nodup_iff.2 (List.nodup_range)
  match p, h1 with
  | [x, y], _ =>
    have hx : x < 2 := by simpa using (h.mem_iff (a := x)).1 (by simp)
    have hy : y < 2 := by simpa using (h.mem_iff (a := y)).1 (by simp)
    have hxy : x ≠ y := by simpa using h2
    rcases Nat.lt_or_ge x 1 with h | h
    · left; rw [show x = 0 by omega, show y = 1 by omega]
    · right; rw [show x = 1 by omega, show y = 0 by omega]
theorem bl_ab : Go.Op.bytesLess (⟨#[97]⟩ : ByteArray).toList (⟨#[98]⟩ : ByteArray).toList = true := by rw [ByteArray.toList_eq, ByteArray.toList_eq]; decide
theorem rise_ab : M.rise [⟨#[97]⟩, ⟨#[98]⟩] = true := M.rise_yes fun i hi => by
  have : i = 0 := by simp at hi; omega
  subst this
  exact bl_ab
theorem rise_aa : M.rise [⟨#[97]⟩, ⟨#[97]⟩] = false := M.rise_no (i := 0) (by decide) (M.bl_irrefl _)
theorem map_within (n1 n2 : Int) : V.within (.mk 5 0 ByteArray.empty [.mk 2 n2 ByteArray.empty [] [], .mk 2 n1 ByteArray.empty [] []] [⟨#[97]⟩, ⟨#[98]⟩]) = true := by
  simp [V.within, V.short, V.shorts, V.txt, V.dep, V.deps, V.sz, V.szs, V.s, V.ks, M.fits, ByteArray.size]
theorem map_wf (n1 n2 : Int) : V.wf (.mk 5 0 ByteArray.empty [.mk 2 n2 ByteArray.empty [] [], .mk 2 n1 ByteArray.empty [] []] [⟨#[97]⟩, ⟨#[98]⟩]) = true := by
  simp [V.wf, V.wfs, V.top, rise_ab, M.uses]
theorem map_ba {B d : Nat} {n1 n2 : Int} {w w' : World} {e : Ending} (h : NewM B d [⟨#[98]⟩, ⟨#[97]⟩] [.mk 2 n1 ByteArray.empty [] [], .mk 2 n2 ByteArray.empty [] []] w e w') :
    ∃ A n c A' n' c', e = .returned (.tuple #[.agg #[.int .i64 5, .int .i64 0, .string ByteArray.empty, .slice A n c, .slice A' n' c'], .int .i64 0]) ∧ VB w' B w'.heap.size (d + 1) (.agg #[.int .i64 5, .int .i64 0, .string ByteArray.empty, .slice A n c, .slice A' n' c']) (.mk 5 0 ByteArray.empty [.mk 2 n2 ByteArray.empty [] [], .mk 2 n1 ByteArray.empty [] []] [⟨#[97]⟩, ⟨#[98]⟩]) ∧ Below B w w' := by
  obtain ⟨p, hp, hs, h1, h2, h3, hb⟩ := h
  rcases perm2 hp with rfl | rfl
  · have h4 := hs 0 1 (by decide) (by decide)
    have h5 : Go.Op.bytesLess (⟨#[97]⟩ : ByteArray).toList (⟨#[98]⟩ : ByteArray).toList = false := h4
    rw [bl_ab] at h5; cases h5
  · obtain ⟨v, e1, e2⟩ := h3 rise_ab (map_within n1 n2)
    obtain ⟨A, n, c, A', n', c', rfl⟩ := e2.agg
    exact ⟨A, n, c, A', n', c', e1, e2, hb⟩
theorem map_aa {B d : Nat} {t1 t2 : V} {w w' : World} {e : Ending} (h : NewM B d [⟨#[97]⟩, ⟨#[97]⟩] [t1, t2] w e w') :
    e = .returned (.tuple #[.agg #[.int .i64 0, .int .i64 0, .string ByteArray.empty, .slice none 0 0, .slice none 0 0], .int .i64 9]) ∧ Below B w w' := by
  obtain ⟨p, hp, hs, h1, h2, h3, hb⟩ := h
  rcases perm2 hp with rfl | rfl
  · exact ⟨h1 rise_aa, hb⟩
  · exact ⟨h1 rise_aa, hb⟩

theorem code_list : V.code (.mk 4 0 ByteArray.empty [.mk 2 5 ByteArray.empty [] [], .mk 3 0 ⟨#[120]⟩ [] []] []) = [8, 4, 4, 10, 6, 2, 120] := by
  unfold V.code
  rw [if_pos (by simp [V.wf, V.wfs, V.top, M.uses])]
  have e : ∀ u : Nat, u < 128 → M.enc u = [UInt8.ofNat u] := fun u hu => by rw [M.enc, if_pos hu]
  simp [V.encv, V.encs, M.sby, M.zig, e]

def strV (l : List UInt8) : ByteArray := ⟨l.toArray⟩
set_option maxRecDepth 100000 in
theorem run_convV {w : World} {lo hi n c : Nat} {A : Option Addr} {l : List UInt8} (h : RB w lo hi A n c l) : (convert 22 9 (.slice A n c)).run Tryz.prog w = .ok (.string (strV l)) w := by
  rcases A with _ | ad
  · obtain rfl := h.nil rfl
    obtain rfl : n = 0 := by have := h.cap; omega
    obtain rfl : l = [] := List.eq_nil_of_length_eq_zero h.len
    exact run_convert_bytes_nil w _ _ Tryz.underlying22 Tryz.underlying5 0 0 _ Tryz.underlying9
  · rcases Nat.eq_zero_or_pos n with h0 | h0
    · subst h0
      obtain rfl : l = [] := List.eq_nil_of_length_eq_zero h.len
      rw [run_convert_bytes_string w _ _ _ _ _ _ Tryz.underlying22 Tryz.underlying5 Tryz.underlying9]
      exact run_bytesToString w ad 0 c [] (by simp [loadCells, loadCellsFrom])
    · obtain ⟨b, off, e, _, _, hc⟩ := h.at_ h0
      injection e with e
      subst e
      rw [run_convert_bytes_arg w _ _ Tryz.underlying22 Tryz.underlying5 b off n c (l.map fun x => (x.toNat : Int)) (by rw [List.length_map, h.len]) ?_ _ Tryz.underlying9]
      · congr 2
        simp [strOfNums, strV, List.map_map, Function.comp_def]
      · intro i hi
        rw [hc i hi]
        have hil : i < l.length := by rw [h.len]; exact hi
        simp [List.getD, hil]

theorem same_22 : V.same (.mk 2 2 ByteArray.empty [] []) (.mk 2 2 ByteArray.empty [] []) = true := M.V.same_yes rfl
theorem ord_93 : V.ord (.mk 2 9 ByteArray.empty [] []) (.mk 3 0 ⟨#[]⟩ [] []) = -1 := by
  unfold V.ord
  rw [if_pos (by simp [V.wf, V.wfs, V.top, M.uses])]
  simp [V.cmp, V.k]

set_option maxRecDepth 100000 in
set_option maxHeartbeats 4000000 in
theorem works_any (w : World) : Calls Tryz.prog 5 #[] w fun e w' => e = .returned (.bool true) ∧ Below w.heap.size w w' := by
  go_enter Tryz.func5, Tryz.ntmps5
  go_wp2_with fail
  refine (int_any 1 _).mono ?_
  rintro e w1 ⟨rfl, hb1⟩
  go_wp2_with fail
  refine (int_any 2 _).mono ?_
  rintro e w2 ⟨rfl, hb2⟩
  have hz1 := hb1.size
  have hz2 := hb2.size
  simp only [World.size_alloc] at hz1
  have hc1 : Below w.heap.size w w2 := (((Below.refl _ _).alloc (Nat.le_refl _) _).trans (hb1.mono (by simp))).trans (hb2.mono (by omega))
  have k1 : w2.heap[w.heap.size]? = some (.cells #[.string ⟨#[98]⟩, .string ⟨#[97]⟩] 9 (0, 0)) := (hb2.block _ (by omega)).trans ((hb1.block _ (by simp)).trans Array.getElem?_push_size)
  go_wp2_with fail
  generalize ho2 : Obj.cells #[.int .i64 2, .int .i64 1, .string ByteArray.empty, .slice none 0 0, .slice none 0 0, .int .i64 2, .int .i64 2, .string ByteArray.empty, .slice none 0 0, .slice none 0 0] 31 = o2
  have k2 : (w2.alloc o2).heap[w2.heap.size]? = some (.cells #[.int .i64 2, .int .i64 1, .string ByteArray.empty, .slice none 0 0, .slice none 0 0, .int .i64 2, .int .i64 2, .string ByteArray.empty, .slice none 0 0, .slice none 0 0] 31 (0, 0)) := by rw [ho2]; exact Array.getElem?_push_size
  have k3 : (w2.alloc o2).heap[w.heap.size]? = some (.cells #[.string ⟨#[98]⟩, .string ⟨#[97]⟩] 9 (0, 0)) := (Below.heap_alloc _ _ _ (by omega)).trans k1
  refine (map_some (ks_pair k3 (by decide) (by decide)) (by simp; omega) (by decide) (is_pair (lo := w2.heap.size) (hi := w2.heap.size + 1) k2 (VB.int _ _ _ 0 1 (by decide) (by decide)) (VB.int _ _ _ 0 2 (by decide) (by decide)) (Nat.le_refl _) (Nat.lt_succ_self _)) (by simp)).mono ?_
  intro e w3 hm
  obtain ⟨A3, n3, c3, B3, m3, e3, rfl, hv3, hb3⟩ := map_ba hm
  have hc3 : Below w.heap.size w w3 := (hc1.alloc (by omega) o2).trans (hb3.mono (by simp; omega))
  have hz3 : w.heap.size ≤ w3.heap.size := hc3.size
  have HV3 := Lib.hid hv3
  have HC3 := Lib.hid hc3
  simp only [World.size_alloc] at hv3
  clear hm hv3 hb3 hb2 hb1 k1 k2 k3 hc1 hc3
  go_wp2_with fail
  refine (int_any 1 _).mono ?_
  rintro e w4 ⟨rfl, hb4⟩
  go_wp2_with fail
  refine (int_any 2 _).mono ?_
  rintro e w5 ⟨rfl, hb5⟩
  have hz4 := hb4.size
  have hz5 := hb5.size
  simp only [World.size_alloc] at hz4
  have hc5 : Below w3.heap.size w3 w5 := ((((Below.refl _ _).alloc (Nat.le_refl _) _).alloc (by simp) _).trans (hb4.mono (by simp; omega))).trans (hb5.mono (by omega))
  have m5 : w5.heap[w3.heap.size]? = some (.cells #[.int .i64 5, .int .i64 0, .string ByteArray.empty, .slice A3 n3 c3, .slice B3 m3 e3] 31 (0, 0)) := (hb5.block _ (by omega)).trans ((hb4.block _ (by simp; omega)).trans ((Below.heap_alloc _ _ _ (by simp)).trans Array.getElem?_push_size))
  have k5 : w5.heap[w3.heap.size + 1]? = some (.cells #[.string ⟨#[97]⟩, .string ⟨#[97]⟩] 9 (0, 0)) := (hb5.block _ (by omega)).trans ((hb4.block _ (by simp)).trans (by rw [show w3.heap.size + 1 = (w3.alloc (.cells #[.int .i64 5, .int .i64 0, .string ByteArray.empty, .slice A3 n3 c3, .slice B3 m3 e3] 31)).heap.size by simp]; exact Array.getElem?_push_size))
  go_wp2_with fail
  have k6 : (w5.alloc o2).heap[w5.heap.size]? = some (.cells #[.int .i64 2, .int .i64 1, .string ByteArray.empty, .slice none 0 0, .slice none 0 0, .int .i64 2, .int .i64 2, .string ByteArray.empty, .slice none 0 0, .slice none 0 0] 31 (0, 0)) := by rw [ho2]; exact Array.getElem?_push_size
  have k7 : (w5.alloc o2).heap[w3.heap.size + 1]? = some (.cells #[.string ⟨#[97]⟩, .string ⟨#[97]⟩] 9 (0, 0)) := (Below.heap_alloc _ _ _ (by omega)).trans k5
  refine (map_some (ks_pair k7 (by decide) (by decide)) (by simp; omega) (by decide) (is_pair (lo := w5.heap.size) (hi := w5.heap.size + 1) k6 (VB.int _ _ _ 0 1 (by decide) (by decide)) (VB.int _ _ _ 0 2 (by decide) (by decide)) (Nat.le_refl _) (Nat.lt_succ_self _)) (by simp)).mono ?_
  intro e w6 hm
  obtain ⟨rfl, hb6⟩ := map_aa hm
  have hz6 := hb6.size
  simp only [World.size_alloc] at hz6
  have hc6 : Below w3.heap.size w3 w6 := (hc5.alloc (by omega) o2).trans (hb6.mono (by simp; omega))
  have m6 : w6.heap[w3.heap.size]? = _ := (hb6.block _ (by simp; omega)).trans ((Below.heap_alloc _ _ _ (by omega)).trans m5)
  clear hm m5 k5 k6 k7 hb6 hb5 hb4 hc5
  obtain ⟨m0, m1, m2, m3', m4, -, -, -, -, -⟩ := lit5 m6
  clear m6
  have hlt6 : w6.heap.size > w3.heap.size := by omega
  go_wp2_with fail
  have hv6 := HV3.out.later hc6 (Nat.le_refl _)
  refine (getX ⟨_, hv6.alloc (by omega) _⟩ (by simp; omega) _).mono ?_
  rintro e w7 ⟨hg, -, hb7⟩
  have hget : V.get (.mk 5 0 ByteArray.empty [.mk 2 2 ByteArray.empty [] [], .mk 2 1 ByteArray.empty [] []] [⟨#[97]⟩, ⟨#[98]⟩]) ⟨#[97]⟩ = some (.mk 2 2 ByteArray.empty [] []) := by
    unfold V.get
    rw [map_wf]
    rfl
  obtain ⟨v7, rfl, hv7⟩ := hg _ hget
  obtain ⟨A7, n7, c7, B7, m7, e7, rfl⟩ := hv7.form
  have hz7 := hb7.size
  simp only [World.size_alloc] at hz7
  have hc7 : Below w3.heap.size w3 w7 := (hc6.alloc (by omega) _).trans (hb7.mono (by simp; omega))
  have HV7 := Lib.hid hv7
  clear hg hget hv7 hv6 m0 m1 m2 m3' m4 hb7 hc6
  go_wp2_with fail
  refine (int_any 5 _).mono ?_
  rintro e w8 ⟨rfl, hb8⟩
  go_wp2_with fail
  refine (text_any _ _).mono ?_
  rintro e w9 ⟨rfl, hb9⟩
  have hz8 := hb8.size
  have hz9 := hb9.size
  simp only [World.size_alloc] at hz8
  have hc9 : Below w3.heap.size w3 w9 := ((hc7.alloc (by omega) _).trans (hb8.mono (by simp; omega))).trans (hb9.mono (by omega))
  have m9 : w9.heap[w7.heap.size]? = some (.cells #[.int .i64 2, .int .i64 2, .string ByteArray.empty, .slice A7 n7 c7, .slice B7 m7 e7] 31 (0, 0)) := (hb9.block _ (by omega)).trans ((hb8.block _ (by simp)).trans Array.getElem?_push_size)
  obtain ⟨dx, hv7b⟩ := HV7.out
  have hv9 := (hv7b.alloc (Nat.le_refl _) (.cells #[.int .i64 2, .int .i64 2, .string ByteArray.empty, .slice A7 n7 c7, .slice B7 m7 e7] 31)).later (hb8.trans (hb9.mono hb8.size)) (by simp)
  go_wp2_with fail
  generalize ho3 : Obj.cells #[.int .i64 2, .int .i64 5, .string ByteArray.empty, .slice none 0 0, .slice none 0 0, .int .i64 3, .int .i64 0, .string ⟨#[120]⟩, .slice none 0 0, .slice none 0 0] 31 = o3
  have k9 : (w9.alloc o3).heap[w9.heap.size]? = some (.cells #[.int .i64 2, .int .i64 5, .string ByteArray.empty, .slice none 0 0, .slice none 0 0, .int .i64 3, .int .i64 0, .string ⟨#[120]⟩, .slice none 0 0, .slice none 0 0] 31 (0, 0)) := by rw [ho3]; exact Array.getElem?_push_size
  refine (list_any (is_pair (lo := w9.heap.size) (hi := w9.heap.size + 1) k9 (VB.int _ _ _ 0 5 (by decide) (by decide)) (VB.text _ _ _ 0 ⟨#[120]⟩ (by decide)) (Nat.le_refl _) (Nat.lt_succ_self _)) (by simp)).mono ?_
  rintro e w10 ⟨v10, rfl, hv10, hb10⟩
  have hz10 := hb10.size
  simp only [World.size_alloc] at hz10
  have hc10 : Below w3.heap.size w3 w10 := (hc9.alloc (by omega) _).trans (hb10.mono (by simp; omega))
  have m10 := (hb10.block w7.heap.size (by simp; omega)).trans ((Below.heap_alloc _ _ _ (by omega)).trans m9)
  have hva := (hv9.alloc (by omega) o3).later hb10 (by simp; omega)
  clear hb8 hb9 hb10 k9 m9 hv9 hc9 hc7 hv7b
  go_wp2_with fail
  refine (encodeX (RB.nil_ _ 0 0) (Nat.zero_le _) ⟨_, hv10⟩ (Nat.le_refl _) (by rw [code_list]; decide)).mono ?_
  rw [code_list]
  rintro e w11 ⟨v11, rfl, hob, hb11⟩
  obtain ⟨A11, n11, c11, rfl, hrb⟩ := hob.form
  have hc11 : Below w3.heap.size w3 w11 := hc10.trans (hb11.mono (by omega))
  have m11 := (hb11.block w7.heap.size (by omega)).trans m10
  have hv11 := hva.later hb11 (by omega)
  have HV := Lib.hid hv11
  have HC := Lib.hid hc11
  have hz11 := hb11.size
  clear hb11 m10 hva hv11 hc11 hc10 hob hv10
  obtain ⟨m0, m1, m2, m3', m4, -, -, -, -, -⟩ := lit5 m11
  clear m11
  go_wp2_with fail
  have hq : ∀ W, Below w11.heap.size w11 W → W.cell? ⟨w7.heap.size, 0, none⟩ = some (.int .i64 2) ∧ W.cell? ⟨w7.heap.size, 1, none⟩ = some (.int .i64 2) ∧ W.cell? ⟨w7.heap.size, 2, none⟩ = some (.string ByteArray.empty) ∧ W.cell? ⟨w7.heap.size, 3, none⟩ = some (.slice A7 n7 c7) ∧ W.cell? ⟨w7.heap.size, 4, none⟩ = some (.slice B7 m7 e7) := fun W hW =>
    have h := fun i => hW.cell (p := ⟨w7.heap.size, i, none⟩) (by show w7.heap.size < w11.heap.size; omega)
    ⟨(h 0).trans m0, (h 1).trans m1, (h 2).trans m2, (h 3).trans m3', (h 4).trans m4⟩
  have HQ := Lib.hid hq
  have HR := Lib.hid hrb
  have hz711 : w7.heap.size < w11.heap.size := by omega
  have hz3w : w3.heap.size ≤ w11.heap.size := by omega
  clear hq hrb hz1 hz2 hz4 hz5 hz6 hz7 hz8 hz9 hz10 hz11 hlt6 ho2 ho3
  go_region_with (first
    | (go_at_call 19; refine (int_any 2 _).mono ?_; rintro e wa ⟨rfl, hba⟩; have hka := (below_drew (Below.refl w11.heap.size w11)).trans hba; obtain ⟨g0, g1, g2, g3, g4⟩ := HQ.out wa hka)
    | (go_at_call 23; refine (sameX ⟨_, HV.out.later hka (Nat.le_of_lt hz711)⟩ ⟨1, VB.int _ 0 0 0 2 (by decide) (by decide)⟩ (Nat.le_trans (Nat.le_of_lt hz711) hka.size) (Nat.zero_le _)).mono ?_; rintro e wb ⟨he, hbb⟩; rw [same_22] at he; subst he; have hkb := hka.trans (hbb.mono hka.size); have hcv : (convert 22 9 (.slice A11 n11 c11)).run Tryz.prog wb = .ok (.string ⟨#[8, 4, 4, 10, 6, 2, 120]⟩) wb := run_convV (HR.out.kept (Kept.of_below hkb (Nat.le_refl _))))
    | (go_at_call 19; refine (int_any 9 _).mono ?_; rintro e wc ⟨rfl, hbc⟩)
    | (go_at_call 22; refine (text_any _ _).mono ?_; rintro e wd ⟨rfl, hbd⟩)
    | (go_at_call 24; refine (orderX ⟨1, VB.int _ 0 0 0 9 (by decide) (by decide)⟩ ⟨1, VB.text _ 0 0 0 ⟨#[]⟩ (by decide)⟩ (Nat.zero_le _) (Nat.zero_le _)).mono ?_; rintro e wf ⟨he, hbf⟩; rw [ord_93] at he; subst he))
  all_goals go_wp2_with fail
  all_goals go_ret
  all_goals (
    have s1 := hkb.size
    have s2 := hbc.size
    have s3 := hbd.size
    exact ⟨rfl, ((((HC3.out.trans (HC.out.mono hz3)).trans (hkb.mono (by omega))).trans (hbc.mono (by omega))).trans (hbd.mono (by omega))).trans (hbf.mono (by omega))⟩)
end Go.Proofs.YtkodmhopollnpaaGreat
