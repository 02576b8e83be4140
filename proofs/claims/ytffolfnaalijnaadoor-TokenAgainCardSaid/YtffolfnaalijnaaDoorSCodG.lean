/-
  Layer 7: the code's scanner: string literals.
-/
import Derived.Test.YtffolfnaalijnaaDoorSCodF
import Derived.Test.YtffolfnaalijnaaDoorMem
import Derived.Laws.Strings
namespace Go.Proofs.YtffolfnaalijnaaDoor
set_option linter.unusedVariables false
open Go.RowKit

set_option maxRecDepth 100000 in
theorem run_bS {w : World} {lo hi n c : Nat} {A : Option Addr} {l : List UInt8} (h : RB w lo hi A n c l) : (convert 48 9 (.slice A n c)).run Tryd.prog w = .ok (.string (bS l)) w := by
  rcases A with _ | ad
  · obtain rfl := h.nil rfl
    obtain rfl : n = 0 := by have := h.cap; omega
    obtain rfl : l = [] := List.eq_nil_of_length_eq_zero h.len
    exact run_convert_bytes_nil w _ _ Tryd.underlying48 Tryd.underlying5 0 0 _ Tryd.underlying9
  · rcases Nat.eq_zero_or_pos n with h0 | h0
    · subst h0
      obtain rfl : l = [] := List.eq_nil_of_length_eq_zero h.len
      rw [run_convert_bytes_string w _ _ _ _ _ _ Tryd.underlying48 Tryd.underlying5 Tryd.underlying9]
      exact run_bytesToString w ad 0 c [] (by simp [loadCells, loadCellsFrom])
    · obtain ⟨b, off, e, _, _, hc⟩ := h.at_ h0
      injection e with e
      subst e
      rw [run_convert_bytes_arg w _ _ Tryd.underlying48 Tryd.underlying5 b off n c (l.map fun x => (x.toNat : Int)) (by rw [List.length_map, h.len]) ?_ _ Tryd.underlying9]
      · congr 2
        simp [strOfNums, bS, List.map_map, Function.comp_def]
      · intro i hi
        rw [hc i hi]
        have hil : i < l.length := by rw [h.len]; exact hi
        simp [List.getD, hil]

theorem grown7_bel {w wr w' : World} {r : Option Nat} {B : Nat} (h : w.grownBy wr r) (hb : Below B wr w') (hB : w.heap.size ≤ B) : w.grownBy w' r :=
  ⟨hb.os.trans h.os, hb.tape.trans h.tape, hb.output.trans h.output, Nat.le_trans h.size hb.size, fun k hk hr => (hb.block k (by omega)).trans (h.block k hk hr)⟩
theorem Sc.bel {w w' : World} {g h i B : Nat} {s : ByteArray} (k : Sc w g h s i) (hb : Below B w w') (h1 : g < B) (h2 : h < B) : Sc w' g h s i :=
  ⟨(hb.block g h1).trans k.blk, (hb.block h h2).trans k.tab, k.ne, k.le, k.fit⟩
theorem C_add_ok {r : Z.C} {m : Nat} {c : UInt8} {k : Nat} (h : r.add m = .ok c k) : m ≤ k := by
  cases r with
  | ok c' n => simp only [Z.C.add, Z.C.ok.injEq] at h; omega
  | err e => simp [Z.C.add] at h
theorem chr_pos {l : List UInt8} {c : UInt8} {k : Nat} (h : Z.chr l = .ok c k) : 1 ≤ k := by
  cases l with
  | nil => simp [Z.chr] at h
  | cons a r =>
    simp only [Z.chr] at h
    split at h
    · exact C_add_ok h
    · split at h
      · simp only [Z.C.ok.injEq] at h; omega
      · cases h

set_option maxRecDepth 100000 in
set_option maxHeartbeats 4000000 in
theorem literal_any {w : World} {g h i : Nat} {s : ByteArray} (k : Sc w g h s i) (h4 : Z.clsL (left s i) = 4) :
    Calls Tryd.prog 37 #[.pointer (some ⟨g, 0, none⟩)] w (TEnds g h s (Z.lit (left s i)) i w) := by
  have HK := Lib.hid k
  have hlt := k.lt
  have hlh := k.lth
  have hft := k.fit
  have hil : i < s.size := by
    refine Nat.lt_of_not_le fun hge => ?_
    rw [left_nil hge] at h4; exact absurd h4 (by decide)
  obtain ⟨R, hR⟩ : ∃ R, R = Z.lit (left s i) := ⟨_, rfl⟩
  rw [← hR]
  unfold Z.lit at hR
  rw [left_drop, left_len] at hR
  have HR := Lib.hid hR
  clear k hR h4
  go_enter Tryd.func37, Tryd.ntmps37
  obtain ⟨hk0, hrow0, hg0, hs0⟩ := box_one HK.out
  have HK0 := Lib.hid hk0; have HROW0 := Lib.hid hrow0; have HG0 := Lib.hid hg0
  clear hk0 hrow0 hg0
  go_wp2_with fail
  refine (take_any HK0.out).mono ?_
  rintro e w1 ⟨rfl, k1, hg1⟩
  rw [Nat.min_eq_left hil] at k1
  have hrow1 := (hg1.block _ (by rw [hs0]; omega) (by simp; omega)).trans HROW0.out
  have HK1 := Lib.hid k1
  have HG1 := Lib.hid (HG0.out.trans hg1)
  have HROW1 := Lib.hid hrow1
  have hsz1 : w.heap.size + 1 ≤ w1.heap.size := by have := hg1.size; rw [hs0] at this; exact this
  clear k1 hg1 hrow1 hs0 HK0 HROW0 HG0
  go_wp2_with fail
  go_loopw [4, 5, 6] (fun v _ _ wr => ∃ (j f n : Nat) (acc : List UInt8), Hid (OB wr (w.heap.size + 1) v acc) ∧ Hid (Sc wr g h s j) ∧ Hid (w.grownBy wr (some g)) ∧ Hid (wr.heap[w.heap.size]? = some (.cells #[.int .i64 0, .int .i64 0, .string ⟨#[]⟩, .int .i64 0] 30 (0, 0))) ∧ j = i + n ∧ s.size - j < f ∧ acc.length ≤ j ∧ j ≤ s.size ∧ w.heap.size + 1 ≤ wr.heap.size ∧ Hid (Z.litG f (left s j) acc n = R)) (fun _ _ _ wr => s.size - atOf7 wr g)
  case atStart => exact ⟨i + 1, s.size - i, 1, [], Lib.hid (OB.empty _ _), HK1, HG1, HROW1, rfl, by omega, by simp, hil, hsz1, Lib.hid HR.out.symm⟩
  case round =>
    clear HK1 HG1 HROW1 HR HK
    obtain ⟨j, f, n, acc, HO, HJ, HG, HROW, hjn, hf, hacc, hjs, hsz, HL⟩ := hrel
    have HAT := Lib.hid (atOf7_eq HJ.out)
    have HJN := Lib.hid hjn
    clear hjn
    obtain ⟨f, rfl⟩ : ∃ f', f = f' + 1 := ⟨f - 1, by omega⟩
    go_wp2_with fail
    refine (class_any HJ.out).mono ?_
    rintro e w2 ⟨rfl, n2, rfl⟩
    have HJ2 := Lib.hid (HJ.out.drewN n2)
    have HG2 := Lib.hid (HG.out.trans (grown7_drewN wr n2 (some g)))
    have HROW2 : Hid ((wr.drewN n2).heap[w.heap.size]? = some (.cells #[.int .i64 0, .int .i64 0, .string ⟨#[]⟩, .int .i64 0] 30 (0, 0))) := Lib.hid HROW.out
    have HO2 := Lib.hid (HO.out.kept (grown7_drewN wr n2 none) (Classical.em _))
    have hsz2 : w.heap.size + 1 ≤ (wr.drewN n2).heap.size := hsz
    clear HJ HG HROW HO
    generalize wr.drewN n2 = w2 at *
    obtain ⟨q, hq⟩ : ∃ q, q = Z.clsL (left s j) := ⟨_, rfl⟩
    have HQ := Lib.hid hq
    rw [← hq]
    have hq6 : q ≤ 6 := by rw [hq]; exact Z.clsL_le _
    clear hq
    have hown : ∀ b, u4.ownBlock = some b → w.heap.size + 1 ≤ b := fun b hb => (World.ownsRow.lt HO2.out b hb).1
    have HOWN := Lib.hid hown
    clear hown
    by_cases hcl : q = 4
    · have HL2 : Hid (R = if 4096 < acc.length then .err 6 else .ok 4 acc 0 (n + 1)) := Lib.hid (by
        have := HL.out
        rw [Z.litG, if_pos (by rw [← HQ.out]; exact hcl)] at this
        exact this.symm)
      have hjl : j < s.size := by
        refine Nat.lt_of_not_le fun hge => ?_
        have := HQ.out
        rw [hcl, left_nil hge] at this; exact absurd this (by decide)
      clear HL
      subst hcl
      go_wp2_with fail
      refine (take_any HJ2.out).mono ?_
      rintro e w3 ⟨rfl, k3, hg3⟩
      rw [Nat.min_eq_left hjl] at k3
      have hrow3 := (hg3.block _ (by omega) (by simp; omega)).trans HROW2.out
      have ho3 := HO2.out.kept hg3 (.inr (fun e => by have := HOWN.out g e; omega))
      have HK3 := Lib.hid k3
      have HG3 := Lib.hid (HG2.out.trans hg3)
      have HROW3 := Lib.hid hrow3
      obtain ⟨⟨r0, r1, r2, r3⟩, t0, t1, t2, t3⟩ := row4_cells hrow3
      obtain ⟨A, m, c, rfl, hr⟩ := ho3.form
      have hm := hr.len
      have hcv := run_bS hr
      have hmc := hr.cap
      have hcm := hr.most
      unfold maxLen at hcm
      have HM := Lib.hid hm
      have hm1 : m ≤ 16384 := by omega
      clear k3 hg3 hrow3 HO2 HJ2 HG2 HROW2 ho3 hr hm HOWN
      by_cases h96 : 4096 < m
      · have HN := Lib.hid h96
        go_wp2_with fail
        (try simp only [Exit.inBlock, Exit.then])
        refine bodyPost_ret (results_tok Tryd.results37 _ _ w.heap.size _ (0, 0) _ rfl rfl (put4_row HROW3.out _ _ _ _) (by kernel_rfl)) rfl ?_
        exact TEnds.no (r := w.heap.size) (by rw [HL2.out, if_pos (by rw [HM.out]; exact HN.out)]) (by decide) HG3.out (Nat.le_refl _) HK3.out rfl hlt hlh
      · have HN := Lib.hid h96
        have dn : decide (4096 < (m : Int)) = false := by simp; omega
        clear h96
        go_wp2_with fail
        (try simp only [Exit.inBlock, Exit.then])
        refine bodyPost_ret (results_tok Tryd.results37 _ _ w.heap.size _ (0, 0) _ rfl rfl (put4_row HROW3.out _ _ _ _) (by kernel_rfl)) rfl ?_
        exact TEnds.yes (r := w.heap.size) (by rw [HL2.out, if_neg (by rw [HM.out]; have := HN.out; omega)]) rfl (by have := HJN.out; omega) HG3.out (Nat.le_refl _) HK3.out rfl hlt hlh
    · have hne : ((q : Int) != 4) = true := by rw [bne_iff_ne]; omega
      have HNE : Hid (¬ Z.clsL (left s j) = 4) := Lib.hid (by rw [← HQ.out]; exact hcl)
      clear hcl
      go_wp2_with fail
      refine (character_any HJ2.out).mono ?_
      rintro e w3 ⟨hg3, hm⟩
      have hrow3 := (hg3.block _ (by omega) (by simp; omega)).trans HROW2.out
      have ho3 := HO2.out.kept hg3 (.inr (fun e => by have := HOWN.out g e; omega))
      have HG3 := Lib.hid (HG2.out.trans hg3)
      have HROW3 := Lib.hid hrow3
      have HO3 := Lib.hid ho3
      have hsz3 : w.heap.size + 1 ≤ w3.heap.size := Nat.le_trans hsz2 hg3.size
      have hL := HL.out
      rw [Z.litG, if_neg HNE.out] at hL
      cases hch : Z.chr (left s j) with
      | err er =>
        rw [hch] at hm hL
        obtain ⟨rfl, her, j3, k3⟩ := hm
        have HK3 := Lib.hid k3
        have HLL : Hid (R = .err er) := Lib.hid hL.symm
        obtain ⟨⟨r0, r1, r2, r3⟩, t0, t1, t2, t3⟩ := row4_cells hrow3
        have here : er ≠ 0 := by omega
        have HER := Lib.hid here
        have hen : (er != 0) = true := by rw [bne_iff_ne]; exact here
        clear hL k3 hg3 hrow3 HO2 HJ2 HG2 HROW2 ho3 hch her here HOWN
        go_wp2_with fail
        (try simp only [Exit.inBlock, Exit.then])
        refine bodyPost_ret (results_tok Tryd.results37 _ _ w.heap.size _ (0, 0) _ rfl rfl (put4_row HROW3.out _ _ _ _) (by kernel_rfl)) rfl ?_
        exact TEnds.no (r := w.heap.size) HLL.out HER.out HG3.out (Nat.le_refl _) HK3.out rfl hlt hlh
      | ok c m =>
        have hmp := chr_pos hch
        rw [hch] at hm hL
        obtain ⟨rfl, k3⟩ := hm
        have HK3 := Lib.hid k3
        have hL : Z.litG f ((left s j).drop m) (acc ++ [c]) (n + m) = R := hL
        rw [left_drop] at hL
        have HLL := Lib.hid hL
        have hjm := k3.le
        have hc8 := c.toNat_lt
        obtain ⟨cc, hcc⟩ : ∃ cc, cc = c.toNat := ⟨_, rfl⟩
        rw [← hcc] at hc8 ⊢
        have HCC := Lib.hid hcc
        clear hL k3 hg3 hrow3 HO2 HJ2 HG2 HROW2 ho3 hch hcc
        have hr := RB.one w3 (n := (cc : Int)) (c := c) (by rw [HCC.out])
        have ho4 := HO3.out.alloc (.cells #[.int .u8 (cc : Int)] 5)
        go_wp2_with (at_builtin; refine wpList_append_rb rfl _ _ rfl (w.heap.size + 1) _ acc rfl ho4 _ _ _ _ _ [c] rfl hr ?c1 ?c2 ?_)
        case c1 => omega
        case c2 => simp; omega
        intro v' w4 ho5 hb5
        have hb5' : Below (w.heap.size + 1) w3 w4 := ((Below.refl _ _).alloc hsz3 _).trans hb5
        have HK4 := Lib.hid (HK3.out.bel hb5' (by omega) (by omega))
        have HG4 := Lib.hid (grown7_bel HG3.out hb5' (by omega))
        have HROW4 := Lib.hid ((hb5'.block w.heap.size (by omega)).trans HROW3.out)
        have HO5 := Lib.hid ho5
        have hsz4 := Nat.le_trans hsz3 hb5'.size
        clear hr ho4 ho5 hb5 hb5' HOWN
        go_wp2_with fail
        refine ⟨⟨j + m, f, n + m, acc ++ [c], HO5, HK4, HG4, HROW4, by have := HJN.out; omega, by omega, by simp; omega, hjm, hsz4, HLL⟩, ?_⟩
        rw [atOf7_eq HK4.out, HAT.out]; omega
end Go.Proofs.YtffolfnaalijnaaDoor
