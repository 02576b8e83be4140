/-
  Layer 2: the code's sortedPlaces.
-/
import Derived.Test.YtkodmhopollnpaaGreatSortP
import Derived.Test.YtkodmhopollnpaaGreatVCodJ
namespace Go.Proofs.YtkodmhopollnpaaGreat
set_option linter.unusedVariables false
open Go.RowKit
open M (V)

theorem int_info : (Tryz.prog.info? 3).map (fun i => (i.zero, i.size, i.bytes)) = some (some (.int .i64 0), 1, 8) := by kernel_rfl
section
variable {w : World} {ops : Array Oper} {rest : List Oper} {o : Oper} {a : Act} {Q : Exit → Act → World → Prop}
set_option maxRecDepth 100000 in
/-- 'make([]int, n)'. -/
theorem wpList_make_ints (hg : o.guard = none) (x y : Operand) (hop : o.op = Op.makeSlice 63 x y) (n : Nat) (hl : a.eval x = .int .i64 (n : Int)) (hc : a.eval y = .int .i64 (n : Int)) (hb : n * 8 ≤ 140737488355328)
    (hK : ∀ w' cs, w'.heap[w.heap.size]? = some (.cells cs 3 (0, 0)) → cs.size = n → Below w.heap.size w w' → wpList Tryz.prog ops Q rest (a.put o.dst (.slice (some ⟨w.heap.size, 0, none⟩) n n)) w') :
    wpList Tryz.prog ops Q (o :: rest) a w := by
  obtain ⟨i, hi0, hz0, hz1, hz2⟩ := info_parts int_info
  refine wpList_make_full w hg x y _ hop w.heap.size 3 i _ 1 Tryz.underlying63 hi0 hz0 hz1 _ _ _ _ n hl hc rfl rfl (by rw [hz2]; omega) (by unfold maxLen; omega) (Nat.le_refl _) ?_
  intro w' h1 h2
  obtain ⟨e1, e2⟩ := h1
  rcases e2 with ⟨e2, _⟩ | ⟨g, cap, cur, hv, hg, hh, h3, h4, h5, h6⟩
  · cases e2
  · injection hv with h7 h8 h9
    injection h7 with h7
    injection h7 with h7
    subst h7; subst h9
    exact hK w' cur hh (by simpa using h5) ((Below.refl _ _).grown h2 (Nat.le_refl _) (fun k hk => by cases hk))
end

theorem sortWorld_block {α : Type} [Inhabited α] (enc : α → Value) (w : World) (blk off m : Nat) (d : Array α) (os : Array Obj) {b : Nat} (hb : b < w.heap.size) (hne : b ≠ blk) : (sortWorld enc w blk off m d os).heap[b]? = w.heap[b]? := by
  unfold sortWorld
  rw [Sort.heap_grow_old _ _ (by simp [Sort.putRow, Sort.mapBlock]; exact hb)]
  simp only [Sort.putRow, Sort.mapBlock, Sort.heap_ahead, Array.getElem?_modify]
  rw [if_neg (Ne.symm hne)]
theorem sortWorld_size {α : Type} [Inhabited α] (enc : α → Value) (w : World) (blk off m : Nat) (d : Array α) (os : Array Obj) : w.heap.size ≤ (sortWorld enc w blk off m d os).heap.size := by
  unfold sortWorld; simp [Sort.putRow, Sort.mapBlock]

def keyOf (ks : List ByteArray) (q : Nat) : ByteArray := ks.getD q ByteArray.empty

set_option maxRecDepth 100000 in
set_option maxHeartbeats 1000000 in
theorem less_any {A : Option Addr} {n c lo hi B : Nat} {ks : List ByteArray} {w : World} (hK : KS w lo hi A n c ks) (hbox : w.cell? ⟨B, 0, none⟩ = some (.slice A n c)) (x y : Nat) (hx : x < n) (hy : y < n) :
    Calls Tryz.prog 68 #[.int .i64 (x : Int), .int .i64 (y : Int), .pointer (some ⟨B, 0, none⟩)] w fun e w' => e = .returned (.int .i64 (Lib.compareBytes (keyOf ks x).data.toList (keyOf ks y).data.toList)) ∧ w.drewN 1 = w' := by
  obtain ⟨b, off, rfl, h1, h2, h3⟩ := hK.at_ (by omega)
  have c0 := h3 x hx
  have c1 := h3 y hy
  have hcap := hK.cap
  have hmost := hK.most
  clear h3 hK h1 h2
  unfold keyOf
  generalize ks.getD x ByteArray.empty = p at *
  generalize ks.getD y ByteArray.empty = q at *
  have hx' : (x : Int) < (n : Int) := by omega
  have hy' : (y : Int) < (n : Int) := by omega
  go_enter Tryz.func68, Tryz.ntmps68
  go_wp2_with fail
  go_still_tail 8, (by kernel_rfl)
  change wpList _ _ _ _ _ (w.drewN 1)
  go_wp2_with fail
  refine (strCompare_any _ _ _).mono ?_
  rintro e w' ⟨rfl, rfl⟩
  go_wp2_with fail
  go_ret
  exact ⟨rfl, rfl⟩

/-- How the keys compare. -/
def cfk (ks : List ByteArray) (k : Nat) (x y : Fin (k + 1)) : Int := Lib.compareBytes (keyOf ks x.val).data.toList (keyOf ks y.val).data.toList
theorem ltk (ks : List ByteArray) (k : Nat) (x y : Fin (k + 1)) : ltOf (cfk ks k) x y = Go.Op.bytesLess (keyOf ks x.val).toList (keyOf ks y.val).toList := by
  unfold ltOf cfk
  rw [M.cb_spec]
  by_cases h : keyOf ks x.val = keyOf ks y.val
  · rw [if_pos h, h, M.bl_irrefl]; rfl
  · rw [if_neg h]
    cases hb : Go.Op.bytesLess (keyOf ks x.val).toList (keyOf ks y.val).toList with
    | true => rfl
    | false => rfl
theorem swok (ks : List ByteArray) (k : Nat) : Sort.SWO (ltOf (cfk ks k)) where
  irrefl x := by rw [ltk]; exact M.bl_irrefl _
  trans x y z h1 h2 := by rw [ltk] at *; exact M.bl_trans h1 h2
  ntrans x y z h1 h2 := by
    rw [ltk] at *
    cases hc : Go.Op.bytesLess (keyOf ks x.val).toList (keyOf ks z.val).toList with
    | false => rfl
    | true =>
      by_cases he : (keyOf ks x.val).toList = (keyOf ks y.val).toList
      · rw [he, h2] at hc; cases hc
      · have := M.bl_trans (M.bl_flip h1 he) hc
        rw [this] at h2; cases h2

theorem idn_get (k q : Nat) (h : q < k + 1) : ((Array.ofFn (fun i : Fin (k + 1) => i))[q]!).val = q := by
  rw [getElem!_pos (Array.ofFn (fun i : Fin (k + 1) => i)) q (by simpa using h)]; simp
theorem idn_list (k : Nat) : (Array.ofFn (fun i : Fin (k + 1) => i)).toList.map Fin.val = List.range (k + 1) := by
  refine List.ext_getElem (by rw [List.length_map, Array.length_toList, Array.size_ofFn, List.length_range]) fun i h1 h2 => ?_
  rw [List.getElem_map, Array.getElem_toList, Array.getElem_ofFn, List.getElem_range]
theorem ext_all {α : Type} (d : Array α) (m : Nat) (h : d.size = m) : d.extract 0 m = d := by subst h; simp
theorem val_getD {k : Nat} (d : Array (Fin (k + 1))) (j : Nat) (hj : j < d.size) : (d.toList.map Fin.val).getD j 0 = (d[j]!).val := by
  rw [getElem!_pos d j hj]
  simp [List.getD, hj]
/-- Places in the order of the keys. -/
def Sorted (ks : List ByteArray) (n B : Nat) (w : World) (e : Ending) (w' : World) : Prop := ∃ (g : Nat) (p : List Nat), e = .returned (.slice (some ⟨g, 0, none⟩) n n) ∧ p.Perm (List.range n) ∧
  (∀ j, j < n → w'.cell? ⟨g, j, none⟩ = some (.int .i64 ((p.getD j 0 : Nat) : Int))) ∧ (∀ i j, i < j → j < n → Go.Op.bytesLess (keyOf ks (p.getD j 0)).toList (keyOf ks (p.getD i 0)).toList = false) ∧ B ≤ g ∧ g < w'.heap.size ∧ Below B w w'

set_option maxRecDepth 100000 in
set_option maxHeartbeats 2000000 in
theorem places_any {A : Option Addr} {k c lo hi : Nat} {ks : List ByteArray} {w : World} (h : KS w lo hi A (k + 1) c ks) (hhi : hi ≤ w.heap.size) :
    Calls Tryz.prog 38 #[.slice A (k + 1) c] w (Sorted ks (k + 1) w.heap.size w) := by
  obtain ⟨n, hn⟩ : ∃ n, n = k + 1 := ⟨_, rfl⟩
  rw [← hn] at h ⊢
  have hcap := h.cap
  have hmost := h.most
  have HK := Lib.hid h
  have HN := Lib.hid hn
  have hn1 : 0 < n := by omega
  clear h hn
  have hb0 := (Below.refl w.heap.size w).alloc (Nat.le_refl _) (.cells #[.slice A n c] 29)
  go_enter Tryz.func38, Tryz.ntmps38
  go_wp2_with (at_make; refine wpList_make_ints rfl _ _ rfl n rfl rfl (by omega) ?_)
  intro w1 cs hcs hsz hb1
  have hb2 : Below (w.heap.size + 1) (w.alloc (.cells #[.slice A n c] 29)) w1 := hb1
  have HG := Lib.hid hcs; have HZ := Lib.hid hsz
  clear hcs hsz hb1
  go_wp2_with fail
  go_loopw [10] (fun y wr => ∃ (j : Nat) (cs : Array Value), y = .int .i64 j ∧ j ≤ n ∧ Hid (wr.heap[w.heap.size + 1]? = some (.cells cs 3 (0, 0))) ∧ Hid (cs.size = n) ∧ Hid (∀ q, q < j → cs[q]? = some (.int .i64 ((q : Nat) : Int))) ∧ Below (w.heap.size + 1) (w.alloc (.cells #[.slice A n c] 29)) wr) (fun y _ => n - (intOf y).toNat)
  case atStart => exact ⟨0, cs, rfl, by omega, HG, HZ, Lib.hid (fun q h => absurd h (by omega)), hb2⟩
  case round =>
    clear HG HZ hb2
    obtain ⟨j, cs, rfl, hj, HG, HZ, HE, hb⟩ := hrel
    by_cases hlt : j < n
    · obtain ⟨u0, d0⟩ : ∃ u, wr.cell? ⟨w.heap.size + 1, j, none⟩ = some u := ⟨_, row_cell HG.out (by rw [HZ.out]; exact hlt)⟩
      have f0 := row_free (i := j) HG.out
      go_wp2_with fail
      refine ⟨⟨j + 1, _, by go_num, by omega, Lib.hid (heap_setCell_same _ _ _ _ _ _ HG.out), Lib.hid (by simp; exact HZ.out), Lib.hid (fun q h => ?_), hb.setCell (by simp) _⟩, by simp [intOf]; omega⟩
      rw [Array.getElem?_setIfInBounds]
      by_cases hq : j = q
      · subst hq
        rw [if_pos rfl, if_pos (by rw [HZ.out]; exact hlt)]
      · rw [if_neg hq]; exact HE.out q (by omega)
    · obtain rfl : j = n := by omega
      have hG := HG.out
      have hZ := HZ.out
      have hgl := row_lt hG
      have hbox : wr.cell? ⟨w.heap.size, 0, none⟩ = some (.slice A j c) := (hb.cell (p := ⟨w.heap.size, 0, none⟩) (Nat.lt_succ_self _)).trans (by rw [World.cell?_alloc_at _ _ _ _ rfl]; rfl)
      have hbw : Below w.heap.size w wr := hb0.trans (hb.mono (by omega))
      have hKr := HK.out.later hbw hhi
      obtain rfl := HN.out
      have hd : ∀ q, q < (Array.ofFn (fun i : Fin (k + 1) => i)).size → (Array.ofFn (fun i : Fin (k + 1) => i))[q]!.val = q := fun q hq => idn_get k q (by simpa using hq)
      have hdz : (Array.ofFn (fun i : Fin (k + 1) => i)).size = k + 1 := by simp
      obtain ⟨d, hdd⟩ : ∃ d : Array (Fin (k + 1)), d = Array.ofFn (fun i : Fin (k + 1) => i) := ⟨_, rfl⟩
      rw [← hdd] at hd hdz
      have hH : Sort.Holds (fun x : Fin (k + 1) => Value.int .i64 ((x.val : Nat) : Int)) wr (w.heap.size + 1) 0 d := fun q hq => by
        refine ⟨?_, row_free hG⟩
        show wr.cell? _ = some (Value.int .i64 ((d[q]!.val : Nat) : Int))
        rw [Nat.zero_add, cell_of_row _ _ _ _ _ _ hG, hd q hq]
        exact HE.out q (by rw [hdz] at hq; exact hq)
      have hcmp : CmpLays1 Tryz.prog 68 #[.pointer (some ⟨w.heap.size, 0, none⟩)] (fun x : Fin (k + 1) => Value.int .i64 ((x.val : Nat) : Int)) (cfk ks k) (w.heap.size + 1) 0 d.size wr := fun m os dk hs x y => by
        have hkr : ∀ b, b < wr.heap.size → b ≠ w.heap.size + 1 → (sortWorld (fun x : Fin (k + 1) => Value.int .i64 ((x.val : Nat) : Int)) wr (w.heap.size + 1) 0 m dk os).heap[b]? = wr.heap[b]? := fun b h1 h2 => sortWorld_block _ _ _ _ _ _ _ h1 h2
        have hz : w.heap.size + 1 < wr.heap.size := hgl
        refine (less_any (hKr.kept fun b _ h2 => hkr b (by omega) (by omega)) ((World.cell?_of_block (hkr w.heap.size (by omega) (by omega))).trans hbox) x.val y.val x.isLt y.isLt).mono ?_
        rintro e w' ⟨he, rfl⟩
        exact ⟨he, 1, #[], by rw [Sort.grow_empty]⟩
      have eg : ∀ args w, (callFunc 68 args).run Tryz.prog w = .ok (.enter 68 args) w := enters_of Tryz.func68 (by kernel_rfl) rfl
      have hcon := Any.slices_SortFunc Tryz.sortL (fun x : Fin (k + 1) => Value.int .i64 ((x.val : Nat) : Int)) (fun _ => rfl) (cfk ks k) (swok ks k) 68 #[.pointer (some ⟨w.heap.size, 0, none⟩)] (w.heap.size + 1) 0 (k + 1) d wr eg hcmp hH hgl (by rw [hdz]; omega)
      rw [hdz] at hcon
      change Calls Tryz.prog 67 _ _ _ at hcon
      have HCON := Lib.hid hcon; have HDZ := Lib.hid hdz; have HDD := Lib.hid hdd; have HHO := Lib.hid hH
      clear hcon hH hcmp hd hdz hdd hbox hKr hG hZ eg
      go_wp2_with fail
      refine HCON.out.mono ?_
      rintro e w2 ⟨rfl, d', nn, os, hperm, hsorted, rfl⟩
      have HP := Lib.hid hperm; have HS := Lib.hid hsorted
      clear hperm hsorted
      go_wp2_with fail
      go_ret
      have hds : d'.size = k + 1 := HP.out.1.trans HDZ.out
      have hh := SW.holds (W := sortWorld (fun x : Fin (k + 1) => Value.int .i64 ((x.val : Nat) : Int)) wr (w.heap.size + 1) 0 nn d' os) (dk := d') ⟨nn, os, rfl⟩ hgl HHO.out (by rw [hds, HDZ.out])
      have hsz := sortWorld_size (fun x : Fin (k + 1) => Value.int .i64 ((x.val : Nat) : Int)) wr (w.heap.size + 1) 0 nn d' os
      refine ⟨w.heap.size + 1, d'.toList.map Fin.val, rfl, ?_, fun j hj => ?_, fun i j hij hj => ?_, Nat.le_succ _, by omega, hbw.trans ⟨rfl, rfl, rfl, hsz, fun b hb => sortWorld_block _ _ _ _ _ _ _ (by omega) (by omega)⟩⟩
      · rw [← idn_list k, ← HDD.out]
        have hp := HP.out.2.2
        have e1 := ext_all d' (k + 1) hds
        have e2 := ext_all d (k + 1) HDZ.out
        rw [e1, e2] at hp
        exact hp.map _
      · have h1 := (hh j (by rw [hds]; exact hj)).1
        rw [val_getD d' j (by rw [hds]; exact hj)]
        rw [Nat.zero_add] at h1
        exact h1
      · have h1 := HS.out i j (Nat.zero_le _) hij hj
        rw [ltk] at h1
        rw [val_getD d' j (by rw [hds]; exact hj), val_getD d' i (by rw [hds]; omega)]
        exact h1
end Go.Proofs.YtkodmhopollnpaaGreat
