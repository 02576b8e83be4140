/-
  Layer 2: slices.Concat of what lies before and behind a place.
-/
import Derived.Test.YtcamhcgafmmkdaaVGrow
import Derived.Test.YtcamhcgafmmkdaaVGrowV
import Derived.Test.YtcamhcgafmmkdaaVCut
import Derived.Test.YtcamhcgafmmkdaaVal9
namespace Go.Proofs.Ytcamhcgafmmkdaa
set_option linter.unusedVariables false
open Go.RowKit
open M (V)

theorem al1 (W : World) (o : Obj) : (W.alloc o).drew.heap[W.heap.size]? = some o := heap_alloc_new W o
theorem al2 (W : World) (o o' : Obj) : ((W.alloc o).alloc o').drew.heap[W.heap.size]? = some o := by
  show ((W.alloc o).alloc o').heap[W.heap.size]? = some o
  rw [Below.heap_alloc _ _ _ (by simp)]
  exact heap_alloc_new W o
theorem al3 (W : World) (o o' : Obj) : ((W.alloc o).alloc o').drew.heap[W.heap.size + 1]? = some o' := by
  show ((W.alloc o).alloc o').heap[W.heap.size + 1]? = some o'
  have := heap_alloc_new (W.alloc o) o'
  simpa using this

theorem blk_lt {W : World} {g : Nat} {o : Obj} (h : W.heap[g]? = some o) : g < W.heap.size := by
  rcases Nat.lt_or_ge g W.heap.size with h1 | h1
  · exact h1
  · rw [Array.getElem?_eq_none h1] at h; cases h
theorem blk_kept {W W' : World} {g : Nat} {o : Obj} (hb : Below W.heap.size W W') (h : W.heap[g]? = some o) : W'.heap[g]? = some o := (hb.block _ (blk_lt h)).trans h

theorem cutK {w W : World} {lo hi g p e i bb ob n' e' : Nat} {B' : Option Addr} {ks : List ByteArray} {T : TypeId} (hK : KS w lo hi (some ⟨bb, ob, none⟩) p e ks) (hhi : hi ≤ w.heap.size) (hi2 : i < p) (hp : p ≤ 2000)
    (hb : Below w.heap.size w W) (hn : n' = p - (i + 1)) (he : e' = e - (i + 1)) (hB : ¬ e = i + 1 → B' = some ⟨bb, ob + (i + 1), none⟩)
    (hq : W.heap[g]? = some (.cells #[.slice (some ⟨bb, ob, none⟩) i e, .slice B' n' e'] T)) :
    Calls Try.prog 28 #[.slice (some ⟨g, 0, none⟩) 2 2] W fun e w' => ∃ A n c, e = .returned (.slice A n c) ∧ KS w' 0 w'.heap.size A n c (M.dropAt ks i) ∧ Below w.heap.size w w' ∧ Below W.heap.size W w' := by
  subst hn he
  have hz := hb.size
  have hg := blk_lt hq
  have hcap := hK.cap
  have h1 := (hK.later hb hhi).take (k := i) (by omega)
  have h2 := (hK.later hb hhi).drop (k := i + 1) (A' := B') (by omega) (fun h => by rw [hB h, Option.map_some, addr_plus]) (fun h => by
    by_cases h3 : e = i + 1
    · omega
    · rw [hB h3] at h; cases h)
  refine (concatK (g := g) (L := 2) (lo := lo) (hi := hi) (A := fun q => if q = 0 then some ⟨bb, ob, none⟩ else B') (n := fun q => if q = 0 then i else p - (i + 1)) (c := fun q => if q = 0 then e else e - (i + 1)) (l := fun q => if q = 0 then ks.take i else ks.drop (i + 1)) (w := W)
    (fun q hq' => by
      match q, hq' with
      | 0, _ => exact cell_of_row W g _ _ T (0, 0) hq
      | 1, _ => exact cell_of_row W g _ _ T (0, 0) hq) hg
    (fun q hq' => by
      match q, hq' with
      | 0, _ => exact h1
      | 1, _ => exact h2) (by omega) (by omega) (by simp [tot]; omega)).mono ?_
  rintro e w' ⟨A, n, c, rfl, hk, _, hb2⟩
  exact ⟨A, n, c, rfl, hk.weak (Nat.zero_le _) (Nat.le_refl _), hb.trans (hb2.mono hz), hb2⟩

theorem cutV {w W : World} {lo hi d g p c i bb ob n' c' : Nat} {A' : Option Addr} {its : List V} {T : TypeId} (hI : IS w lo hi (VB w lo hi d) (some ⟨bb, ob, none⟩) p c its) (hhi : hi ≤ w.heap.size) (hi2 : i < p) (hp : p ≤ 2000)
    (hb : Below w.heap.size w W) (hn : n' = p - (i + 1)) (hc : c' = c - (i + 1)) (hA : ¬ c = i + 1 → A' = some ⟨bb, ob + (i + 1) * 5, none⟩)
    (hq : W.heap[g]? = some (.cells #[.slice (some ⟨bb, ob, none⟩) i c, .slice A' n' c'] T)) :
    Calls Try.prog 29 #[.slice (some ⟨g, 0, none⟩) 2 2] W fun e w' => ∃ A n c, e = .returned (.slice A n c) ∧ IS w' 0 w'.heap.size (VB w' 0 w'.heap.size d) A n c (M.dropAt its i) ∧ Below w.heap.size w w' ∧ Below W.heap.size W w' := by
  subst hn hc
  have hz := hb.size
  have hg := blk_lt hq
  have hcap := hI.cap
  have h1 := (hI.later hb hhi).take (k := i) (by omega)
  have h2 := (hI.later hb hhi).drop (k := i + 1) (A' := A') (by omega) (fun h => by rw [hA h, Option.map_some, addr_plus]) (fun h => by
    by_cases h3 : c = i + 1
    · omega
    · rw [hA h3] at h; cases h)
  refine (concatV (g := g) (L := 2) (lo := lo) (hi := hi) (lo1 := lo) (hi1 := hi) (d := d) (A := fun q => if q = 0 then some ⟨bb, ob, none⟩ else A') (n := fun q => if q = 0 then i else p - (i + 1)) (c := fun q => if q = 0 then c else c - (i + 1)) (l := fun q => if q = 0 then its.take i else its.drop (i + 1)) (w := W)
    (fun q hq' => by
      match q, hq' with
      | 0, _ => exact cell_of_row W g _ _ T (0, 0) hq
      | 1, _ => exact cell_of_row W g _ _ T (0, 0) hq) hg
    (fun q hq' => by
      match q, hq' with
      | 0, _ => exact h1
      | 1, _ => exact h2) (by omega) (by omega) (by omega) (by simp [tot]; omega)).mono ?_
  rintro e w' ⟨A, n, c, rfl, hk, hb2⟩
  have hz2 := hb2.size
  exact ⟨A, n, c, rfl, hk.weak (Nat.zero_le _) (Nat.le_refl _) (fun _ _ r => r.weak (Nat.zero_le _) (by omega)), hb.trans (hb2.mono hz), hb2⟩
theorem vb_map {W : World} {d : Nat} {A B : Option Addr} {n c p e : Nat} {its : List V} {ks : List ByteArray} (hI : IS W 0 W.heap.size (VB W 0 W.heap.size d) A n c its) (hK : KS W 0 W.heap.size B p e ks) :
    VB W 0 W.heap.size (d + 1) (.agg #[.int .i64 5, .int .i64 0, .string ByteArray.empty, .slice A n c, .slice B p e]) (.mk 5 0 ByteArray.empty its ks) :=
  ⟨A, n, c, B, p, e, rfl, by simp [V.k], by simp [V.k], by simp [V.n], by simp [V.n], by simp [V.s], hI, hK⟩
theorem ks_on {W W' : World} {A : Option Addr} {n c : Nat} {l : List ByteArray} (h : KS W 0 W.heap.size A n c l) (hb : Below W.heap.size W W') : KS W' 0 W'.heap.size A n c l := (h.later hb (Nat.le_refl _)).weak (Nat.zero_le _) hb.size
theorem is_on {W W' : World} {A : Option Addr} {n c d : Nat} {l : List V} (h : IS W 0 W.heap.size (VB W 0 W.heap.size d) A n c l) (hb : Below W.heap.size W W') : IS W' 0 W'.heap.size (VB W' 0 W'.heap.size d) A n c l :=
  (h.later hb (Nat.le_refl _)).weak (Nat.zero_le _) hb.size (fun _ _ r => r.weak (Nat.zero_le _) hb.size)
theorem al_on {W W' : World} {o : Obj} (hb : Below (W.alloc o).heap.size (W.alloc o) W') : Below W.heap.size W W' := ((Below.refl _ _).alloc (Nat.le_refl _) o).trans (hb.mono (by simp))
end Go.Proofs.Ytcamhcgafmmkdaa
