/-
  Layer 2: slices.Concat of what lies before a place, one new element, and what lies behind.
-/
import Derived.Test.YtcamhcgafmmkdaaVCutC
namespace Go.Proofs.Ytcamhcgafmmkdaa
set_option linter.unusedVariables false
open Go.RowKit
open M (V)

/-! ### Blocks in a chain of new ones -/
section
variable {W X : World} {g : Nat} {o o' : Obj}
theorem has_drew (h : W.heap[g]? = some o) : W.drew.heap[g]? = some o := h
theorem has_alloc (h : W.heap[g]? = some o) : (W.alloc o').heap[g]? = some o := (Below.heap_alloc _ _ _ (blk_lt h)).trans h
theorem has_new (h : g = W.heap.size) : (W.alloc o).heap[g]? = some o := by subst h; exact heap_alloc_new W o
theorem bel_drew (h : Below W.heap.size W X) : Below W.heap.size W X.drew := below_drew h
theorem bel_alloc (h : Below W.heap.size W X) : Below W.heap.size W (X.alloc o) := h.alloc h.size o
end

/-! ### Parts of a slice, whatever the address -/
section
variable {w : World} {lo hi n c k : Nat} {A A' : Option Addr} {R : Value → V → Prop} {l : List V} {ks : List ByteArray}
theorem KS.addr (h : KS w lo hi A n c ks) (h1 : 0 < n → A' = A) (h2 : A' = none → c = 0) : KS w lo hi A' n c ks :=
  ⟨h.len, h.cap, h.most, h2, h.size, fun h0 => by rw [h1 h0]; exact h.at_ h0⟩
theorem IS.addr (h : IS w lo hi R A n c l) (h1 : 0 < n → A' = A) (h2 : A' = none → c = 0) : IS w lo hi R A' n c l :=
  ⟨h.len, h.cap, h.most, h2, fun h0 => by rw [h1 h0]; exact h.at_ h0⟩

/-- 's[k:]'. -/
theorem run_back (T : TypeId) (sz : Nat) (hT : Try.prog.underlying T = some (.slice (Try.prog.elem T))) (hs : ∀ W : World, (sizeOf (Try.prog.elem T)).run Try.prog W = .ok sz W) (A : Option Addr) (k n c : Nat) (z : Int) (hz : z = (k : Int)) (hk : k ≤ n) :
    ∃ B' : Option Addr, (¬ c = k → B' = A.map (·.add (k * sz))) ∧ (B' = none → A = none ∨ c = k) ∧ ∀ W : World, (Instr.sliceAt T (.slice A n c) (some (.int .i64 z)) none none).run Try.prog W = .ok (.slice B' (n - k) (c - k)) W ∧ (Instr.slice T (.slice A n c) (some (.int .i64 z)) none none).run Try.prog W = .ok (.slice B' (n - k) (c - k)) W := by
  subst hz
  refine ⟨if c = k then A else A.map (·.add (k * sz)), fun h => by rw [if_neg h], fun h => ?_, fun W => ?_⟩
  · split at h
    · exact .inr ‹_›
    · rw [Option.map_eq_none_iff] at h; exact .inl h
  have h1 : (Instr.slice T (.slice A n c) (some (.int .i64 (k : Int))) none none).run Try.prog W = .ok (.slice (if c = k then A else A.map (·.add (k * sz))) (n - k) (c - k)) W := by
    rw [run_slice_l W T _ n c hT .i64 k (by omega) (by omega), hs W]
    simp [Result.andThen, sliced]
  exact ⟨by rw [run_sliceAt_slice W T _ _ _ _ hT]; exact h1, h1⟩
/-- 's[:k]'. -/
theorem run_front (T : TypeId) (sz : Nat) (hT : Try.prog.underlying T = some (.slice (Try.prog.elem T))) (hs : ∀ W : World, (sizeOf (Try.prog.elem T)).run Try.prog W = .ok sz W) (A : Option Addr) (k n c : Nat) (hk : k ≤ c) :
    ∃ B' : Option Addr, (∀ b o, A = some ⟨b, o, none⟩ → B' = A) ∧ (B' = none → A = none ∨ c = 0) ∧ ∀ W : World, (Instr.sliceAt T (.slice A n c) none (some (.int .i64 (k : Int))) none).run Try.prog W = .ok (.slice B' k c) W ∧ (Instr.slice T (.slice A n c) none (some (.int .i64 (k : Int))) none).run Try.prog W = .ok (.slice B' k c) W := by
  refine ⟨if c = 0 then A else A.map (·.add (0 * sz)), fun b o h => ?_, fun h => ?_, fun W => ?_⟩
  · subst h
    split
    · rfl
    · rw [Option.map_some, Nat.zero_mul, addr_plus]; rfl
  · split at h
    · exact .inr ‹_›
    · rw [Option.map_eq_none_iff] at h; exact .inl h
  have h1 : (Instr.slice T (.slice A n c) none (some (.int .i64 (k : Int))) none).run Try.prog W = .ok (.slice (if c = 0 then A else A.map (·.add (0 * sz))) k c) W := by
    rw [run_slice_h W T _ n c hT .i64 k (by omega) (by omega), hs W]
    simp [Result.andThen, sliced]
  exact ⟨by rw [run_sliceAt_slice W T _ _ _ _ hT]; exact h1, h1⟩
theorem KS.part1 {B' : Option Addr} (h : KS w lo hi A n c ks) (hk : k ≤ n) (h1 : ∀ b o, A = some ⟨b, o, none⟩ → B' = A) (h2 : B' = none → A = none ∨ c = 0) : KS w lo hi B' k c (ks.take k) :=
  (h.take hk).addr (fun h0 => by obtain ⟨b, o, e, _⟩ := h.at_ (by omega); exact h1 b o e) (fun e => by rcases h2 e with h3 | h3; exact h.nil h3; exact h3)
theorem IS.part1 {B' : Option Addr} (h : IS w lo hi R A n c l) (hk : k ≤ n) (h1 : ∀ b o, A = some ⟨b, o, none⟩ → B' = A) (h2 : B' = none → A = none ∨ c = 0) : IS w lo hi R B' k c (l.take k) :=
  (h.take hk).addr (fun h0 => by obtain ⟨b, o, e, _⟩ := h.at_ (by omega); exact h1 b o e) (fun e => by rcases h2 e with h3 | h3; exact h.nil h3; exact h3)
theorem KS.part2 {B' : Option Addr} (h : KS w lo hi A n c ks) (hk : k ≤ n) (h1 : ¬ c = k → B' = A.map (·.add (k * 1))) (h2 : B' = none → A = none ∨ c = k) : KS w lo hi B' (n - k) (c - k) (ks.drop k) :=
  h.drop hk (fun e => by rw [h1 e, Nat.mul_one]) (fun e => by rcases h2 e with h3 | h3; have := h.nil h3; omega; omega)
theorem IS.part2 {B' : Option Addr} (h : IS w lo hi R A n c l) (hk : k ≤ n) (h1 : ¬ c = k → B' = A.map (·.add (k * 5))) (h2 : B' = none → A = none ∨ c = k) : IS w lo hi R B' (n - k) (c - k) (l.drop k) :=
  h.drop hk (fun e => h1 e) (fun e => by rcases h2 e with h3 | h3; have := h.nil h3; omega; omega)
end

theorem ks_one {W : World} {g : Nat} {key : ByteArray} {T : TypeId} (hkey : key.size ≤ 140737488351232) (h : W.heap[g]? = some (.cells #[.string key] T)) : KS W 0 W.heap.size (some ⟨g, 0, none⟩) 1 1 [key] := by
  refine ⟨rfl, Nat.le_refl _, by omega, (fun e => by cases e), fun j hj => ?_, fun _ => ⟨g, 0, rfl, Nat.zero_le _, blk_lt h, fun j hj => ?_⟩⟩
  · obtain rfl : j = 0 := by omega
    exact hkey
  · obtain rfl : j = 0 := by omega
    exact cell_of_row W g _ _ T (0, 0) h
theorem is_one {W : World} {g d lo1 hi1 : Nat} {k i : Int} {s : ByteArray} {x y : Value} {t : V} {T : TypeId} (hv : VB W lo1 hi1 d (.agg #[.int .i64 k, .int .i64 i, .string s, x, y]) t)
    (h : W.heap[g]? = some (.cells #[.int .i64 k, .int .i64 i, .string s, x, y] T)) : IS W 0 W.heap.size (VB W lo1 hi1 d) (some ⟨g, 0, none⟩) 1 1 [t] := by
  refine ⟨rfl, Nat.le_refl _, by omega, (fun e => by cases e), fun _ => ⟨g, 0, rfl, Nat.zero_le _, blk_lt h, fun j hj => ?_⟩⟩
  obtain rfl : j = 0 := by omega
  exact ⟨k, i, s, x, y, cell_of_row W g _ _ T (0, 0) h, cell_of_row W g _ _ T (0, 0) h, cell_of_row W g _ _ T (0, 0) h, cell_of_row W g _ _ T (0, 0) h, cell_of_row W g _ _ T (0, 0) h, hv⟩

theorem cat3 {α : Type} (f : Nat → List α) : cat f 3 = f 0 ++ f 1 ++ f 2 := by simp [cat]

def HasK (W : World) (g : Nat) (AF : Option Addr) (i e : Nat) (B' : Option Addr) (n' e' : Nat) (key : ByteArray) : Prop :=
  ∃ (g1 : Nat) (T T1 : TypeId), W.heap[g]? = some (.cells #[.slice AF i e, .slice (some ⟨g1, 0, none⟩) 1 1, .slice B' n' e'] T) ∧ W.heap[g1]? = some (.cells #[.string key] T1)
def HasV (W : World) (g : Nat) (AF : Option Addr) (i e : Nat) (B' : Option Addr) (n' e' : Nat) (k z : Int) (s : ByteArray) (x y : Value) : Prop :=
  ∃ (g1 : Nat) (T T1 : TypeId), W.heap[g]? = some (.cells #[.slice AF i e, .slice (some ⟨g1, 0, none⟩) 1 1, .slice B' n' e'] T) ∧ W.heap[g1]? = some (.cells #[.int .i64 k, .int .i64 z, .string s, x, y] T1)
def NewKP (ks : List ByteArray) (i nx : Nat) (key : ByteArray) (w W : World) (e : Ending) (w' : World) : Prop :=
  ∃ A n c, e = .returned (.slice A n c) ∧ KS w' 0 w'.heap.size A n c (M.putAt ks i nx key) ∧ Below w.heap.size w w' ∧ Below W.heap.size W w'
theorem putK {w W : World} {lo hi i nx g e n' e' : Nat} {AF B' : Option Addr} {ks : List ByteArray} {key : ByteArray}
    (hF : KS w lo hi AF i e (ks.take i)) (hD : KS w lo hi B' n' e' (ks.drop nx)) (hhi : hi ≤ w.heap.size) (hp : i + n' ≤ 2000) (hkey : key.size ≤ 140737488351232)
    (hb : Below w.heap.size w W) (hq : HasK W g AF i e B' n' e' key) :
    Calls Try.prog 28 #[.slice (some ⟨g, 0, none⟩) 3 3] W (NewKP ks i nx key w W) := by
  have hz := hb.size
  obtain ⟨g1, T, T1, hq, hq1⟩ := hq
  have h1 := (hF.later hb hhi).weak (Nat.zero_le _) (Nat.le_trans hhi hz)
  have h2 := (hD.later hb hhi).weak (Nat.zero_le _) (Nat.le_trans hhi hz)
  have h3 := ks_one hkey hq1
  refine (concatK (g := g) (L := 3) (lo := 0) (hi := W.heap.size) (A := fun q => if q = 0 then AF else if q = 1 then some ⟨g1, 0, none⟩ else B') (n := fun q => if q = 0 then i else if q = 1 then 1 else n') (c := fun q => if q = 0 then e else if q = 1 then 1 else e') (l := fun q => if q = 0 then ks.take i else if q = 1 then [key] else ks.drop nx) (w := W)
    (fun q hq' => by
      match q, hq' with
      | 0, _ => exact cell_of_row W g _ _ T (0, 0) hq
      | 1, _ => exact cell_of_row W g _ _ T (0, 0) hq
      | 2, _ => exact cell_of_row W g _ _ T (0, 0) hq) (blk_lt hq)
    (fun q hq' => by
      match q, hq' with
      | 0, _ => exact h1
      | 1, _ => exact h3
      | 2, _ => exact h2) (Nat.le_refl _) (by omega) (by simp [tot]; omega)).mono ?_
  rintro e w' ⟨A, n, c, rfl, hk, _, hb2⟩
  rw [cat3] at hk
  have e1 : (ks.take i ++ [key]) ++ ks.drop nx = M.putAt ks i nx key := by unfold M.putAt; simp
  exact ⟨A, n, c, rfl, by rw [← e1]; exact hk.weak (Nat.zero_le _) (Nat.le_refl _), hb.trans (hb2.mono hz), hb2⟩

def NewVP (its : List V) (i nx : Nat) (t : V) (d : Nat) (w W : World) (e : Ending) (w' : World) : Prop :=
  ∃ A n c, e = .returned (.slice A n c) ∧ IS w' 0 w'.heap.size (VB w' 0 w'.heap.size d) A n c (M.putAt its i nx t) ∧ Below w.heap.size w w' ∧ Below W.heap.size W w'
theorem putVs {w W : World} {lo hi i nx g e n' e' d : Nat} {AF B' : Option Addr} {its : List V} {k z : Int} {s : ByteArray} {x y : Value} {t : V}
    (hF : IS w lo hi (VB w lo hi d) AF i e (its.take i)) (hD : IS w lo hi (VB w lo hi d) B' n' e' (its.drop nx)) (hx : VB w lo hi d (.agg #[.int .i64 k, .int .i64 z, .string s, x, y]) t) (hhi : hi ≤ w.heap.size) (hp : i + n' ≤ 2000)
    (hb : Below w.heap.size w W) (hq : HasV W g AF i e B' n' e' k z s x y) :
    Calls Try.prog 29 #[.slice (some ⟨g, 0, none⟩) 3 3] W (NewVP its i nx t d w W) := by
  have hz := hb.size
  obtain ⟨g1, T, T1, hq, hq1⟩ := hq
  have h1 := (hF.later hb hhi).weak (Nat.zero_le _) (Nat.le_trans hhi hz) (fun _ _ r => r)
  have h2 := (hD.later hb hhi).weak (Nat.zero_le _) (Nat.le_trans hhi hz) (fun _ _ r => r)
  have h3 := is_one (hx.later hb hhi) hq1
  refine (concatV (g := g) (L := 3) (lo := 0) (hi := W.heap.size) (lo1 := lo) (hi1 := hi) (d := d) (A := fun q => if q = 0 then AF else if q = 1 then some ⟨g1, 0, none⟩ else B') (n := fun q => if q = 0 then i else if q = 1 then 1 else n') (c := fun q => if q = 0 then e else if q = 1 then 1 else e') (l := fun q => if q = 0 then its.take i else if q = 1 then [t] else its.drop nx) (w := W)
    (fun q hq' => by
      match q, hq' with
      | 0, _ => exact cell_of_row W g _ _ T (0, 0) hq
      | 1, _ => exact cell_of_row W g _ _ T (0, 0) hq
      | 2, _ => exact cell_of_row W g _ _ T (0, 0) hq) (blk_lt hq)
    (fun q hq' => by
      match q, hq' with
      | 0, _ => exact h1
      | 1, _ => exact h3
      | 2, _ => exact h2) (Nat.le_refl _) (by omega) (by omega) (by simp [tot]; omega)).mono ?_
  rintro e w' ⟨A, n, c, rfl, hk, hb2⟩
  have hz2 := hb2.size
  rw [cat3] at hk
  have e1 : (its.take i ++ [t]) ++ its.drop nx = M.putAt its i nx t := by unfold M.putAt; simp
  exact ⟨A, n, c, rfl, by rw [← e1]; exact hk.weak (Nat.zero_le _) (Nat.le_refl _) (fun _ _ r => r.weak (Nat.zero_le _) (by omega)), hb.trans (hb2.mono hz), hb2⟩
end Go.Proofs.Ytcamhcgafmmkdaa
