/-
  Several texts in one: TCan TLawD.
-/
import Derived.Test.YtdkggnciamfcmaaGreatDoorTAllC
namespace Go.Proofs.YtdkggnciamfcmaaGreatDoor
set_option linter.unusedVariables false
open M (V Res)
namespace M

def Err {α : Type} (s : ByteArray) (r : Res α) : Prop := ∀ k e, r = .no k e → k ≤ s.size ∧ e ≠ 0
section
variable {α β : Type} {s : ByteArray} {i j k b : Nat} {e : Int} {a : α} {r : Res α} {f : α → Nat → Nat → Res β}
theorem Err.ok : Err s (.ok a j b) := fun _ _ h => by cases h
theorem Err.no (h1 : k ≤ s.size) (h2 : e ≠ 0) : Err s (.no k e : Res α) := fun _ _ h => by injection h with e1 e2; subst e1 e2; exact ⟨h1, h2⟩
theorem Err.then (h : Err s r) (hw : Fwd s i b r) (hf : ∀ a j b', i ≤ j → j ≤ s.size → Err s (f a j b')) : Err s (r.then f) := by
  cases r with
  | no k x => exact fun k2 x2 hh => h k2 x2 (by rw [Res.then_no] at hh; injection hh with e1 e2; rw [e1, e2])
  | ok a j b =>
    have := hw a j b rfl
    exact hf a j b this.1 this.2.1
end
section
variable {s : ByteArray} {i b : Nat} (hi : i ≤ s.size)
include hi
theorem err_take : Err s (take s i b) := by
  unfold take; split
  · exact Err.ok
  · exact Err.no hi (by decide)
theorem err_vis : Err s (vis s i b) := by
  have := skip_le hi
  unfold vis
  exact err_take this.2
theorem err_want (x c : Nat) : Err s (want x c i b) := by
  unfold want; split
  · exact Err.ok
  · exact Err.no (by omega) (by decide)
theorem err_first (c : Nat) : Err s (first s c i b) := (err_vis hi).then (fwd_vis hi) fun a j b _ h2 => by split <;> exact Err.ok
theorem err_next (c : Nat) : Err s (next s c i b) := (err_vis hi).then (fwd_vis hi) fun a j b _ h2 => by
  split
  · exact Err.ok
  split
  · exact Err.ok
  · exact Err.no (by omega) (by decide)
end
theorem err_word (s : ByteArray) : ∀ (l : List UInt8) (i b : Nat), i ≤ s.size → Err s (word s l i b)
  | [], i, b, hi => Err.ok
  | c :: l, i, b, hi => by
    rw [word]
    exact (err_take hi).then fwd_take fun a j b' h1 h2 => (err_want h2 _ _).then (fwd_want h2 _ _) fun _ j b _ h2 => err_word s l j b h2
theorem fwd_hexD {s : ByteArray} {i b : Nat} : Fwd s i b (hexD s i b) := fun a j b' h => by
  have := hexD_inv h.symm
  omega
theorem err_hexD {s : ByteArray} {i b : Nat} (hi : i ≤ s.size) : Err s (hexD s i b) := (err_take hi).then fwd_take fun a j b' h1 h2 => by
  split
  · exact Err.no (by omega) (by decide)
  · exact Err.ok
theorem err_esc {s : ByteArray} {i b : Nat} (hi : i ≤ s.size) : Err s (esc s i b) := (err_take hi).then fwd_take fun a j b' h1 h2 => by
  split
  · exact Err.ok
  split
  · exact Err.ok
  split
  · exact (err_hexD h2).then fwd_hexD fun x k b _ h3 => (err_hexD h3).then fwd_hexD fun y m b _ _ => Err.ok
  split
  · exact Err.ok
  · exact Err.no (by omega) (by decide)
theorem err_letter {s : ByteArray} {c i b : Nat} (hi : i ≤ s.size) : Err s (letter s c i b) := by
  unfold letter
  split
  · exact err_esc hi
  split
  · exact Err.ok
  · exact Err.no (by omega) (by decide)
theorem err_litL (s : ByteArray) : ∀ (f : Nat) (acc : List UInt8) (c i b : Nat), i ≤ s.size → c < 256 → Err s (litL s f acc c i b)
  | 0, _, _, _, _, hi, _ => Err.no hi (by decide)
  | f + 1, acc, c, i, b, hi, hc => by
    rw [litL]
    split
    · exact Err.ok
    · refine (err_letter hi).then (fwd_letter hi hc) fun x j b' h1 h2 => ?_
      obtain ⟨q, hq⟩ : ∃ q, q = take s j b' := ⟨_, rfl⟩
      have he := err_take (b := b') h2
      rw [← hq] at he ⊢
      cases q with
      | no k e => exact fun k2 x2 hh => he k2 x2 (by rw [Res.then_no] at hh; injection hh with e1 e2; rw [e1, e2])
      | ok d k b2 =>
        obtain ⟨g1, g2, g3, g4⟩ := take_inv hq
        rw [Res.then_ok]
        exact err_litL s f _ d k b2 (by omega) (by rw [g2]; exact ch_lt s j)
theorem err_lit {s : ByteArray} {i b : Nat} (hi : i ≤ s.size) : Err s (lit s i b) := by
  unfold lit
  obtain ⟨q, hq⟩ : ∃ q, q = take s i b := ⟨_, rfl⟩
  have he := err_take (b := b) hi
  rw [← hq] at he ⊢
  cases q with
  | no k e => exact fun k2 x2 hh => he k2 x2 (by rw [Res.then_no] at hh; injection hh with e1 e2; rw [e1, e2])
  | ok d k b2 =>
    obtain ⟨g1, g2, g3, g4⟩ := take_inv hq
    rw [Res.then_ok]
    have hc : d < 256 := by rw [g2]; exact ch_lt s i
    refine (err_litL s _ [] d k b2 (by omega) hc).then (fwd_litL s _ [] d k b2 (by omega) hc) fun l k b h1 h2 => ?_
    split
    · exact Err.no (by omega) (by decide)
    · exact Err.ok
theorem err_int {s : ByteArray} {c i b : Nat} (hi : i ≤ s.size) : Err s (int s c i b) := by
  unfold int
  have hl : Err s (lead s c i b) ∧ Fwd s i b (lead s c i b) := by
    unfold lead
    split
    · refine ⟨(err_take hi).then fwd_take fun d j b h1 h2 => ?_, fwd_take.then fun d j b h1 h2 h3 => ?_⟩
      · split
        · exact Err.no (by omega) (by decide)
        · exact Err.ok
      · split
        · exact Fwd.no
        · exact Fwd.ok (Nat.le_refl _) h2 (Nat.le_refl _)
    · exact ⟨Err.ok, Fwd.ok (Nat.le_refl _) hi (Nat.le_refl _)⟩
  refine hl.1.then hl.2 fun d j b' h1 h2 => ?_
  unfold tail
  split
  · exact Err.no h2 (by decide)
  · split
    · exact Err.ok
    · exact Err.no (by omega) (by decide)
def ErrP (s : ByteArray) (p : Nat → Nat → Res V) : Prop := ∀ i b, i ≤ s.size → Err s (p i b) ∧ Fwd s i b (p i b)
section
variable {s : ByteArray} {i b : Nat} {p : Nat → Nat → Res V}
theorem err_pl (hp : ErrP s p) : ∀ (k : Nat) (acc : List V) (m : Bool) (i b : Nat), i ≤ s.size → Err s (pl s p k acc m i b)
  | 0, acc, false, i, b, hi => Err.ok
  | k + 1, acc, false, i, b, hi => Err.ok
  | 0, acc, true, i, b, hi => Err.no hi (by decide)
  | k + 1, acc, true, i, b, hi => (hp i b hi).1.then (hp i b hi).2 fun t j b' _ h2 => (err_next h2 _).then (fwd_next h2 _) fun m j b _ h2 => err_pl hp k _ m j b h2
theorem err_plist (hp : ErrP s p) (hi : i ≤ s.size) : Err s (plist s p i b) :=
  (err_first hi _).then (fwd_first hi _) fun m j b _ h2 => (err_pl hp _ _ m j b h2).then (fwd_pl (fun i b hi => (hp i b hi).2) _ _ m j b h2) fun l j b _ _ => Err.ok
theorem err_nkey (hi : i ≤ s.size) (ks : List ByteArray) : Err s (nkey s ks i b) :=
  (err_vis hi).then (fwd_vis hi) fun c j b _ h2 => (err_want h2 _ _).then (fwd_want h2 _ _) fun _ j2 b _ h3 => (err_lit h3).then fwd_lit fun k j3 b _ h4 => by
    split
    · exact Err.no (by omega) (by decide)
    · exact Err.ok
theorem err_pm (hp : ErrP s p) : ∀ (k : Nat) (ks : List ByteArray) (its : List V) (m : Bool) (i b : Nat), i ≤ s.size → Err s (pm s p k ks its m i b)
  | 0, _, _, false, i, b, hi => Err.ok
  | k + 1, _, _, false, i, b, hi => Err.ok
  | 0, _, _, true, i, b, hi => Err.no hi (by decide)
  | k + 1, ks, its, true, i, b, hi => (err_nkey hi ks).then (fwd_nkey hi) fun key j b _ h2 => (err_vis h2).then (fwd_vis h2) fun c j b _ h2 => (err_want h2 _ _).then (fwd_want h2 _ _) fun _ j b _ h2 => (hp j b h2).1.then (hp j b h2).2 fun t j b' _ h2 => (err_next h2 _).then (fwd_next h2 _) fun m j b _ h2 => err_pm hp k _ _ m j b h2
theorem err_ppairs (hp : ErrP s p) (hi : i ≤ s.size) : Err s (ppairs s p i b) :=
  (err_first hi _).then (fwd_first hi _) fun m j b _ h2 => (err_pm hp _ _ _ m j b h2).then (fwd_pm (fun i b hi => (hp i b hi).2) _ _ _ m j b h2) fun l j b _ _ => Err.ok
theorem err_pbody (hp : ErrP s p) (hi : i ≤ s.size) (c : Nat) : Err s (pbody s p c i b) := by
  have hw : ∀ (l : List UInt8) (t : V), Err s ((word s l i b).then fun _ j b => (.ok t j b : Res V)) := fun l t => (err_word s l i b hi).then (fwd_word s l i b hi) fun _ j b _ h2 => Err.ok
  unfold pbody
  split
  · exact hw _ _
  split
  · exact hw _ _
  split
  · exact hw _ _
  split
  · exact (err_lit hi).then fwd_lit fun _ j b _ h2 => Err.ok
  split
  · exact err_plist hp hi
  split
  · exact err_ppairs hp hi
  · exact (err_int hi).then (fwd_int hi) fun _ j b _ h2 => Err.ok
theorem err_bgn (hi : i ≤ s.size) (d : Nat) : Err s (bgn s d i b) := (err_vis hi).then (fwd_vis hi) fun c j b _ h2 => by
  split
  · exact Err.no (by omega) (by decide)
  split
  · exact Err.no (by omega) (by decide)
  split
  · exact Err.no (by omega) (by decide)
  · exact Err.ok
theorem fwd_bgn (hi : i ≤ s.size) (d : Nat) : Fwd s i b (bgn s d i b) := fun a j b' h => by
  have := bgn_inv h.symm
  have := skip_le hi
  omega
end
theorem err_pv (s : ByteArray) : ∀ f, ErrP s (pv f s)
  | 0, i, b, hi => ⟨(err_bgn hi 17).then (fwd_bgn hi 17) fun _ j b h1 h2 => Err.no h2 (by decide), fun a j b' hh => by have := pv_on 0 s i b j b' a hi hh.symm; omega⟩
  | f + 1, i, b, hi => ⟨(err_bgn hi _).then (fwd_bgn hi _) fun c j b h1 h2 => err_pbody (err_pv s f) h2 c, fun a j b' hh => by have := pv_on (f + 1) s i b j b' a hi hh.symm; omega⟩
theorem parse_err {s : ByteArray} {t : V} {k : Nat} {e : Int} (h : parse s = (t, k, e)) (he : e ≠ 0) : k ≤ s.size ∧ t = V.null := by
  unfold parse at h
  have ho := (err_pv s 16 0 0 (Nat.zero_le _)).1
  obtain ⟨q, hq⟩ : ∃ q, q = pv 16 s 0 0 := ⟨_, rfl⟩
  rw [← hq] at h ho
  unfold fin at h
  cases q with
  | no k2 e2 =>
    simp only [Prod.mk.injEq] at h
    obtain ⟨rfl, rfl, rfl⟩ := h
    exact ⟨(ho _ _ rfl).1, rfl⟩
  | ok t2 j b =>
    dsimp only at h
    split at h
    · rename_i h2
      simp only [Prod.mk.injEq] at h
      obtain ⟨rfl, rfl, _⟩ := h
      exact ⟨by omega, rfl⟩
    · simp only [Prod.mk.injEq] at h
      exact absurd h.2.2.symm he
theorem parse_good {s : ByteArray} {t : V} {k : Nat} (h : parse s = (t, k, 0)) : k = 0 ∧ ∃ j b, pv 16 s 0 0 = .ok t j b := by
  unfold parse at h
  have ho := (err_pv s 16 0 0 (Nat.zero_le _)).1
  obtain ⟨q, hq⟩ : ∃ q, q = pv 16 s 0 0 := ⟨_, rfl⟩
  rw [← hq] at h ho
  unfold fin at h
  cases q with
  | no k2 e2 =>
    simp only [Prod.mk.injEq] at h
    exact absurd h.2.2 (ho _ _ rfl).2
  | ok t2 j b =>
    dsimp only at h
    split at h
    · simp only [Prod.mk.injEq] at h
      obtain ⟨_, _, h3⟩ := h
      cases h3
    · simp only [Prod.mk.injEq] at h
      obtain ⟨rfl, rfl, _⟩ := h
      exact ⟨rfl, j, b, hq.symm⟩
/-! ### What is accepted -/
theorem then_inv {α β : Type} {r : Res α} {f : α → Nat → Nat → Res β} {x : β} {j b : Nat} (h : r.then f = .ok x j b) : ∃ a j1 b1, r = .ok a j1 b1 ∧ f a j1 b1 = .ok x j b := by
  cases r with
  | no k e => cases h
  | ok a j1 b1 => exact ⟨a, j1, b1, rfl, h⟩
theorem V.intss_append (a b : List V) : V.intss (a ++ b) ↔ V.intss a ∧ V.intss b := by
  induction a with
  | nil => simp [V.intss]
  | cons x r ih => simp only [List.cons_append, V.intss, ih, and_assoc]
theorem Pays.app {f : Nat} {a b : List V} : Pays f (a ++ b) ↔ Pays f a ∧ Pays f b := by
  constructor
  · rintro ⟨h1, h2, h3, h4, h5⟩
    rw [V.wfs_append, Bool.and_eq_true] at h1
    rw [V.shorts_append, Bool.and_eq_true] at h2
    rw [V.futs_append, Bool.or_eq_false_iff] at h3
    rw [V.deps_append] at h4
    rw [V.intss_append] at h5
    exact ⟨⟨h1.1, h2.1, h3.1, by omega, h5.1⟩, ⟨h1.2, h2.2, h3.2, by omega, h5.2⟩⟩
  · rintro ⟨⟨h1, h2, h3, h4, h5⟩, ⟨g1, g2, g3, g4, g5⟩⟩
    exact ⟨by rw [V.wfs_append, h1, g1]; rfl, by rw [V.shorts_append, h2, g2]; rfl, by rw [V.futs_append, h3, g3]; rfl, by rw [V.deps_append]; omega, by rw [V.intss_append]; exact ⟨h5, g5⟩⟩
theorem Pays.of {f : Nat} {x : V} {l : List V} (h : Pay f x) (h2 : Pays f l) : Pays f (x :: l) :=
  ⟨by rw [V.wfs, h.wf, h2.wf]; rfl, by rw [V.shorts, h.sh, h2.sh]; rfl, by rw [V.futs, h.fu, h2.fu]; rfl, by rw [V.deps]; have := h.dp; have := h2.dp; omega, by rw [V.intss]; exact ⟨h.it, h2.it⟩⟩
theorem Pays.none {f : Nat} : Pays f [] := ⟨rfl, rfl, rfl, Nat.zero_le _, trivial⟩
theorem Pays.ins {f p : Nat} {x : V} {l : List V} (h : Pay f x) (h2 : Pays f l) : Pays f (insAt p x l) := by
  have h3 : Pays f (l.take p ++ l.drop p) := by rw [List.take_append_drop]; exact h2
  obtain ⟨h4, h5⟩ := Pays.app.1 h3
  exact Pays.app.2 ⟨h4, Pays.of h h5⟩
theorem szs_ins {p : Nat} {x : V} {l : List V} : V.szs (insAt p x l) = V.szs l + x.sz := by
  have h : V.szs (l.take p ++ l.drop p) = V.szs l := by rw [List.take_append_drop]
  rw [V.szs_append] at h
  unfold insAt
  rw [V.szs_append, V.szs]; omega
def Good (s : ByteArray) (f : Nat) (p : Nat → Nat → Res V) : Prop := ∀ i b t j b', i ≤ s.size → b ≤ 1000 → p i b = .ok t j b' → Pay f t ∧ b' = b + t.sz ∧ b' ≤ 1000 ∧ j ≤ s.size
theorem word_b (s : ByteArray) : ∀ (l : List UInt8) (i b j b' : Nat) (u : Unit), word s l i b = .ok u j b' → b' = b
  | [], i, b, j, b', u, h => by injection h with _ _ h3; exact h3.symm
  | c :: l, i, b, j, b', u, h => by
    rw [word] at h
    obtain ⟨a, j1, b1, h1, h2⟩ := then_inv h
    obtain ⟨_, j2, b2, h3, h4⟩ := then_inv h2
    have e1 := (take_inv h1.symm).2.2.2
    unfold want at h3
    split at h3
    · injection h3 with _ _ h5
      have := word_b s l j2 b2 j b' u h4
      omega
    · cases h3
theorem lit_b {s : ByteArray} {i b j b' : Nat} {x : ByteArray} (hi : i ≤ s.size) (h : lit s i b = .ok x j b') : b' = b ∧ j ≤ s.size := by
  have h1 := fwd_lit x j b' h
  refine ⟨?_, h1.2.1⟩
  have hL : ∀ (f : Nat) (acc : List UInt8) (c i b : Nat) (l : List UInt8) (j b' : Nat), i ≤ s.size → c < 256 → litL s f acc c i b = .ok l j b' → b' = b := by
    intro f
    induction f with
    | zero => intro acc c i b l j b' _ _ h; rw [litL] at h; cases h
    | succ f ih =>
      intro acc c i b l j b' hi hc h
      rw [litL] at h
      split at h
      · injection h with _ _ h3; exact h3.symm
      · obtain ⟨x, j1, b1, g1, g2⟩ := then_inv h
        obtain ⟨d, j2, b2, g3, g4⟩ := then_inv g2
        have e1 := letter_inv hi hc g1.symm
        have e2 := take_inv g3.symm
        have := ih _ d j2 b2 l j b' (by omega) (by rw [e2.2.1]; exact ch_lt s j1) g4
        omega
  unfold lit at h
  obtain ⟨c, j1, b1, g1, g2⟩ := then_inv h
  obtain ⟨l, j2, b2, g3, g4⟩ := then_inv g2
  have e1 := take_inv g1.symm
  have e2 := hL _ _ c j1 b1 l j2 b2 (by omega) (by rw [e1.2.1]; exact ch_lt s i) g3
  split at g4
  · cases g4
  · injection g4 with _ _ g5; omega
theorem next_b {s : ByteArray} {c i b j b' : Nat} {m : Bool} (hi : i ≤ s.size) (h : next s c i b = .ok m j b') : b' = b ∧ j ≤ s.size := by have := next_inv hi h.symm; omega
theorem first_b {s : ByteArray} {c i b j b' : Nat} {m : Bool} (hi : i ≤ s.size) (h : first s c i b = .ok m j b') : b' = b ∧ j ≤ s.size := by have := first_inv hi h.symm; omega
theorem good_pl {s : ByteArray} {f : Nat} {p : Nat → Nat → Res V} (hp : Good s f p) : ∀ (k : Nat) (acc : List V) (m : Bool) (i b : Nat) (l : List V) (j b' : Nat), i ≤ s.size → b ≤ 1000 → Pays f acc → pl s p k acc m i b = .ok l j b' → Pays f l ∧ b' + V.szs acc = b + V.szs l ∧ b' ≤ 1000
  | 0, acc, false, i, b, l, j, b', hi, hb, ha, h => by injection h with h1 h2 h3; subst h1 h3; exact ⟨ha, rfl, hb⟩
  | k + 1, acc, false, i, b, l, j, b', hi, hb, ha, h => by injection h with h1 h2 h3; subst h1 h3; exact ⟨ha, rfl, hb⟩
  | 0, acc, true, i, b, l, j, b', hi, hb, ha, h => by cases h
  | k + 1, acc, true, i, b, l, j, b', hi, hb, ha, h => by
    rw [pl] at h
    obtain ⟨t, j1, b1, g1, g2⟩ := then_inv h
    obtain ⟨m, j2, b2, g3, g4⟩ := then_inv g2
    obtain ⟨p1, p2, p3, p4⟩ := hp i b t j1 b1 hi hb g1
    have e := next_b p4 g3
    have := good_pl hp k (acc ++ [t]) m j2 b2 l j b' e.2 (by omega) (Pays.app.2 ⟨ha, Pays.of p1 Pays.none⟩) g4
    rw [V.szs_append, V.szs, V.szs] at this
    exact ⟨this.1, by omega, this.2.2⟩
structure Map (f : Nat) (ks : List ByteArray) (its : List V) : Prop where
  pays : Pays f its
  len : ks.length = its.length
  up : Rise ks
  fit : ∀ k ∈ ks, k.size ≤ 4096
theorem nkey_ok {s : ByteArray} {ks : List ByteArray} {i b j b' : Nat} {key : ByteArray} (hi : i ≤ s.size) (h : nkey s ks i b = .ok key j b') : key.size ≤ 4096 ∧ b' = b ∧ j ≤ s.size ∧ ¬ (plc ks key < ks.length ∧ (ks.getD (plc ks key) ByteArray.empty).toList = key.toList) := by
  unfold nkey at h
  obtain ⟨c, j1, b1, g1, g2⟩ := then_inv h
  obtain ⟨_, j2, b2, g3, g4⟩ := then_inv g2
  obtain ⟨x, j3, b3, g5, g6⟩ := then_inv g4
  have e1 := fwd_vis hi c j1 b1 g1
  have e1' := (vis_inv g1.symm).2.2.2
  unfold want at g3
  split at g3
  · injection g3 with _ q2 q3
    subst q2 q3
    have e2 := lit_b e1.2.1 g5
    have e3 := lit_size g5.symm
    split at g6
    · cases g6
    · rename_i hn
      injection g6 with q4 q5 q6
      subst q4 q5 q6
      exact ⟨e3, by omega, e2.2, hn⟩
  · cases g3
theorem mem_ins {α : Type} {p : Nat} {x y : α} {l : List α} (h : y ∈ insAt p x l) : y = x ∨ y ∈ l := by
  unfold insAt at h
  rw [List.mem_append, List.mem_cons] at h
  rcases h with h | h | h
  · exact .inr (List.mem_of_mem_take h)
  · exact .inl h
  · exact .inr (List.mem_of_mem_drop h)
theorem good_pm {s : ByteArray} {f : Nat} {p : Nat → Nat → Res V} (hp : Good s f p) : ∀ (k : Nat) (ks : List ByteArray) (its : List V) (m : Bool) (i b : Nat) (r : List ByteArray × List V) (j b' : Nat), i ≤ s.size → b ≤ 1000 → Map f ks its → pm s p k ks its m i b = .ok r j b' → Map f r.1 r.2 ∧ b' + V.szs its = b + V.szs r.2 ∧ b' ≤ 1000
  | 0, ks, its, false, i, b, r, j, b', hi, hb, ha, h => by injection h with h1 h2 h3; subst h1 h3; exact ⟨ha, rfl, hb⟩
  | k + 1, ks, its, false, i, b, r, j, b', hi, hb, ha, h => by injection h with h1 h2 h3; subst h1 h3; exact ⟨ha, rfl, hb⟩
  | 0, ks, its, true, i, b, r, j, b', hi, hb, ha, h => by cases h
  | k + 1, ks, its, true, i, b, r, j, b', hi, hb, ha, h => by
    rw [pm] at h
    obtain ⟨key, j1, b1, g1, g2⟩ := then_inv h
    obtain ⟨c, j2, b2, g3, g4⟩ := then_inv g2
    obtain ⟨_, j3, b3, g5, g6⟩ := then_inv g4
    obtain ⟨t, j4, b4, g7, g8⟩ := then_inv g6
    obtain ⟨m, j5, b5, g9, g10⟩ := then_inv g8
    have e1 := nkey_ok hi g1
    have e2 := fwd_vis e1.2.2.1 c j2 b2 g3
    have e2' := (vis_inv g3.symm).2.2.2
    unfold want at g5
    split at g5
    · injection g5 with _ q2 q3
      subst q2 q3
      obtain ⟨p1, p2, p3, p4⟩ := hp j2 b2 t j4 b4 e2.2.1 (by omega) g7
      have e3 := next_b p4 g9
      have hle := plc_le ks key
      have hm : Map f (insAt (plc ks key) key ks) (insAt (plc ks key) t its) := ⟨Pays.ins p1 ha.pays, by rw [insAt_len hle, insAt_len (by rw [← ha.len]; exact hle), ha.len], rise_ins ha.up e1.2.2.2, fun y hy => by
        rcases mem_ins hy with rfl | hy
        · exact e1.1
        · exact ha.fit y hy⟩
      have := good_pm hp k _ _ m j5 b5 r j b' e3.2 (by omega) hm g10
      rw [szs_ins] at this
      exact ⟨this.1, by omega, this.2.2⟩
    · cases g5
theorem top_of {k n : Int} {s : ByteArray} {its : List V} {ks : List ByteArray} (h : uses k n s.toList.isEmpty ((its.length : Int) == 0) ((ks.length : Int) == 0) ((ks.length : Int) == (its.length : Int)) (rise ks) = true) (h6 : k ≠ 6) {f : Nat} (hs : s.size ≤ 4096) (hk : ∀ q ∈ ks, q.size ≤ 4096) (hn : -9223372036854775808 ≤ n ∧ n ≤ 9223372036854775807) (hp : Pays f its) : Pay (f + 1) (.mk k n s its ks) := by
  refine ⟨?_, ?_, ?_, ?_, ?_⟩
  · rw [V.wf, hp.wf, Bool.and_true]; exact h
  · rw [V.short, hp.sh, Bool.and_true]
    unfold V.txt
    rw [Bool.and_eq_true, List.all_eq_true]
    exact ⟨by unfold fits; exact decide_eq_true hs, fun q hq => by unfold fits; exact decide_eq_true (hk q hq)⟩
  · rw [V.fut, hp.fu, Bool.or_false]; simpa using h6
  · rw [V.dep]; have := hp.dp; omega
  · simp only [V.ints]; exact ⟨hn, hp.it⟩
theorem int_ok {s : ByteArray} {c i b j b' : Nat} {n : Int} (h : int s c i b = .ok n j b') : (-9223372036854775808 ≤ n ∧ n ≤ 9223372036854775807) ∧ b' = b := by
  unfold int at h
  obtain ⟨d, j1, b1, g1, g2⟩ := then_inv h
  have hb : b1 = b := by
    unfold lead at g1
    split at g1
    · obtain ⟨d2, j2, b2, g3, g4⟩ := then_inv g1
      have := (take_inv g3.symm).2.2.2
      split at g4
      · cases g4
      · injection g4 with _ _ g5; omega
    · injection g1 with _ _ g5; exact g5.symm
  unfold tail at g2
  split at g2
  · cases g2
  · split at g2
    · rename_i v hv
      injection g2 with g3 g4 g5
      subst g3
      refine ⟨?_, by omega⟩
      unfold num at hv
      split at hv
      · rename_i v2 hv2
        injection hv with hv
        subst hv
        have := Lib.parseIntB_bounds hv2
        omega
      · cases hv
    · cases g2
theorem good_pv (s : ByteArray) : ∀ f, Good s f (pv f s)
  | 0, i, b, t, j, b', hi, hb, h => by
    rw [pv] at h
    obtain ⟨c, j1, b1, g1, g2⟩ := then_inv h
    cases g2
  | f + 1, i, b, t, j, b', hi, hb, h => by
    have hj := (pv_on (f + 1) s i b j b' t hi h.symm).2.1
    rw [pv] at h
    obtain ⟨c, j1, b1, g1, g2⟩ := then_inv h
    have e1 := bgn_inv g1.symm
    have hb1 : b1 = b + 1 ∧ b ≠ 1000 := by
      refine ⟨e1.2.2.1, fun hbb => ?_⟩
      unfold bgn at g1
      obtain ⟨c2, j2, b2, q1, q2⟩ := then_inv g1
      have := (vis_inv q1.symm).2.2.2
      split at q2
      · cases q2
      split at q2
      · cases q2
      split at q2
      · cases q2
      · omega
    have hi1 : j1 ≤ s.size := by have := skip_le hi; omega
    have P0 : Pays f [] := Pays.none
    have e0 : (ByteArray.empty : ByteArray).size ≤ 4096 := by decide
    have nok : ∀ q ∈ ([] : List ByteArray), q.size ≤ 4096 := fun q hq => by cases hq
    have e0t : (ByteArray.empty : ByteArray).toList.isEmpty = true := by rw [ByteArray.toList_eq]; rfl
    have hword : ∀ (l : List UInt8) (t0 : V), Pay (f + 1) t0 → t0.sz = 1 → (word s l j1 b1).then (fun _ j b => (.ok t0 j b : Res V)) = .ok t j b' → Pay (f + 1) t ∧ b' = b + t.sz ∧ b' ≤ 1000 ∧ j ≤ s.size := fun l t0 hp hz hw => by
      obtain ⟨_, j2, b2, q1, q2⟩ := then_inv hw
      injection q2 with q3 q4 q5
      subst q3 q5
      have := word_b s l j1 b1 j2 b2 () q1
      exact ⟨hp, by omega, by omega, hj⟩
    unfold pbody at g2
    split at g2
    · exact hword _ _ (top_of (by unfold uses; rw [if_pos rfl, e0t]; rfl) (by decide) e0 nok (by omega) P0) rfl g2
    split at g2
    · exact hword _ _ (top_of (by unfold uses; rw [if_neg (by decide), if_pos rfl, e0t]; rfl) (by decide) e0 nok (by omega) P0) rfl g2
    split at g2
    · exact hword _ _ (top_of (by unfold uses; rw [if_neg (by decide), if_pos rfl, e0t]; rfl) (by decide) e0 nok (by omega) P0) rfl g2
    split at g2
    · obtain ⟨x, j2, b2, q1, q2⟩ := then_inv g2
      injection q2 with q3 q4 q5
      subst q3 q5
      have e2 := lit_b hi1 q1
      have e3 := lit_size q1.symm
      exact ⟨top_of (by unfold uses; rw [if_neg (by decide), if_neg (by decide), if_neg (by decide), if_pos rfl]; rfl) (by decide) e3 nok (by omega) P0, by have : V.sz (.mk 3 0 x [] []) = 1 := rfl; omega, by omega, hj⟩
    split at g2
    · unfold plist at g2
      obtain ⟨m, j2, b2, q1, q2⟩ := then_inv g2
      obtain ⟨l, j3, b3, q3, q4⟩ := then_inv q2
      have e2 := first_b hi1 q1
      have e3 := good_pl (good_pv s f) _ [] m j2 b2 l j3 b3 e2.2 (by omega) P0 q3
      injection q4 with q5 q6 q7
      subst q5 q7
      rw [V.szs] at e3
      exact ⟨top_of (by unfold uses; rw [if_neg (by decide), if_neg (by decide), if_neg (by decide), if_neg (by decide), if_pos rfl, e0t]; rfl) (by decide) e0 nok (by omega) e3.1, by rw [V.sz]; omega, e3.2.2, hj⟩
    split at g2
    · unfold ppairs at g2
      obtain ⟨m, j2, b2, q1, q2⟩ := then_inv g2
      obtain ⟨r, j3, b3, q3, q4⟩ := then_inv q2
      have e2 := first_b hi1 q1
      have e3 := good_pm (good_pv s f) _ [] [] m j2 b2 r j3 b3 e2.2 (by omega) ⟨P0, rfl, rise_none, nok⟩ q3
      injection q4 with q5 q6 q7
      subst q5 q7
      rw [V.szs] at e3
      exact ⟨top_of (by unfold uses; rw [if_neg (by decide), if_neg (by decide), if_neg (by decide), if_neg (by decide), if_neg (by decide), if_pos rfl, e0t, rise_iff.2 e3.1.up, e3.1.len]; simp) (by decide) e0 e3.1.fit (by omega) e3.1.pays, by rw [V.sz]; omega, e3.2.2, hj⟩
    · obtain ⟨n, j2, b2, q1, q2⟩ := then_inv g2
      injection q2 with q3 q4 q5
      subst q3 q5
      have e2 := int_ok q1
      exact ⟨top_of (by unfold uses; rw [if_neg (by decide), if_neg (by decide), if_pos rfl, e0t]; rfl) (by decide) e0 nok e2.1 P0, by have : V.sz (.mk 2 n ByteArray.empty [] []) = 1 := rfl; omega, by omega, hj⟩
theorem parse_right {s : ByteArray} {t : V} {k : Nat} (h : parse s = (t, k, 0)) : k = 0 ∧ t.right = true ∧ V.ints t := by
  obtain ⟨h1, j, b, h2⟩ := parse_good h
  obtain ⟨p, q1, q2, _⟩ := good_pv s 16 0 0 t j b (Nat.zero_le _) (by omega) h2
  refine ⟨h1, ?_, p.it⟩
  unfold V.right V.within
  simp only [Bool.and_eq_true, Bool.not_eq_true', decide_eq_true_eq]
  exact ⟨⟨p.wf, ⟨p.sh, p.dp⟩, by omega⟩, p.fu⟩
end M
end Go.Proofs.YtdkggnciamfcmaaGreatDoor

namespace Go.Proofs.YtdkggnciamfcmaaGreatDoor
set_option linter.unusedVariables false
open Go.RowKit
open M (V)
set_option maxRecDepth 100000

set_option maxHeartbeats 4000000 in
theorem canonicalW (s : ByteArray) (w : World) (hs : s.size ≤ maxLen) (G : TGate w) :
    Calls Tryz.prog 7 #[.string s] w fun e w' => e = .returned (.bool true) ∧ Below w.heap.size w w' := by
  have hm := hs
  unfold maxLen at hm
  have HG := Lib.hid G
  clear G
  by_cases h : (6000 : Int) < (s.size : Int)
  · go_enter Tryz.func7, Tryz.ntmps7
    go_wp2_with fail
    refine (lives_any _ HG.out).mono ?_
    rintro e w1 ⟨rfl, hb⟩
    go_wp2_with fail
    go_ret
    exact ⟨rfl, hb⟩
  have HC1 := Lib.hid (parse_c (w := w) (s := s) (by omega) HG.out)
  obtain ⟨⟨t, k, e⟩, hp⟩ : ∃ r, M.parse s = r := ⟨_, rfl⟩
  rw [hp] at HC1
  by_cases he : e = 0
  · subst he
    obtain ⟨hk, hr, hint⟩ := M.parse_right hp
    subst hk
    obtain ⟨pay, hs1⟩ := right_pay hr hint
    have hlen := txt_len 16 t pay
    obtain ⟨T, hT⟩ : ∃ T, T = tstr (M.txt t) := ⟨_, rfl⟩
    have hTl : T.data.toList = M.txt t := by rw [hT, tstr_list]
    have hTs : T.size ≤ 33000000 := by rw [hT, ts_size]; omega
    have hP1 : M.parse T = (t, 0, 0) := M.parse_back (bl := []) (br := []) hr hint M.blanks_nil M.blanks_nil (by rw [hTl]; simp)
    have hPr : M.print t = (T, 0) := by unfold M.print; rw [if_pos hr, hT]
    have HP1 := Lib.hid hP1; have HPR := Lib.hid hPr; have HTS : Hid (T.size ≤ 1000000000) := Lib.hid (by omega)
    have HLN : Hid ((M.txt t).length ≤ 140737488355000) := Lib.hid (by omega)
    have HSM := Lib.hid (V.same_yes (rfl : t = t))
    have HRT := Lib.hid hr
    have HSZ : Hid (t.sz ≤ 1000000) := Lib.hid (by omega)
    clear hp pay hs1 hlen hT hTl hTs hP1 hPr hr hint
    go_enter Tryz.func7, Tryz.ntmps7
    go_wp2_with fail
    refine (HC1.out).mono ?_
    rintro e w1 ⟨v1, rfl, hv1, hb1⟩
    obtain ⟨A1, n1, d1, B1, p1, e1, rfl⟩ := hv1.agg
    have G1 := Lib.hid (HG.out.below hb1)
    have HB1 := Lib.hid hb1
    have hx1 := box_refl w1 (.cells #[.int .i64 t.k, .int .i64 t.n, .string t.s, .slice A1 n1 d1, .slice B1 p1 e1] 25)
    have hz1 := box_size hx1
    have HV1 := Lib.hid hv1
    clear hv1 hb1
    go_wp2_with fail
    refine (print_c ⟨17, HV1.out.later (box_below hx1) (Nat.le_refl _)⟩ (by omega) HLN.out (G1.out.below (box_below hx1))).mono ?_
    rintro e w2 ⟨rfl, hb2⟩
    rw [HPR.out]
    have hx2 := box_step hx1 hb2
    have hz2 := box_size hx2
    clear hx1 hb2 hz1
    go_wp2_with fail
    refine (parse_c HTS.out (G1.out.below (box_below hx2))).mono ?_
    rintro e w3 ⟨v3, rfl, hv3, hb3⟩
    rw [HP1.out] at hv3 ⊢
    obtain ⟨A3, n3, d3, B3, p3, e3, rfl⟩ := hv3.agg
    have hx3 := box_step hx2 hb3
    have hz3 := box_size hx3
    have hy3 := box_refl w3 (.cells #[.int .i64 t.k, .int .i64 t.n, .string t.s, .slice A3 n3 d3, .slice B3 p3 e3] 25)
    have hyz3 := box_size hy3
    have hx3' := box_step hx3 (box_below hy3)
    have HV3 := Lib.hid hv3
    clear hv3 hx2 hb3
    go_wp2_with fail
    refine (print_c ⟨17, HV3.out.later (box_below hy3) (Nat.le_refl _)⟩ (by omega) HLN.out (G1.out.below (box_below hx3'))).mono ?_
    rintro e w4 ⟨rfl, hb4⟩
    rw [HPR.out]
    have hx4 := box_step hx3' hb4
    have hy4 := box_step hy3 hb4
    have hz4 := box_size hx4
    have hyz4 := box_size hy4
    clear hx3 hx3' hy3 hb4
    obtain ⟨b0, b1, b2, b3, b4⟩ := box5 hx4
    obtain ⟨c0, c1, c2, c3, c4⟩ := box5 hy4
    go_wp2_with fail
    refine (rRightX ⟨17, HV1.out.later (box_below hx4) (Nat.le_refl _)⟩ (by omega) HSZ.out).mono ?_
    rintro e w5 ⟨rfl, hb5⟩
    rw [HRT.out]
    have hx5 := box_step hx4 hb5
    have hy5 := box_step hy4 hb5
    have hz5 := box_size hx5
    have hyz5 := box_size hy5
    clear b0 b1 b2 b3 b4 c0 c1 c2 c3 c4 hx4 hy4 hb5
    obtain ⟨b0, b1, b2, b3, b4⟩ := box5 hx5
    obtain ⟨c0, c1, c2, c3, c4⟩ := box5 hy5
    go_wp2_with fail
    refine (rSameX ⟨17, HV1.out.later (box_below hx5) (Nat.le_refl _)⟩ ⟨17, HV3.out.later (box_below hy5) (Nat.le_refl _)⟩ (by omega) (by omega)).mono ?_
    rintro e w6 ⟨rfl, hb6⟩
    rw [HSM.out]
    have hx6 := box_step hx5 hb6
    clear b0 b1 b2 b3 b4 c0 c1 c2 c3 c4 hx5 hy5 hb6
    go_wp2_with fail
    refine (lives_any _ (G1.out.below (box_below hx6))).mono ?_
    rintro e w7 ⟨rfl, hb7⟩
    have hx7 := box_below (box_step hx6 hb7)
    go_wp2_with fail
    go_ret
    exact ⟨rfl, HB1.out.trans (hx7.mono HB1.out.size)⟩
  · obtain ⟨hk, hn⟩ := M.parse_err hp he
    subst hn
    have hne : (e != 0) = true := by simpa using he
    have hk2 : (k : Int) ≤ (s.size : Int) := by omega
    clear hp he
    go_enter Tryz.func7, Tryz.ntmps7
    go_wp2_with fail
    refine (HC1.out).mono ?_
    rintro e' w1 ⟨v1, rfl, hv1, hb1⟩
    obtain ⟨A1, n1, d1, B1, p1, e1, rfl⟩ := hv1.agg
    have hnk : V.null.k = 0 := rfl
    rw [hnk]
    have G1 := Lib.hid (HG.out.below hb1)
    have HB1 := Lib.hid hb1
    clear hv1 hb1
    go_wp2_with fail
    refine (lives_any _ (G1.out.below (box_new w1 _))).mono ?_
    rintro e2 w4 ⟨rfl, hb4⟩
    have HB4 := Lib.hid (HB1.out.trans (((box_new w1 _).trans (hb4.mono (box_new w1 _).size)).mono HB1.out.size))
    clear hb4
    go_wp2_with fail
    go_ret
    exact ⟨rfl, HB4.out⟩
end Go.Proofs.YtdkggnciamfcmaaGreatDoor
