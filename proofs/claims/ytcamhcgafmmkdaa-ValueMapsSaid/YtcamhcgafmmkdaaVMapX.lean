/-
  Layer 2: the two Maps return the same map, or the same error.
-/
import Derived.Test.YtcamhcgafmmkdaaVCodM
import Derived.Test.YtcamhcgafmmkdaaVal10
namespace Go.Proofs.Ytcamhcgafmmkdaa
set_option linter.unusedVariables false
open Go.RowKit
open M (V)

/-- What the reference's Map returns: the map that was built, or the error. -/
def NewRM (ks : List ByteArray) (its : List V) (w : World) (e : Ending) (w' : World) : Prop :=
  ((¬ ks.Nodup ∧ e = .returned (.tuple #[.agg #[.int .i64 0, .int .i64 0, .string ByteArray.empty, .slice none 0 0, .slice none 0 0], .int .i64 9])) ∨
   ∃ oks oits, M.Rise oks ∧ oks.length = oits.length ∧ (oks.zip oits).Perm (ks.zip its) ∧
    (V.within (.mk 5 0 ByteArray.empty oits oks) = false → e = .returned (.tuple #[.agg #[.int .i64 0, .int .i64 0, .string ByteArray.empty, .slice none 0 0, .slice none 0 0], .int .i64 6])) ∧
    (V.within (.mk 5 0 ByteArray.empty oits oks) = true → ∃ v, e = .returned (.tuple #[v, .int .i64 0]) ∧ VX w' 0 w'.heap.size v (.mk 5 0 ByteArray.empty oits oks))) ∧ Below w.heap.size w w'

/-- The map of the keys and items, and the error. -/
def IsMap (ks : List ByteArray) (its : List V) (T : V) (E : Int) : Prop :=
  (ks.length ≠ its.length ∧ T = V.null ∧ E = 6) ∨ (ks.length = its.length ∧ ((¬ ks.Nodup ∧ T = V.null ∧ E = 9) ∨
    ∃ oks oits, M.Rise oks ∧ oks.length = oits.length ∧ (oks.zip oits).Perm (ks.zip its) ∧ ((V.within (.mk 5 0 ByteArray.empty oits oks) = false ∧ T = V.null ∧ E = 6) ∨ (V.within (.mk 5 0 ByteArray.empty oits oks) = true ∧ T = .mk 5 0 ByteArray.empty oits oks ∧ E = 0))))
theorem zip_nodup {ks oks : List ByteArray} {its oits : List V} (hl : ks.length = its.length) (ho : M.Rise oks) (hol : oks.length = oits.length) (hperm : (oks.zip oits).Perm (ks.zip its)) : ks.Nodup := by
  have h1 : (oks.zip oits).map Prod.fst = oks := List.map_fst_zip (by omega)
  have h2 : (ks.zip its).map Prod.fst = ks := List.map_fst_zip (by omega)
  have h3 : oks.Perm ks := by have := hperm.map Prod.fst; rwa [h1, h2] at this
  exact h3.nodup_iff.1 (M.pair_nodup (M.rise_pair.1 ho))
theorem zip_uniq {oks oks' : List ByteArray} {oits oits' : List V} (h : M.Rise oks) (h' : M.Rise oks') (hl : oks.length = oits.length) (hl' : oks'.length = oits'.length) (hp : (oks.zip oits).Perm (oks'.zip oits')) : oks = oks' ∧ oits = oits' := by
  have e := M.pairs_eq hp (M.zip_pair (M.rise_pair.1 h) hl) (M.zip_pair (M.rise_pair.1 h') hl')
  have e1 := congrArg (List.map Prod.fst) e
  have e2 := congrArg (List.map Prod.snd) e
  rw [List.map_fst_zip (by omega), List.map_fst_zip (by omega)] at e1
  rw [List.map_snd_zip (by omega), List.map_snd_zip (by omega)] at e2
  exact ⟨e1, e2⟩
theorem IsMap.uniq {ks : List ByteArray} {its : List V} {T T' : V} {E E' : Int} (h : IsMap ks its T E) (h' : IsMap ks its T' E') : T = T' ∧ E = E' := by
  rcases h with ⟨a1, rfl, rfl⟩ | ⟨a1, h⟩ <;> rcases h' with ⟨b1, rfl, rfl⟩ | ⟨b1, h'⟩
  · exact ⟨rfl, rfl⟩
  · exact absurd b1 a1
  · exact absurd a1 b1
  · rcases h with ⟨a2, rfl, rfl⟩ | ⟨oks, oits, r, l, p, h⟩ <;> rcases h' with ⟨b2, rfl, rfl⟩ | ⟨oks', oits', r', l', p', h'⟩
    · exact ⟨rfl, rfl⟩
    · exact absurd (zip_nodup a1 r' l' p') a2
    · exact absurd (zip_nodup a1 r l p) b2
    · obtain ⟨rfl, rfl⟩ := zip_uniq r r' l l' (p.trans p'.symm)
      rcases h with ⟨w1, rfl, rfl⟩ | ⟨w1, rfl, rfl⟩ <;> rcases h' with ⟨w2, rfl, rfl⟩ | ⟨w2, rfl, rfl⟩
      · exact ⟨rfl, rfl⟩
      · rw [w1] at w2; cases w2
      · rw [w1] at w2; cases w2
      · exact ⟨rfl, rfl⟩
def NewMapX (ks : List ByteArray) (its : List V) (w : World) (e : Ending) (w' : World) : Prop := ∃ (k n : Int) (s : ByteArray) (A : Option Addr) (m c : Nat) (B : Option Addr) (p e0 : Nat) (T : V) (E : Int), e = .returned (.tuple #[.agg #[.int .i64 k, .int .i64 n, .string s, .slice A m c, .slice B p e0], .int .i64 E]) ∧
  VX w' 0 w'.heap.size (.agg #[.int .i64 k, .int .i64 n, .string s, .slice A m c, .slice B p e0]) T ∧ IsMap ks its T E ∧ Below w.heap.size w w'
theorem of_newM {B d : Nat} {ks : List ByteArray} {its : List V} {w w' : World} {e : Ending} (hl : ks.length = its.length) (hB : B = w.heap.size) (h : NewM B d ks its w e w') : NewMapX ks its w e w' := by
  subst hB
  obtain ⟨p, hp, hs, h1, h2, h3, hb⟩ := h
  have hz : VX w' 0 w'.heap.size (.agg #[.int .i64 0, .int .i64 0, .string ByteArray.empty, .slice none 0 0, .slice none 0 0]) V.null := ⟨1, VB.null _ _ _ _⟩
  by_cases hd : ks.Nodup
  · have hpw := M.map_once hp hs hd
    have hr : M.rise (p.map (keyOf ks)) = true := M.rise_yes (M.rise_pair.2 hpw)
    have h5 := hp.map (fun q => (ks.getD q ByteArray.empty, its.getD q default))
    rw [M.range_pairs ks its hl] at h5
    have e1 : (p.map (fun q => (ks.getD q ByteArray.empty, its.getD q default))) = (p.map (keyOf ks)).zip (p.map fun q => its.getD q default) := by
      rw [List.zip_map']; rfl
    rw [e1] at h5
    cases hw : V.within (.mk 5 0 ByteArray.empty (p.map fun q => its.getD q default) (p.map (keyOf ks))) with
    | false =>
      exact ⟨_, _, _, _, _, _, _, _, _, V.null, 6, h2 hr hw, hz, .inr ⟨hl, .inr ⟨_, _, M.rise_iff.1 hr, by simp, h5, .inl ⟨hw, rfl, rfl⟩⟩⟩, hb⟩
    | true =>
      obtain ⟨v, he, hv⟩ := h3 hr hw
      obtain ⟨A, m, c, B, q, e0, rfl⟩ := hv.agg
      exact ⟨_, _, _, _, _, _, _, _, _, _, 0, he, ⟨_, hv.weak (Nat.zero_le _) (Nat.le_refl _)⟩, .inr ⟨hl, .inr ⟨_, _, M.rise_iff.1 hr, by simp, h5, .inr ⟨hw, rfl, rfl⟩⟩⟩, hb⟩
  · exact ⟨_, _, _, _, _, _, _, _, _, V.null, 9, h1 (M.map_twice hp hd), hz, .inr ⟨hl, .inl ⟨hd, rfl, rfl⟩⟩, hb⟩
theorem of_newRM {ks : List ByteArray} {its : List V} {w w' : World} {e : Ending} (hl : ks.length = its.length) (h : NewRM ks its w e w') : NewMapX ks its w e w' := by
  obtain ⟨h, hb⟩ := h
  have hz : VX w' 0 w'.heap.size (.agg #[.int .i64 0, .int .i64 0, .string ByteArray.empty, .slice none 0 0, .slice none 0 0]) V.null := ⟨1, VB.null _ _ _ _⟩
  rcases h with ⟨hd, he⟩ | ⟨oks, oits, r, l, p, h1, h2⟩
  · exact ⟨_, _, _, _, _, _, _, _, _, V.null, 9, he, hz, .inr ⟨hl, .inl ⟨hd, rfl, rfl⟩⟩, hb⟩
  · cases hw : V.within (.mk 5 0 ByteArray.empty oits oks) with
    | false => exact ⟨_, _, _, _, _, _, _, _, _, V.null, 6, h1 hw, hz, .inr ⟨hl, .inr ⟨_, _, r, l, p, .inl ⟨hw, rfl, rfl⟩⟩⟩, hb⟩
    | true =>
      obtain ⟨v, he, hv⟩ := h2 hw
      obtain ⟨A, m, c, B, q, e0, rfl⟩ := hv.form
      exact ⟨_, _, _, _, _, _, _, _, _, _, 0, he, hv, .inr ⟨hl, .inr ⟨_, _, r, l, p, .inr ⟨hw, rfl, rfl⟩⟩⟩, hb⟩
theorem mapX {d : Nat} {A B : Option Addr} {n m c e0 lo hi lo' hi' : Nat} {ks : List ByteArray} {its : List V} {w : World} (h : KS w lo hi A n c ks) (hhi : hi ≤ w.heap.size) (h' : IS w lo' hi' (VB w lo' hi' d) B m e0 its) (hhi' : hi' ≤ w.heap.size) :
    Calls Try.prog 14 #[.slice A n c, .slice B m e0] w (NewMapX ks its w) := by
  by_cases hnm : n = m
  · subst hnm
    have hl : ks.length = its.length := h.len.trans h'.len.symm
    by_cases hn : n = 0
    · subst hn
      obtain rfl : ks = [] := List.eq_nil_of_length_eq_zero h.len
      obtain rfl : its = [] := List.eq_nil_of_length_eq_zero h'.len
      exact (map_none A B c e0 d w).mono fun e w' hm => of_newM hl rfl hm
    · exact (map_some h hhi (by omega) h' hhi').mono fun e w' hm => of_newM hl rfl hm
  · have h1 := h.most
    have h2 := h'.most
    refine (map_len A B n m c e0 w hnm (by omega) (by omega)).mono fun e w' ⟨he, hb⟩ => ?_
    exact ⟨_, _, _, _, _, _, _, _, _, V.null, 6, he, ⟨1, VB.null _ _ _ _⟩, .inl ⟨by rw [h.len, h'.len]; exact hnm, rfl, rfl⟩, hb⟩
end Go.Proofs.Ytcamhcgafmmkdaa
