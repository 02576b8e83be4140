/-
  Plain mathematics of layer 2: a map that is built pair by pair is the map that is built by sorting.
-/
import Derived.Test.YtcamhcgafmmkdaaVal9
set_option linter.unusedVariables false
set_option linter.unusedSimpArgs false
namespace Go.Proofs.Ytcamhcgafmmkdaa.M
open Go.Op (bytesLess)

def Lt (a b : ByteArray) : Prop := bytesLess a.toList b.toList = true
theorem Lt.ne {a b : ByteArray} (h : Lt a b) : a ≠ b := fun e => bl_ne h (by rw [e])
theorem Lt.trans {a b c : ByteArray} (h : Lt a b) (h' : Lt b c) : Lt a c := bl_trans h h'
theorem Lt.asymm {a b : ByteArray} (h : Lt a b) : ¬ Lt b a := fun h' => by
  have h1 := bl_asymm h
  unfold Lt at h'
  rw [h1] at h'; cases h'
theorem rise_pair {ks : List ByteArray} : Rise ks ↔ ks.Pairwise Lt := by
  rw [List.pairwise_iff_getElem]
  constructor
  · intro h i j hi hj hij
    have := rise_lt h hij hj
    simpa [List.getD, hi, hj, Lt] using this
  · intro h i hi
    have := h i (i + 1) (by omega) hi (by omega)
    have hi' : i < ks.length := by omega
    simpa [List.getD, hi', hi, Lt] using this
theorem pair_nodup {ks : List ByteArray} (h : ks.Pairwise Lt) : ks.Nodup := h.imp fun h => h.ne
/-- Two lists of pairs with ascending keys that hold the same pairs are the same. -/
theorem pairs_eq {α : Type} : ∀ {l l' : List (ByteArray × α)}, l.Perm l' → l.Pairwise (fun a b => Lt a.1 b.1) → l'.Pairwise (fun a b => Lt a.1 b.1) → l = l'
  | [], l', h, _, _ => (List.Perm.nil_eq h)
  | a :: l, l', h, h1, h2 => by
    match l', h, h2 with
    | [], h, _ => exact absurd h.length_eq (by simp)
    | b :: l', h, h2 =>
      rw [List.pairwise_cons] at h1 h2
      have hab : a = b := by
        have ha : a ∈ b :: l' := h.mem_iff.1 (List.mem_cons_self ..)
        have hb : b ∈ a :: l := h.mem_iff.2 (List.mem_cons_self ..)
        rw [List.mem_cons] at ha hb
        rcases ha with ha | ha
        · exact ha
        rcases hb with hb | hb
        · exact hb.symm
        exact absurd (h1.1 b hb) (Lt.asymm (h2.1 a ha))
      subst hab
      have h3 : l.Perm l' := (List.perm_cons a).1 h
      rw [pairs_eq h3 h1.2 h2.2]
theorem zip_pair {α : Type} {ks : List ByteArray} {its : List α} (h : ks.Pairwise Lt) (hl : ks.length = its.length) : (ks.zip its).Pairwise (fun a b => Lt a.1 b.1) := by
  have e : (ks.zip its).map Prod.fst = ks := List.map_fst_zip (by omega)
  rw [← e, List.pairwise_map] at h
  exact h
theorem range_pairs (ks : List ByteArray) (its : List V) (hl : ks.length = its.length) : (List.range ks.length).map (fun q => (ks.getD q ByteArray.empty, its.getD q default)) = ks.zip its := by
  apply List.ext_getElem
  · simp; omega
  · intro i h1 h2
    simp at h1
    have hi : i < its.length := by omega
    simp [List.getD, h1, hi]
theorem range_keys (ks : List ByteArray) : (List.range ks.length).map (fun q => ks.getD q ByteArray.empty) = ks := by
  apply List.ext_getElem
  · simp
  · intro i h1 h2
    simp at h1
    simp [List.getD, h1]
theorem map_twice {ks : List ByteArray} {p : List Nat} (hp : p.Perm (List.range ks.length)) (hd : ¬ ks.Nodup) : rise (p.map fun q => ks.getD q ByteArray.empty) = false := by
  cases hr : rise (p.map fun q => ks.getD q ByteArray.empty) with
  | false => rfl
  | true =>
    have h1 := pair_nodup (rise_pair.1 (rise_iff.1 hr))
    have h2 := hp.map (fun q => ks.getD q ByteArray.empty)
    rw [range_keys] at h2
    exact absurd (h2.nodup_iff.1 h1) hd
theorem map_once {ks : List ByteArray} {p : List Nat} (hp : p.Perm (List.range ks.length)) (hs : ∀ i j, i < j → j < ks.length → bytesLess (ks.getD (p.getD j 0) ByteArray.empty).toList (ks.getD (p.getD i 0) ByteArray.empty).toList = false) (hd : ks.Nodup) :
    (p.map fun q => ks.getD q ByteArray.empty).Pairwise Lt := by
  have h2 := hp.map (fun q => ks.getD q ByteArray.empty)
  rw [range_keys] at h2
  have hn := h2.nodup_iff.2 hd
  have hl : p.length = ks.length := by have := hp.length_eq; simpa using this
  rw [List.pairwise_iff_getElem]
  intro i j hi hj hij
  simp only [List.length_map] at hi hj
  have h3 := hs i j hij (by omega)
  have ei : p.getD i 0 = p[i] := by simp [List.getD, hi]
  have ej : p.getD j 0 = p[j] := by simp [List.getD, hj]
  rw [ei, ej] at h3
  simp only [List.getElem_map]
  refine bl_flip h3 fun e => ?_
  have h4 : (p.map fun q => ks.getD q ByteArray.empty)[j]'(by simpa using hj) = (p.map fun q => ks.getD q ByteArray.empty)[i]'(by simpa using hi) := by simpa using toList_inj e
  have := (List.getElem_inj hn).1 h4
  omega
theorem map_same {ks oks : List ByteArray} {its oits : List V} {p : List Nat} (hl : ks.length = its.length) (hp : p.Perm (List.range ks.length))
    (hs : ∀ i j, i < j → j < ks.length → bytesLess (ks.getD (p.getD j 0) ByteArray.empty).toList (ks.getD (p.getD i 0) ByteArray.empty).toList = false)
    (ho : Rise oks) (hol : oks.length = oits.length) (hperm : (oks.zip oits).Perm (ks.zip its)) :
    rise (p.map fun q => ks.getD q ByteArray.empty) = true ∧ (p.map fun q => ks.getD q ByteArray.empty) = oks ∧ (p.map fun q => its.getD q default) = oits := by
  have h1 : (oks.zip oits).map Prod.fst = oks := List.map_fst_zip (by omega)
  have h2 : (ks.zip its).map Prod.fst = ks := List.map_fst_zip (by omega)
  have h3 : oks.Perm ks := by have := hperm.map Prod.fst; rwa [h1, h2] at this
  have hd : ks.Nodup := h3.nodup_iff.1 (pair_nodup (rise_pair.1 ho))
  have h4 := map_once hp hs hd
  have h5 := hp.map (fun q => (ks.getD q ByteArray.empty, its.getD q default))
  rw [range_pairs ks its hl] at h5
  have e1 : (p.map (fun q => (ks.getD q ByteArray.empty, its.getD q default))) = (p.map fun q => ks.getD q ByteArray.empty).zip (p.map fun q => its.getD q default) := by
    rw [List.zip_map']
  have h6 := pairs_eq (h5.trans hperm.symm) (by rw [e1]; exact zip_pair h4 (by simp)) (zip_pair (rise_pair.1 ho) hol)
  have h7 := congrArg (List.map Prod.fst) h6
  have h8 := congrArg (List.map Prod.snd) h6
  rw [h1] at h7
  rw [List.map_snd_zip (by omega)] at h8
  simp only [List.map_map] at h7 h8
  exact ⟨rise_yes (rise_pair.2 h4), h7, h8⟩
/-- One more pair. -/
theorem put_rise {ks : List ByteArray} {key : ByteArray} {i : Nat} (hr : Rise ks) (hp : Place ks key i false) : Rise (putAt ks i i key) := by
  rw [rise_pair] at hr ⊢
  unfold putAt
  have hlo : ∀ a ∈ ks.take i, Lt a key := fun a ha => by
    obtain ⟨j, hj, rfl⟩ := List.getElem_of_mem ha
    simp only [List.length_take] at hj
    have hj2 : j < ks.length := by omega
    have := hp.lo j (by omega)
    rw [List.getElem_take]
    simpa [List.getD, hj2, Lt] using this
  have hhi : ∀ b ∈ ks.drop i, Lt key b := fun b hb => by
    obtain ⟨j, hj, rfl⟩ := List.getElem_of_mem hb
    simp at hj
    have hij : i + j < ks.length := by omega
    have h1 := hp.hi (i + j) (by omega) hij
    have h2 : ks.getD (i + j) ByteArray.empty = ks[i + j] := by simp [List.getD, hij]
    rw [h2] at h1
    rw [List.getElem_drop]
    refine bl_flip h1 fun e => ?_
    have h3 : ks[i + j] = key := toList_inj e
    rcases Nat.eq_zero_or_pos j with h4 | h4
    · subst h4
      exact hp.gap (by omega) (by rw [← Nat.add_zero i, h2]; exact h3)
    · exact hp.high (rise_pair.2 hr) (j := i + j) (by omega) hij (by rw [h2]; exact h3)
  rw [List.pairwise_append]
  refine ⟨hr.sublist (List.take_sublist ..), ?_, ?_⟩
  · rw [List.pairwise_cons]
    exact ⟨hhi, hr.sublist (List.drop_sublist ..)⟩
  · intro a ha b hb
    rw [List.mem_cons] at hb
    rcases hb with rfl | hb
    · exact hlo a ha
    · exact (hlo a ha).trans (hhi b hb)
theorem put_zip {ks : List ByteArray} {its : List V} {i : Nat} {key : ByteArray} {x : V} (hl : ks.length = its.length) : ((putAt ks i i key).zip (putAt its i i x)).Perm ((key, x) :: ks.zip its) := by
  unfold putAt
  rw [List.zip_append (by simp; omega), List.zip_cons_cons]
  refine List.perm_middle.trans ?_
  rw [← List.zip_append (by simp; omega), List.take_append_drop, List.take_append_drop]
theorem take_zip_snoc {ks : List ByteArray} {its : List V} {j : Nat} (hj : j < ks.length) (hl : ks.length = its.length) : (ks.take (j + 1)).zip (its.take (j + 1)) = (ks.take j).zip (its.take j) ++ [(ks.getD j ByteArray.empty, its.getD j default)] := by
  have e1 : ks.take (j + 1) = ks.take j ++ [ks.getD j ByteArray.empty] := by rw [List.take_succ_eq_append_getElem hj]; simp [List.getD, hj]
  have hj' : j < its.length := by omega
  rw [e1, take_snoc hj', List.zip_append (by simp; omega)]
  rfl
theorem put_len {α : Type} {l : List α} {i : Nat} {x : α} (h : i ≤ l.length) : (putAt l i i x).length = l.length + 1 := by unfold putAt; simp; omega
theorem dup_of_mem {ks : List ByteArray} {j : Nat} (hj : j < ks.length) (h : ks.getD j ByteArray.empty ∈ ks.take j) : ¬ ks.Nodup := by
  intro hn
  obtain ⟨i, hi, e⟩ := List.getElem_of_mem h
  simp at hi
  have h2 : ks.getD j ByteArray.empty = ks[j] := by simp [List.getD, hj]
  rw [h2, List.getElem_take] at e
  have := (List.getElem_inj hn).1 e
  omega
theorem lookup_mem {key : ByteArray} : ∀ {ks : List ByteArray} {its : List V} {x : V}, lookup key ks its = some x → key ∈ ks
  | [], _, _, h => by simp [lookup] at h
  | _ :: _, [], _, h => by simp [lookup] at h
  | k :: ks, y :: its, x, h => by
    rw [lookup] at h
    split at h
    · rename_i h1; rw [← h1]; exact List.mem_cons_self ..
    · exact List.mem_cons_of_mem _ (lookup_mem h)
theorem lookup_not {key : ByteArray} : ∀ {ks : List ByteArray} {its : List V}, ks.length = its.length → lookup key ks its = none → key ∉ ks
  | [], _, _, _ => by simp
  | k :: ks, [], h, _ => by simp at h
  | k :: ks, y :: its, hl, h => by
    rw [lookup] at h
    split at h
    · cases h
    · rename_i h1
      rw [List.mem_cons]
      rintro (h2 | h2)
      · exact h1 h2.symm
      · exact lookup_not (by simpa using hl) h h2
end Go.Proofs.Ytcamhcgafmmkdaa.M
