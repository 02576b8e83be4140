/-
  Layer 6: keys, the code's and the reference's.
-/
import Derived.Test.YthmdacpejhncgaaDoorQCodB
import Derived.Lib.Bytealg
namespace Go.Proofs.YthmdacpejhncgaaDoor
open Go.RowKit
set_option linter.unusedVariables false

namespace Q
/-- The place of the only slash. -/
def One (l : List UInt8) (p : Nat) : Prop := l[p]? = some 47 ∧ ∀ j, j ≠ p → l[j]? ≠ some 47
theorem One.lt {l : List UInt8} {p : Nat} (h : One l p) : p < l.length := (List.getElem?_eq_some_iff.1 h.1).1
theorem One.same {l : List UInt8} {p q : Nat} (h : One l p) (hq : One l q) : p = q := by
  rcases Nat.decEq p q with e | e
  · exact absurd h.1 (hq.2 p e)
  · exact e
theorem idx_spec (c : UInt8) : ∀ l : List UInt8, (Lib.indexByte l c = -1 ∧ ∀ j : Nat, l[j]? ≠ some c) ∨ (∃ p : Nat, Lib.indexByte l c = (p : Int) ∧ l[p]? = some c ∧ ∀ j : Nat, j < p → l[j]? ≠ some c) := by
  intro l
  induction l with
  | nil => exact .inl ⟨rfl, fun j => by simp⟩
  | cons b l ih =>
    rw [Lib.indexByte]
    by_cases hb : b = c
    · rw [if_pos (by simpa using hb)]
      exact .inr ⟨0, rfl, by simp [hb], fun j hj => by omega⟩
    · rw [if_neg (by simpa using hb)]
      rcases ih with ⟨h1, h2⟩ | ⟨p, h1, h2, h3⟩
      · rw [h1]
        refine .inl ⟨rfl, fun j => ?_⟩
        cases j with
        | zero => simpa using hb
        | succ j => simpa using h2 j
      · rw [h1, if_neg (by rw [beq_iff_eq]; omega)]
        refine .inr ⟨p + 1, by omega, by simpa using h2, fun j hj => ?_⟩
        cases j with
        | zero => simpa using hb
        | succ j => simpa using h3 j (by omega)
end Q

/-- What is split: both parts, and whether there is just one slash. -/
def isSplit (s x y : ByteArray) (ok : Bool) : Prop :=
  (∃ p, Q.One s.data.toList p ∧ x = s.extract 0 p ∧ y = s.extract (p + 1) s.size ∧ ok = true) ∨ ((∀ p, ¬ Q.One s.data.toList p) ∧ x = ⟨#[]⟩ ∧ y = ⟨#[]⟩ ∧ ok = false)
theorem split_same {s x y x' y' : ByteArray} {ok ok' : Bool} (h : isSplit s x y ok) (h' : isSplit s x' y' ok') : x' = x ∧ y' = y ∧ ok' = ok := by
  rcases h with ⟨p, hp, rfl, rfl, rfl⟩ | ⟨hn, rfl, rfl, rfl⟩
  · rcases h' with ⟨q, hq, rfl, rfl, rfl⟩ | ⟨hn', rfl, rfl, rfl⟩
    · rw [hp.same hq]; exact ⟨rfl, rfl, rfl⟩
    · exact absurd hp (hn' p)
  · rcases h' with ⟨q, hq, rfl, rfl, rfl⟩ | ⟨hn', rfl, rfl, rfl⟩
    · exact absurd hq (hn q)
    · exact ⟨rfl, rfl, rfl⟩
/-- A key. -/
def keyS (s t : ByteArray) : ByteArray := s ++ ⟨#[47]⟩ ++ t
theorem key_size (s t : ByteArray) : (keyS s t).size = s.size + 1 + t.size := by unfold keyS; rw [ByteArray.size_append, ByteArray.size_append]; rfl
theorem key_data (s t : ByteArray) : (keyS s t).data.toList = s.data.toList ++ 47 :: t.data.toList := by
  unfold keyS; simp
theorem split_key {s t x y : ByteArray} {ok : Bool} (h : isSplit (keyS s t) x y ok) (hok : ok = true) : x = s ∧ y = t := by
  rcases h with ⟨p, hp, rfl, rfl, rfl⟩ | ⟨_, _, _, rfl⟩
  · have e : p = s.size := by
      rcases Nat.decEq p s.size with e | e
      · refine absurd ?_ (hp.2 s.size (fun h => e h.symm))
        rw [key_data, List.getElem?_append_right (by rw [q_len]; exact Nat.le_refl _), q_len]; simp
      · exact e
    subst e
    constructor
    · apply bS_inj
      rw [Lib.extract_data, key_data, List.drop_zero, Nat.sub_zero, ← q_len, List.take_left]
    · apply bS_inj
      rw [Lib.extract_data, key_data, key_size, show s.size + 1 + t.size - (s.size + 1) = t.data.toList.length by rw [q_len]; omega, ← q_len s, ← List.drop_drop, List.drop_left]
      simp only [List.drop_succ_cons, List.drop_zero]
      exact List.take_of_length_le (Nat.le_refl _)
  · cases hok
theorem split_back {s x y : ByteArray} {ok : Bool} (h : isSplit s x y ok) (hok : ok = true) : keyS x y = s := by
  rcases h with ⟨p, hp, rfl, rfl, rfl⟩ | ⟨_, _, _, rfl⟩
  · have hl := hp.lt
    have he := hp.1
    rw [List.getElem?_eq_getElem hl, Option.some.injEq] at he
    apply bS_inj
    rw [key_data, Lib.extract_data, Lib.extract_data, List.drop_zero, Nat.sub_zero, ← he, ← q_len, List.take_of_length_le (l := s.data.toList.drop (p + 1)) (by rw [List.length_drop]; omega),
      List.getElem_cons_drop, List.take_append_drop]
  · cases hok

set_option maxHeartbeats 400000 in
theorem qkey_any (s t : ByteArray) (w : World) (hs : s.size ≤ 1000000) (ht : t.size ≤ 1000000) :
    Calls Tryd.prog 14 #[.string s, .string t] w fun e w' => e = .returned (.string (keyS s t)) ∧ w' = w := by
  go_enter Tryd.func14, Tryd.ntmps14
  go_wp2_with fail
  go_ret
  exact ⟨rfl, rfl⟩
set_option maxHeartbeats 400000 in
theorem rqkey_any (s t : ByteArray) (w : World) (hs : s.size ≤ 1000000) (ht : t.size ≤ 1000000) :
    Calls Tryd.prog 17 #[.string s, .string t] w fun e w' => e = .returned (.string (keyS s t)) ∧ w' = w := by
  go_enter Tryd.func17, Tryd.ntmps17
  go_wp2_with fail
  go_ret
  exact ⟨rfl, rfl⟩

/-- What strings.Cut gives at a slash. -/
def isCut (s x y : ByteArray) (ok : Bool) : Prop :=
  (∃ p, s.data.toList[p]? = some 47 ∧ (∀ j, j < p → s.data.toList[j]? ≠ some 47) ∧ x = s.extract 0 p ∧ y = s.extract (p + 1) s.size ∧ ok = true) ∨ ((∀ j : Nat, s.data.toList[j]? ≠ some 47) ∧ x = s ∧ y = ⟨#[]⟩ ∧ ok = false)
theorem drewN_bel (w : World) (k : Nat) : Below w.heap.size w (w.drewN k) := ⟨rfl, rfl, rfl, Nat.le_refl _, fun _ _ => rfl⟩

set_option maxHeartbeats 1000000 in
set_option maxRecDepth 100000 in
theorem icut_any (s : ByteArray) (w : World) (hs : s.size ≤ 1000000000) :
    Calls Tryd.prog 32 #[.string s, .string ⟨#[47]⟩] w fun e w' => ∃ x y ok, e = .returned (.tuple #[.string x, .string y, .bool ok]) ∧ Below w.heap.size w w' ∧ isCut s x y ok := by
  have hi := Tryd.stringslite_Index_one s 47 w
  have hl := q_len s
  rcases Q.idx_spec 47 s.data.toList with ⟨h1, h2⟩ | ⟨p, h1, h2, h3⟩
  · rw [h1] at hi
    have HI := Lib.hid hi
    have HC : Hid (isCut s s ⟨#[]⟩ false) := Lib.hid (.inr ⟨h2, rfl, rfl, rfl⟩)
    clear hi h1 h2 hl
    go_enter Tryd.func32, Tryd.ntmps32
    go_wp2_with fail
    refine (HI.out).mono ?_
    rintro e w1 ⟨rfl, rfl⟩
    go_wp2_with fail
    go_ret3
    exact ⟨_, _, _, rfl, Below.refl _ _, HC.out⟩
  · have hp : p < s.size := by rw [← hl]; exact (List.getElem?_eq_some_iff.1 h2).1
    rw [h1] at hi
    have HI := Lib.hid hi
    have HC : Hid (isCut s (s.extract 0 p) (s.extract (p + 1) s.size) true) := Lib.hid (.inl ⟨p, h2, h3, rfl, rfl, rfl⟩)
    clear hi h1 h2 h3 hl
    go_enter Tryd.func32, Tryd.ntmps32
    go_wp2_with fail
    refine (HI.out).mono ?_
    rintro e w1 ⟨rfl, rfl⟩
    go_wp2_with fail
    go_quiet (fail)
    go_wp2_with fail
    go_ret3
    exact ⟨_, _, _, rfl, drewN_bel _ _, HC.out⟩

set_option maxHeartbeats 1000000 in
theorem cut_any (s : ByteArray) (w : World) (hs : s.size ≤ 1000000000) :
    Calls Tryd.prog 25 #[.string s, .string ⟨#[47]⟩] w fun e w' => ∃ x y ok, e = .returned (.tuple #[.string x, .string y, .bool ok]) ∧ Below w.heap.size w w' ∧ isCut s x y ok := by
  go_enter Tryd.func25, Tryd.ntmps25
  go_wp2_with fail
  refine (icut_any s _ hs).mono ?_
  rintro e w1 ⟨x, y, ok, rfl, hb, hc⟩
  have HC := Lib.hid hc
  clear hc
  go_wp2_with fail
  go_ret3
  exact ⟨_, _, _, rfl, hb, HC.out⟩

theorem one_of_first {s : ByteArray} {p : Nat} (h1 : s.data.toList[p]? = some 47) (h2 : ∀ j, j < p → s.data.toList[j]? ≠ some 47) (h3 : ∀ j : Nat, (s.extract (p + 1) s.size).data.toList[j]? ≠ some 47) : Q.One s.data.toList p := by
  refine ⟨h1, fun j hj => ?_⟩
  rcases Nat.lt_or_ge j p with h | h
  · exact h2 j h
  · have := h3 (j - (p + 1))
    rw [Lib.extract_data, List.take_of_length_le (by rw [List.length_drop, q_len]; omega), List.getElem?_drop, show p + 1 + (j - (p + 1)) = j by omega] at this
    exact this
theorem no_of_second {s : ByteArray} {p j : Nat} (h1 : s.data.toList[p]? = some 47) (h3 : (s.extract (p + 1) s.size).data.toList[j]? = some 47) : ∀ q, ¬ Q.One s.data.toList q := by
  intro q hq
  rw [Lib.extract_data, List.take_of_length_le (by rw [List.length_drop, q_len]; omega), List.getElem?_drop] at h3
  have e1 : q = p := by
    rcases Nat.decEq q p with e | e
    · exact absurd h1 (hq.2 p (fun x => e x.symm))
    · exact e
  exact hq.2 (p + 1 + j) (by omega) h3

set_option maxHeartbeats 1000000 in
theorem qsplit_any (s : ByteArray) (w : World) (hs : s.size ≤ 1000000) :
    Calls Tryd.prog 15 #[.string s] w fun e w' => ∃ x y ok, e = .returned (.tuple #[.string x, .string y, .bool ok]) ∧ Below w.heap.size w w' ∧ isSplit s x y ok := by
  go_enter Tryd.func15, Tryd.ntmps15
  go_wp2_with fail
  refine (cut_any s _ (by omega)).mono ?_
  rintro e w1 ⟨x, y, ok, rfl, hb, hc⟩
  have HB := Lib.hid hb
  clear hb
  rcases hc with ⟨p, h1, h2, rfl, rfl, rfl⟩ | ⟨h1, rfl, rfl, rfl⟩
  · obtain ⟨x, hx⟩ : ∃ x, x = s.extract 0 p := ⟨_, rfl⟩
    obtain ⟨y, hy⟩ : ∃ y, y = s.extract (p + 1) s.size := ⟨_, rfl⟩
    rw [← hx, ← hy]
    have hi := Tryd.strings_Contains_one y 47 w1
    rcases Q.idx_spec 47 y.data.toList with ⟨g1, g2⟩ | ⟨q, g1, g2, g3⟩
    · have HC : Hid (isSplit s x y true) := Lib.hid (.inl ⟨p, one_of_first h1 h2 (by rw [← hy]; exact g2), hx, hy, rfl⟩)
      rw [g1] at hi
      have HI := Lib.hid hi
      clear hi h1 h2 g1 g2 hx hy
      go_wp2_with fail
      refine (HI.out).mono ?_
      rintro e w2 ⟨rfl, rfl⟩
      go_wp2_with fail
      go_ret3
      exact ⟨_, _, _, rfl, HB.out, HC.out⟩
    · have HC : Hid (isSplit s ⟨#[]⟩ ⟨#[]⟩ false) := Lib.hid (.inr ⟨no_of_second h1 (by rw [← hy]; exact g2), rfl, rfl, rfl⟩)
      rw [g1, show decide ((0 : Int) ≤ (q : Int)) = true by simp] at hi
      have HI := Lib.hid hi
      clear hi h1 h2 g1 g2 g3 hx hy
      go_wp2_with fail
      refine (HI.out).mono ?_
      rintro e w2 ⟨rfl, rfl⟩
      go_wp2_with fail
      go_ret3
      exact ⟨_, _, _, rfl, HB.out, HC.out⟩
  · have HC : Hid (isSplit x ⟨#[]⟩ ⟨#[]⟩ false) := Lib.hid (.inr ⟨fun p hp => h1 p hp.1, rfl, rfl, rfl⟩)
    clear h1
    go_wp2_with fail
    go_ret3
    exact ⟨_, _, _, rfl, HB.out, HC.out⟩

/-- The reference's place of a slash behind k bytes. -/
def AtK (l : List UInt8) (k : Nat) (a : Int) : Prop := (a = -1 ∧ ∀ j : Nat, j < k → l[j]? ≠ some 47) ∨ (∃ p : Nat, a = (p : Int) ∧ p < k ∧ l[p]? = some 47 ∧ ∀ j : Nat, j < k → j ≠ p → l[j]? ≠ some 47)
theorem AtK.skip {l : List UInt8} {k : Nat} {a : Int} (h : AtK l k a) (hc : l[k]? ≠ some 47) : AtK l (k + 1) a := by
  rcases h with ⟨h1, h2⟩ | ⟨p, h1, h2, h3, h4⟩
  · refine .inl ⟨h1, fun j hj => ?_⟩
    rcases Nat.lt_or_ge j k with h | h
    · exact h2 j h
    · rw [show j = k by omega]; exact hc
  · refine .inr ⟨p, h1, by omega, h3, fun j hj hp => ?_⟩
    rcases Nat.lt_or_ge j k with h | h
    · exact h4 j h hp
    · rw [show j = k by omega]; exact hc
theorem AtK.take {l : List UInt8} {k : Nat} (h : AtK l k (-1)) (hc : l[k]? = some 47) : AtK l (k + 1) (k : Int) := by
  rcases h with ⟨h1, h2⟩ | ⟨p, h1, _⟩
  · exact .inr ⟨k, rfl, by omega, hc, fun j hj hp => h2 j (by omega)⟩
  · omega
theorem AtK.two {l : List UInt8} {k p : Nat} (h : AtK l k (p : Int)) (hc : l[k]? = some 47) : ∀ q, ¬ Q.One l q := by
  intro q hq
  rcases h with ⟨h1, h2⟩ | ⟨p', h1, h2, h3, h4⟩
  · omega
  · rcases Nat.decEq q k with e | e
    · exact hq.2 k (fun x => e x.symm) hc
    · subst e; exact hq.2 p' (by omega) h3
theorem AtK.end {l : List UInt8} {p : Nat} (h : AtK l l.length (p : Int)) : Q.One l p := by
  rcases h with ⟨h1, h2⟩ | ⟨p', h1, h2, h3, h4⟩
  · omega
  · obtain rfl : p = p' := by omega
    refine ⟨h3, fun j hj => ?_⟩
    rcases Nat.lt_or_ge j l.length with h | h
    · exact h4 j h hj
    · rw [List.getElem?_eq_none h]; simp
theorem AtK.none {l : List UInt8} (h : AtK l l.length (-1)) : ∀ q, ¬ Q.One l q := by
  intro q hq
  rcases h with ⟨h1, h2⟩ | ⟨p', h1, h2, h3, h4⟩
  · exact h2 q hq.lt hq.1
  · omega

/-- How a split ends. -/
def SplitEnds (s : ByteArray) (w : World) (e : Ending) (w' : World) : Prop := ∃ x y ok, e = .returned (.tuple #[.string x, .string y, .bool ok]) ∧ Below w.heap.size w w' ∧ isSplit s x y ok

set_option maxHeartbeats 1000000 in
set_option maxRecDepth 100000 in
theorem rqsplit_any (s : ByteArray) (w : World) (hs : s.size ≤ 1000000) :
    Calls Tryd.prog 16 #[.string s] w (SplitEnds s w) := by
  have HL := Lib.hid (q_len s)
  go_enter Tryd.func16, Tryd.ntmps16
  go_wp2_with fail
  go_loop [5, 6] (fun a i => ∃ (k : Nat) (m : Int), k ≤ s.size ∧ i = .int .i64 k ∧ a = .int .i64 m ∧ (m = -1 ∨ ∃ p : Nat, m = (p : Int) ∧ p < k) ∧ Hid (AtK s.data.toList k m)) (fun _ i => s.size - (intOf i).toNat)
  case atStart => exact ⟨0, -1, by omega, rfl, rfl, .inl rfl, Lib.hid (.inl ⟨rfl, fun j hj => by omega⟩)⟩
  case round =>
    obtain ⟨k, m, hk, rfl, rfl, hm, HA⟩ := hrel
    by_cases hlt : k < s.size
    · have hc := u8_at s k hlt
      have HQ : Hid (s.data.toList[k]? = some s[k]) := Lib.hid (by rw [List.getElem?_eq_getElem (by rw [HL.out]; exact hlt)]; rfl)
      obtain ⟨c, hcd⟩ : ∃ c : Nat, s[k].toNat = c := ⟨_, rfl⟩
      by_cases h47 : c = 47
      · have e47 : s[k] = 47 := UInt8.toNat_inj.1 (hcd.trans h47)
        have HQ2 : Hid (s.data.toList[k]? = some 47) := Lib.hid (by rw [HQ.out, e47])
        have hb : ((s[k].toNat : Int) == 47) = true := by rw [hcd, h47]; rfl
        clear hcd e47 HQ
        rcases hm with rfl | ⟨p, rfl, hp⟩
        · go_wp2_with fail
          go_round
          case rel => exact ⟨k + 1, _, by omega, by go_num, rfl, .inr ⟨k, rfl, by omega⟩, Lib.hid (HA.out.take HQ2.out)⟩
          case measure => simp [intOf]; omega
        · have HC : Hid (isSplit s ⟨#[]⟩ ⟨#[]⟩ false) := Lib.hid (.inr ⟨HA.out.two HQ2.out, rfl, rfl, rfl⟩)
          go_wp2_with fail
          go_ret3
          exact ⟨_, _, _, rfl, Below.refl _ _, HC.out⟩
      · have HQ2 : Hid (s.data.toList[k]? ≠ some 47) := Lib.hid (by
          rw [HQ.out]; intro e; apply h47; rw [← hcd, Option.some.inj e]; rfl)
        have hb : ((s[k].toNat : Int) == 47) = false := by rw [beq_eq_false_iff_ne, hcd]; omega
        clear hcd HQ
        go_wp2_with fail
        go_round
        case rel => exact ⟨k + 1, m, by omega, by go_num, rfl, (by rcases hm with h | ⟨p, h1, h2⟩; exact .inl h; exact .inr ⟨p, h1, by omega⟩), Lib.hid (HA.out.skip HQ2.out)⟩
        case measure => simp [intOf]; omega
    · have hks : k = s.data.toList.length := by rw [HL.out]; omega
      rcases hm with rfl | ⟨p, rfl, hp⟩
      · have HC : Hid (isSplit s ⟨#[]⟩ ⟨#[]⟩ false) := Lib.hid (.inr ⟨by have h := HA.out; rw [hks] at h; exact h.none, rfl, rfl, rfl⟩)
        clear hks
        go_wp2_with fail
        go_ret3
        exact ⟨_, _, _, rfl, Below.refl _ _, HC.out⟩
      · have HC : Hid (isSplit s (s.extract 0 p) (s.extract (p + 1) s.size) true) := Lib.hid (.inl ⟨p, by have h := HA.out; rw [hks] at h; exact h.end, rfl, rfl, rfl⟩)
        clear hks
        go_wp2_with fail
        go_quiet (fail)
        go_wp2_with fail
        go_ret3
        exact ⟨_, _, _, rfl, drewN_bel _ _, HC.out⟩
end Go.Proofs.YthmdacpejhncgaaDoor
