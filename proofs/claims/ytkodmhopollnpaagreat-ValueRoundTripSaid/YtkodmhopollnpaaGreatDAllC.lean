/-
  Several texts in one: DOk DEnc DEnd DInt DLawC.
-/
import Derived.Test.YtkodmhopollnpaaGreatDAllA
import Derived.Test.YtkodmhopollnpaaGreatVal6
import Derived.Test.YtkodmhopollnpaaGreatVal7
import Derived.Test.YtkodmhopollnpaaGreatVMem
import Derived.Test.YtkodmhopollnpaaGreatMem
import Derived.Test.YtkodmhopollnpaaGreatDAllA
import Derived.Test.YtkodmhopollnpaaGreatVWorks
import Derived.Deep.RegionHeld
import Derived.Deep.RegionHeld3
namespace Go.Proofs.YtkodmhopollnpaaGreat.M

theorem okI {s : St} (h : s.ok) (x y : Int) : (s.int x y).2.ok := by
  unfold St.int
  split
  · exact h
  · split
    · exact fun _ => rfl
    · split
      · exact fun _ => rfl
      · exact fun e => absurd rfl e
theorem okT {s : St} (h : s.ok) (y : Int) : (s.text y).2.ok := by
  unfold St.text
  split
  · exact okI h 0 y
  · split
    · exact fun _ => rfl
    · exact fun e => absurd rfl e
theorem okF {s : St} (h : s.ok) (x : Int) : (s.fail x).ok := by
  unfold St.fail
  split
  · exact fun _ => rfl
  · exact h
theorem okN {s : St} (h : s.ok) : s.num.2.ok := okI h _ _
theorem okB {s : St} (h : s.ok) : s.bad.ok := okF h 3
theorem okS {s : St} (h : s.ok) : s.str.2.ok := okT h _
theorem okX {s : St} (h : s.ok) : (tx s).2.ok := by
  unfold tx
  show (if 4096 < s.str.1.size then s.str.2.bad else s.str.2).ok
  split
  · exact okB (okS h)
  · exact okS h
theorem okK {s : St} (h : s.ok) (ks : List ByteArray) : (kx s ks).2.ok := by
  unfold kx
  show (if after ks (tx s).1 = true then (tx s).2 else (tx s).2.bad).ok
  split
  · exact okX h
  · exact okB (okX h)
theorem okBx {s : St} (h : s.ok) : (bx s).2.ok := by
  unfold bx
  show (if s.num.1 = 0 ∨ s.num.1 = 1 then s.num.2 else s.num.2.bad).ok
  split
  · exact okN h
  · exact okB (okN h)
theorem okCx {s : St} (h : s.ok) : (cx s).2.ok := by
  unfold cx
  split
  · exact okB (okN h)
  · exact okN h
def Oks (rec : St → Nat → St × Nat × V) : Prop := ∀ s b, s.ok → (rec s b).1.ok
theorem dL_ok {rec : St → Nat → St × Nat × V} (h : Oks rec) : ∀ (n : Nat) (s : St) (b : Nat) (its : List V), s.ok → (dL rec n s b its).1.ok
  | 0, s, b, its, hs => by rw [dL_zero]; exact hs
  | n + 1, s, b, its, hs => by
    by_cases he : (rec s b).1.e = 0
    · rw [dL_live he]; exact dL_ok h n _ _ _ (h s b hs)
    · rw [dL_dead he]; exact h s b hs
theorem dP_ok {rec : St → Nat → St × Nat × V} (h : Oks rec) : ∀ (n : Nat) (s : St) (b : Nat) (ks : List ByteArray) (its : List V), s.ok → (dP rec n s b ks its).1.ok
  | 0, s, b, ks, its, hs => by rw [dP_zero]; exact hs
  | n + 1, s, b, ks, its, hs => by
    by_cases he : (rec (kx s ks).2 b).1.e = 0
    · rw [dP_live he]; exact dP_ok h n _ _ _ _ (h _ b (okK hs ks))
    · rw [dP_dead he]; exact h _ b (okK hs ks)
theorem dv_ok : ∀ f, Oks (dv f)
  | 0 => fun s b hs => by rw [dv_zero]; exact okB hs
  | f + 1 => fun s b hs => by
    by_cases hb : 1000 ≤ b
    · rw [dv_full hb]; exact okB hs
    · have hb' : b < 1000 := by omega
      have hn := okN hs
      rcases (show s.num.1 = 0 ∨ s.num.1 = 1 ∨ s.num.1 = 2 ∨ s.num.1 = 3 ∨ s.num.1 = 4 ∨ s.num.1 = 5 ∨ (s.num.1 < 0 ∨ 5 < s.num.1) by omega) with h | h | h | h | h | h | h
      · rw [dv_null hb' h]; exact hn
      · rw [dv_bool hb' h]; exact okBx hn
      · rw [dv_int hb' h]; exact okN hn
      · rw [dv_text hb' h]; exact okX hn
      · rw [dv_list hb' h]; exact dL_ok (dv_ok f) _ _ _ _ (okCx hn)
      · rw [dv_map hb' h]; exact dP_ok (dv_ok f) _ _ _ _ _ (okCx hn)
      · rw [dv_kind hb' h]; exact okB hn
end Go.Proofs.YtkodmhopollnpaaGreat.M

namespace Go.Proofs.YtkodmhopollnpaaGreat.M

/-! ### Numbers and texts -/
theorem num_enc {n : Int} (r : List UInt8) (h1 : -9223372036854775808 ≤ n) (h2 : n ≤ 9223372036854775807) : (St.mk (enc (zig n) ++ r) 0).num = (n, ⟨r, 0⟩) :=
  St.int_enc rfl rfl h1 h2 ⟨h1, h2⟩
theorem sz_list (s : ByteArray) : s.data.toList.length = s.size := Array.length_toList
theorem str_enc (s : ByteArray) (r : List UInt8) (h : s.size ≤ 4096) : (St.mk (sby s ++ r) 0).str = (s, ⟨r, 0⟩) := by
  have hl := sz_list s
  unfold St.str sby
  rw [List.append_assoc, St.text_enc (t := s.data.toList) (r := r) (by rw [hl]; omega) (by rw [hl]; omega)]
theorem tx_enc (s : ByteArray) (r : List UInt8) (h : s.size ≤ 4096) : tx (St.mk (sby s ++ r) 0) = (s, ⟨r, 0⟩) := by
  unfold tx
  rw [str_enc s r h]
  show (s, if 4096 < s.size then _ else _) = _
  rw [if_neg (by omega)]
theorem kx_enc (s : ByteArray) (r : List UInt8) (h : s.size ≤ 4096) {ks : List ByteArray} (ha : after ks s = true) : kx (St.mk (sby s ++ r) 0) ks = (s, ⟨r, 0⟩) := by
  unfold kx
  rw [tx_enc s r h]
  show (s, if after ks s = true then _ else _) = _
  rw [if_pos ha]
theorem cx_enc {n : Nat} (r : List UInt8) (h : n ≤ 1000) : cx (St.mk (enc (zig (n : Int)) ++ r) 0) = (n, ⟨r, 0⟩) := by
  unfold cx
  rw [num_enc r (by omega) (by omega)]
  show (if (n : Int) < 0 ∨ 1000 < (n : Int) then _ else _) = _
  rw [if_neg (by omega)]
  rfl

theorem eta0 {s : St} (h : s.e = 0) : s = ⟨s.l, 0⟩ := by cases s; simp at h; simp [h]
theorem num_back {s : St} (h : s.num.2.e = 0) : s.e = 0 ∧ s.l = enc (zig s.num.1) ++ s.num.2.l ∧ -9223372036854775808 ≤ s.num.1 ∧ s.num.1 ≤ 9223372036854775807 := by
  by_cases h0 : s.e = 0
  · obtain ⟨l, e⟩ := s
    obtain rfl : e = 0 := h0
    obtain ⟨_, _, h3, h4, h5⟩ := St.int_canon (N := (St.mk l 0).num.1) (t := (St.mk l 0).num.2) rfl h
    exact ⟨rfl, h3, h4, h5⟩
  · rw [num_dead h0] at h; exact absurd h h0
theorem text_all {l u : List UInt8} {y : Int} {t : St} (h : (St.mk l 0).text y = (u, t)) (ht : t.e = 0) : l = enc (zig (u.length : Int)) ++ (u ++ t.l) := by
  obtain ⟨N, t1, h1⟩ : ∃ N t1, (St.mk l 0).int 0 y = (N, t1) := ⟨_, _, rfl⟩
  by_cases h0 : t1.e = 0
  · obtain ⟨_, _, hc, _, _⟩ := St.int_canon h1 h0
    have hN : 0 ≤ N := by have := St.int_lo (St.mk l 0) y; rw [h1] at this; exact this
    obtain ⟨N, rfl⟩ := Int.eq_ofNat_of_zero_le hN
    by_cases hs : t1.l.length < N
    · rw [St.text_short (t := t1) (N := (N : Int)) (by rw [h1]) (by rw [h1]) h0 (by simpa using hs)] at h
      injection h with g1 g2
      subst g2
      exact absurd ht (by simp)
    · rw [St.text_yes (t := t1) (N := (N : Int)) (by rw [h1]) (by rw [h1]) h0 (by simpa using hs), Int.toNat_natCast] at h
      injection h with g1 g2
      subst g1
      subst g2
      have hlen : (t1.l.take N).length = N := by rw [List.length_take]; omega
      rw [hlen, List.take_append_drop]
      exact hc
  · rw [St.text_dead (t := t1) (by rw [h1]) h0] at h
    injection h with g1 g2
    subst g2
    exact absurd ht h0
theorem str_back {s : St} (h : s.str.2.e = 0) : s.e = 0 ∧ s.l = sby s.str.1 ++ s.str.2.l := by
  by_cases h0 : s.e = 0
  · obtain ⟨l, e⟩ := s
    obtain rfl : e = 0 := h0
    refine ⟨rfl, ?_⟩
    have h3 := text_all (l := l) (u := ((St.mk l 0).text 9223372036854775807).1) (t := ((St.mk l 0).text 9223372036854775807).2) rfl h
    have e1 : (St.mk l 0).str.1.data.toList = ((St.mk l 0).text 9223372036854775807).1 := by unfold St.str; simp
    unfold sby
    rw [e1, List.append_assoc]
    exact h3
  · rw [str_dead h0] at h; exact absurd h h0
theorem tx_back {s : St} (h : (tx s).2.e = 0) : s.e = 0 ∧ s.l = sby (tx s).1 ++ (tx s).2.l ∧ (tx s).1.size ≤ 4096 := by
  by_cases hb : 4096 < s.str.1.size
  · have : (tx s).2 = s.str.2.bad := by unfold tx; exact if_pos hb
    rw [this] at h; exact absurd h (bad_e _)
  · have e2 : (tx s).2 = s.str.2 := by unfold tx; exact if_neg hb
    rw [e2] at h ⊢
    obtain ⟨h1, h2⟩ := str_back h
    exact ⟨h1, h2, by show s.str.1.size ≤ _; omega⟩
theorem kx_back {s : St} {ks : List ByteArray} (h : (kx s ks).2.e = 0) : s.e = 0 ∧ s.l = sby (kx s ks).1 ++ (kx s ks).2.l ∧ (kx s ks).1.size ≤ 4096 ∧ after ks (kx s ks).1 = true := by
  by_cases ha : after ks (tx s).1 = true
  · have e2 : (kx s ks).2 = (tx s).2 := by unfold kx; exact if_pos ha
    rw [e2] at h ⊢
    obtain ⟨h1, h2, h3⟩ := tx_back h
    exact ⟨h1, h2, h3, ha⟩
  · have : (kx s ks).2 = (tx s).2.bad := by unfold kx; exact if_neg ha
    rw [this] at h; exact absurd h (bad_e _)
theorem cx_back {s : St} (h : (cx s).2.e = 0) : s.e = 0 ∧ s.l = enc (zig ((cx s).1 : Int)) ++ (cx s).2.l ∧ (cx s).1 ≤ 1000 := by
  by_cases hr : s.num.1 < 0 ∨ 1000 < s.num.1
  · have : (cx s).2 = s.num.2.bad := by unfold cx; rw [if_pos hr]
    rw [this] at h; exact absurd h (bad_e _)
  · have e : cx s = (s.num.1.toNat, s.num.2) := by unfold cx; rw [if_neg hr]
    rw [e] at h ⊢
    obtain ⟨h1, h2, _, _⟩ := num_back h
    refine ⟨h1, ?_, by show s.num.1.toNat ≤ _; omega⟩
    show s.l = enc (zig ((s.num.1.toNat : Nat) : Int)) ++ s.num.2.l
    rw [show ((s.num.1.toNat : Nat) : Int) = s.num.1 by omega]
    exact h2

/-! ### All integers are machine integers -/
mutual
def V.ints : V → Prop | .mk _ n _ its _ => (-9223372036854775808 ≤ n ∧ n ≤ 9223372036854775807) ∧ V.intss its
def V.intss : List V → Prop | [] => True | x :: r => x.ints ∧ V.intss r
end

/-! ### A payload is read back -/
/-- What decoding asks of a value at f levels. -/
structure Pay (f : Nat) (t : V) : Prop where
  wf : t.wf = true
  sh : t.short = true
  fu : t.fut = false
  dp : t.dep ≤ f
  it : t.ints
structure Pays (f : Nat) (l : List V) : Prop where
  wf : V.wfs l = true
  sh : V.shorts l = true
  fu : V.futs l = false
  dp : V.deps l ≤ f
  it : V.intss l
theorem Pays.cons {f : Nat} {x : V} {l : List V} (h : Pays f (x :: l)) : Pay f x ∧ Pays f l := by
  obtain ⟨h1, h2, h3, h4, h5⟩ := h
  simp only [V.wfs, Bool.and_eq_true] at h1
  simp only [V.shorts, Bool.and_eq_true] at h2
  simp only [V.futs, Bool.or_eq_false_iff] at h3
  simp only [V.deps] at h4
  simp only [V.intss] at h5
  exact ⟨⟨h1.1, h2.1, h3.1, by omega, h5.1⟩, ⟨h1.2, h2.2, h3.2, by omega, h5.2⟩⟩
theorem Pay.items {f : Nat} {t : V} (h : Pay (f + 1) t) : Pays f t.its := by
  obtain ⟨h1, h2, h3, h4, h5⟩ := h
  rw [V.wf_eq, Bool.and_eq_true] at h1
  rw [V.short_eq, Bool.and_eq_true] at h2
  rw [V.fut_eq, Bool.or_eq_false_iff] at h3
  rw [V.dep_eq] at h4
  obtain ⟨k, n, s, its, ks⟩ := t
  simp only [V.ints] at h5
  exact ⟨h1.2, h2.2, h3.2, by omega, h5.2⟩

def Reads (f : Nat) : Prop := ∀ (t : V) (b : Nat) (r : List UInt8), Pay f t → b + t.sz ≤ 1000 → dv f ⟨t.encv ++ r, 0⟩ b = (⟨r, 0⟩, b + t.sz, t)
theorem dL_enc {f : Nat} (h : Reads f) : ∀ (its : List V) (b : Nat) (r : List UInt8) (acc : List V) (ks : List ByteArray), Pays f its → b + V.szs its ≤ 1000 →
    dL (dv f) its.length ⟨V.encs false its ks ++ r, 0⟩ b acc = (⟨r, 0⟩, b + V.szs its, acc ++ its)
  | [], b, r, acc, ks, _, _ => by rw [List.length_nil, dL_zero, V.encs, V.szs, List.nil_append, List.append_nil, Nat.add_zero]
  | x :: l, b, r, acc, ks, hp, hb => by
    obtain ⟨p1, p2⟩ := hp.cons
    rw [V.szs] at hb
    have e1 : dv f ⟨V.encs false (x :: l) ks ++ r, 0⟩ b = (⟨V.encs false l ks.tail ++ r, 0⟩, b + x.sz, x) := by
      rw [V.encs, if_neg (by decide), List.nil_append, List.append_assoc]
      exact h x b _ p1 (by omega)
    rw [List.length_cons, dL_live (by rw [e1]), e1]
    rw [dL_enc h l (b + x.sz) r (acc ++ [x]) ks.tail p2 (by omega), V.szs, List.append_assoc, List.singleton_append, Nat.add_assoc]

theorem after_ok {ks : List ByteArray} {key : ByteArray} (h : Rise (ks ++ [key])) : after ks key = true := by
  unfold after
  by_cases h0 : ks.length = 0
  · simp [h0]
  · have := h (ks.length - 1) (by rw [List.length_append, List.length_singleton]; omega)
    rw [show ks.length - 1 + 1 = ks.length by omega] at this
    rw [show (ks ++ [key]).getD (ks.length - 1) ByteArray.empty = ks.getD (ks.length - 1) ByteArray.empty by simp [List.getD, List.getElem?_append_left (show ks.length - 1 < ks.length by omega)]] at this
    rw [show (ks ++ [key]).getD ks.length ByteArray.empty = key by simp [List.getD]] at this
    rw [this, Bool.or_true]
theorem rise_front {a b : List ByteArray} (h : Rise (a ++ b)) : Rise a := fun i hi => by
  have := h i (by rw [List.length_append]; omega)
  rw [show (a ++ b).getD i ByteArray.empty = a.getD i ByteArray.empty by simp [List.getD, List.getElem?_append_left (show i < a.length by omega)]] at this
  rw [show (a ++ b).getD (i + 1) ByteArray.empty = a.getD (i + 1) ByteArray.empty by simp [List.getD, List.getElem?_append_left (show i + 1 < a.length by omega)]] at this
  exact this
theorem dP_enc {f : Nat} (h : Reads f) : ∀ (its : List V) (ks : List ByteArray) (b : Nat) (r : List UInt8) (acc : List V) (kacc : List ByteArray), ks.length = its.length → Pays f its → b + V.szs its ≤ 1000 → Rise (kacc ++ ks) → (∀ k ∈ ks, k.size ≤ 4096) →
    dP (dv f) its.length ⟨V.encs true its ks ++ r, 0⟩ b kacc acc = (⟨r, 0⟩, b + V.szs its, kacc ++ ks, acc ++ its)
  | [], ks, b, r, acc, kacc, hl, _, _, _, _ => by
    obtain rfl : ks = [] := List.eq_nil_of_length_eq_zero hl
    rw [List.length_nil, dP_zero, V.encs, V.szs, List.nil_append, List.append_nil, List.append_nil, Nat.add_zero]
  | x :: l, [], b, r, acc, kacc, hl, _, _, _, _ => absurd hl (by simp)
  | x :: l, k :: ks, b, r, acc, kacc, hl, hp, hb, hr, hk => by
    obtain ⟨p1, p2⟩ := hp.cons
    rw [V.szs] at hb
    have hr' : Rise ((kacc ++ [k]) ++ ks) := by rw [List.append_assoc, List.singleton_append]; exact hr
    have e0 : kx ⟨V.encs true (x :: l) (k :: ks) ++ r, 0⟩ kacc = (k, ⟨x.encv ++ (V.encs true l ks ++ r), 0⟩) := by
      rw [V.encs, if_pos rfl, List.append_assoc, List.append_assoc]
      exact kx_enc k _ (hk k List.mem_cons_self) (after_ok (rise_front hr'))
    have e1 := h x b (V.encs true l ks ++ r) p1 (by omega)
    rw [List.length_cons, dP_live (by rw [e0]; show (dv f ⟨x.encv ++ (V.encs true l ks ++ r), 0⟩ b).1.e = 0; rw [e1]), e0]
    show dP (dv f) l.length (dv f ⟨x.encv ++ (V.encs true l ks ++ r), 0⟩ b).1 (dv f ⟨x.encv ++ (V.encs true l ks ++ r), 0⟩ b).2.1 (kacc ++ [k]) (acc ++ [(dv f ⟨x.encv ++ (V.encs true l ks ++ r), 0⟩ b).2.2]) = _
    rw [e1]
    show dP (dv f) l.length ⟨V.encs true l ks ++ r, 0⟩ (b + x.sz) (kacc ++ [k]) (acc ++ [x]) = _
    rw [dP_enc h l ks (b + x.sz) r (acc ++ [x]) (kacc ++ [k]) (by simpa using hl) p2 (by omega) hr' (fun q hq => hk q (List.mem_cons_of_mem _ hq)), V.szs, List.append_assoc, List.append_assoc, List.singleton_append, List.singleton_append, Nat.add_assoc]

theorem empty_of {s : ByteArray} (h : s.toList.isEmpty = true) : s = ByteArray.empty := toList_inj (by rw [List.isEmpty_iff.1 h, ByteArray.toList_eq]; rfl)
theorem keys_fit {t : V} (h : t.short = true) : ∀ k ∈ t.ks, k.size ≤ 4096 := fun k hk => by
  rw [V.short_eq, Bool.and_eq_true] at h
  have h1 := h.1
  unfold V.txt at h1
  rw [Bool.and_eq_true, List.all_eq_true] at h1
  have := h1.2 k hk
  unfold fits at this
  exact of_decide_eq_true this
theorem text_fit {t : V} (h : t.short = true) : t.s.size ≤ 4096 := by
  rw [V.short_eq, Bool.and_eq_true] at h
  have h1 := h.1
  unfold V.txt at h1
  rw [Bool.and_eq_true] at h1
  exact of_decide_eq_true h1.1

theorem dv_enc : ∀ f, Reads f
  | 0 => fun t b r hp _ => absurd hp.dp (by have := V.dep_pos t; omega)
  | f + 1 => fun t b r hp hb => by
    have hI := hp.items
    have hsz := V.sz_pos t
    obtain ⟨h1, h2, h3, h4, h5⟩ := hp
    have hkf := keys_fit h2
    have htf := text_fit h2
    have htop := wf_top h1
    have hs := V.sz_eq t
    obtain ⟨k, n, s, its, ks⟩ := t
    simp only [V.ints] at h5
    simp only [V.its, V.ks, V.s] at hI hkf htf hs
    simp only [V.fut, Bool.or_eq_false_iff, beq_eq_false_iff_ne] at h3
    have htop : uses k n s.toList.isEmpty ((its.length : Int) == 0) ((ks.length : Int) == 0) ((ks.length : Int) == (its.length : Int)) (rise ks) = true := htop
    unfold uses at htop
    have hb' : b < 1000 := by omega
    have e0 : ∀ (m : Int) (x : List UInt8), -9223372036854775808 ≤ m → m ≤ 9223372036854775807 → (St.mk (enc (zig m) ++ x) 0).num.1 = m ∧ (St.mk (enc (zig m) ++ x) 0).num.2 = ⟨x, 0⟩ := fun m x a1 a2 => by rw [num_enc x a1 a2]; exact ⟨rfl, rfl⟩
    by_cases k0 : k = 0
    · subst k0
      rw [if_pos rfl] at htop
      simp only [Bool.and_eq_true, beq_iff_eq] at htop
      obtain ⟨⟨⟨rfl, q2⟩, q3⟩, q4⟩ := htop
      obtain rfl := empty_of q2
      obtain rfl : its = [] := List.eq_nil_of_length_eq_zero (by omega)
      obtain rfl : ks = [] := List.eq_nil_of_length_eq_zero (by omega)
      rw [V.enc_none (by decide) (by decide) (by decide) (by decide) (by decide) (by decide)]
      obtain ⟨a1, a2⟩ := e0 0 r (by omega) (by omega)
      rw [dv_null hb' a1, a2, hs]
      rfl
    · rw [if_neg k0] at htop
      by_cases k1 : k = 1
      · subst k1
        rw [if_pos rfl] at htop
        simp only [Bool.and_eq_true, Bool.or_eq_true, beq_iff_eq] at htop
        obtain ⟨⟨⟨q1, q2⟩, q3⟩, q4⟩ := htop
        obtain rfl := empty_of q2
        obtain rfl : its = [] := List.eq_nil_of_length_eq_zero (by omega)
        obtain rfl : ks = [] := List.eq_nil_of_length_eq_zero (by omega)
        rw [V.enc_int (.inl rfl), List.append_assoc]
        obtain ⟨a1, a2⟩ := e0 1 (enc (zig n) ++ r) (by omega) (by omega)
        obtain ⟨b1, b2⟩ := e0 n r (by omega) (by omega)
        have hbx : bx ⟨enc (zig n) ++ r, 0⟩ = (n, ⟨r, 0⟩) := by
          unfold bx; rw [b1, b2, if_pos q1]
        rw [dv_bool hb' a1, a2, hbx, hs]
        rcases q1 with rfl | rfl <;> rfl
      · rw [if_neg k1] at htop
        by_cases k2 : k = 2
        · subst k2
          rw [if_pos rfl] at htop
          simp only [Bool.and_eq_true, beq_iff_eq] at htop
          obtain ⟨⟨q2, q3⟩, q4⟩ := htop
          obtain rfl := empty_of q2
          obtain rfl : its = [] := List.eq_nil_of_length_eq_zero (by omega)
          obtain rfl : ks = [] := List.eq_nil_of_length_eq_zero (by omega)
          rw [V.enc_int (.inr (.inl rfl)), List.append_assoc]
          obtain ⟨a1, a2⟩ := e0 2 (enc (zig n) ++ r) (by omega) (by omega)
          obtain ⟨b1, b2⟩ := e0 n r h5.1.1 h5.1.2
          rw [dv_int hb' a1, a2, b1, b2, hs]
          rfl
        · rw [if_neg k2] at htop
          by_cases k3 : k = 3
          · subst k3
            rw [if_pos rfl] at htop
            simp only [Bool.and_eq_true, beq_iff_eq] at htop
            obtain ⟨⟨rfl, q3⟩, q4⟩ := htop
            obtain rfl : its = [] := List.eq_nil_of_length_eq_zero (by omega)
            obtain rfl : ks = [] := List.eq_nil_of_length_eq_zero (by omega)
            rw [V.enc_text, List.append_assoc]
            obtain ⟨a1, a2⟩ := e0 3 (sby s ++ r) (by omega) (by omega)
            rw [dv_text hb' a1, a2, tx_enc s r htf, hs]
            rfl
          · rw [if_neg k3] at htop
            have hlen : its.length ≤ 1000 := by have := V.len_le_szs its; omega
            by_cases k4 : k = 4
            · subst k4
              rw [if_pos rfl] at htop
              simp only [Bool.and_eq_true, beq_iff_eq] at htop
              obtain ⟨⟨rfl, q2⟩, q4⟩ := htop
              obtain rfl := empty_of q2
              obtain rfl : ks = [] := List.eq_nil_of_length_eq_zero (by omega)
              rw [V.enc_items (.inl rfl), List.append_assoc, List.append_assoc]
              obtain ⟨a1, a2⟩ := e0 4 (enc (zig (its.length : Int)) ++ (V.encs ((4 : Int) == 5) its [] ++ r)) (by omega) (by omega)
              rw [dv_list hb' a1, a2, cx_enc _ hlen, show ((4 : Int) == 5) = false from rfl]
              rw [dL_enc (dv_enc f) its (b + 1) r [] [] hI (by omega), hs]
              show ((⟨r, 0⟩ : St), b + 1 + V.szs its, V.mk 4 0 ByteArray.empty ([] ++ its) []) = _
              rw [List.nil_append, Nat.add_assoc]
            · rw [if_neg k4] at htop
              by_cases k5 : k = 5
              · subst k5
                rw [if_pos rfl] at htop
                simp only [Bool.and_eq_true, beq_iff_eq] at htop
                obtain ⟨⟨⟨rfl, q2⟩, q4⟩, q5⟩ := htop
                obtain rfl := empty_of q2
                rw [rise_iff] at q5
                rw [V.enc_items (.inr rfl), List.append_assoc, List.append_assoc]
                obtain ⟨a1, a2⟩ := e0 5 (enc (zig (its.length : Int)) ++ (V.encs ((5 : Int) == 5) its ks ++ r)) (by omega) (by omega)
                rw [dv_map hb' a1, a2, cx_enc _ hlen, show ((5 : Int) == 5) = true from rfl]
                rw [dP_enc (dv_enc f) its ks (b + 1) r [] [] (by omega) hI (by omega) q5 hkf, hs]
                show ((⟨r, 0⟩ : St), b + 1 + V.szs its, V.mk 5 0 ByteArray.empty ([] ++ its) ([] ++ ks)) = _
                rw [List.nil_append, List.nil_append, Nat.add_assoc]
              · rw [if_neg k5, if_neg h3.1] at htop
                cases htop
end Go.Proofs.YtkodmhopollnpaaGreat.M

namespace Go.Proofs.YtkodmhopollnpaaGreat.M

/-- What is known of a value that was decoded at f levels out of the bytes l, of which r remain. -/
structure Got (f : Nat) (l : List UInt8) (r : List UInt8) (b b' : Nat) (t : V) : Prop where
  by_ : l = t.encv ++ r
  pay : Pay f t
  cnt : b' = b + t.sz
structure Gots (f : Nat) (m : Bool) (l : List UInt8) (r : List UInt8) (b b' : Nat) (its : List V) (ks : List ByteArray) : Prop where
  by_ : l = V.encs m its ks ++ r
  pay : Pays f its
  cnt : b' = b + V.szs its

def Back (f : Nat) : Prop := ∀ (s : St) (b : Nat), (dv f s b).1.e = 0 → s.e = 0 ∧ Got f s.l (dv f s b).1.l b (dv f s b).2.1 (dv f s b).2.2
theorem dL_back {f : Nat} (h : Back f) : ∀ (n : Nat) (s : St) (b : Nat) (acc : List V), (dL (dv f) n s b acc).1.e = 0 →
    s.e = 0 ∧ ∃ its, (dL (dv f) n s b acc).2.2 = acc ++ its ∧ its.length = n ∧ Gots f false s.l (dL (dv f) n s b acc).1.l b (dL (dv f) n s b acc).2.1 its []
  | 0, s, b, acc, he => by
    rw [dL_zero] at he ⊢
    exact ⟨he, [], by simp, rfl, by simp [V.encs], ⟨by simp [V.wfs], by simp [V.shorts], by simp [V.futs], by simp [V.deps], by simp [V.intss]⟩, by simp [V.szs]⟩
  | n + 1, s, b, acc, he => by
    by_cases hl : (dv f s b).1.e = 0
    · rw [dL_live hl] at he ⊢
      obtain ⟨h1, its, h2, h3, h4⟩ := dL_back h n _ _ _ he
      obtain ⟨g0, g1⟩ := h s b hl
      refine ⟨g0, (dv f s b).2.2 :: its, ?_, by simp [h3], ?_, ?_, ?_⟩
      · rw [h2, List.append_assoc, List.singleton_append]
      · rw [V.encs, if_neg (by decide), List.nil_append, List.append_assoc, List.tail_nil, ← h4.by_]; exact g1.by_
      · obtain ⟨a1, a2, a3, a4, a5⟩ := g1.pay
        obtain ⟨b1, b2, b3, b4, b5⟩ := h4.pay
        exact ⟨by simp [V.wfs, a1, b1], by simp [V.shorts, a2, b2], by simp [V.futs, a3, b3], by simp only [V.deps]; omega, by simp only [V.intss]; exact ⟨a5, b5⟩⟩
      · rw [h4.cnt, g1.cnt, V.szs]; omega
    · rw [dL_dead hl] at he; exact absurd he hl

theorem rise_nil : Rise [] := fun i hi => absurd hi (by simp)
theorem rise_snoc {ks : List ByteArray} {key : ByteArray} (h : Rise ks) (ha : after ks key = true) : Rise (ks ++ [key]) := fun i hi => by
  rw [List.length_append, List.length_singleton] at hi
  by_cases h1 : i + 1 < ks.length
  · rw [show (ks ++ [key]).getD i ByteArray.empty = ks.getD i ByteArray.empty by simp [List.getD, List.getElem?_append_left (show i < ks.length by omega)]]
    rw [show (ks ++ [key]).getD (i + 1) ByteArray.empty = ks.getD (i + 1) ByteArray.empty by simp [List.getD, List.getElem?_append_left h1]]
    exact h i h1
  · have h2 : i + 1 = ks.length := by omega
    rw [show (ks ++ [key]).getD i ByteArray.empty = ks.getD i ByteArray.empty by simp [List.getD, List.getElem?_append_left (show i < ks.length by omega)], h2]
    rw [show (ks ++ [key]).getD ks.length ByteArray.empty = key by simp [List.getD]]
    unfold after at ha
    rw [show decide (ks.length = 0) = false from decide_eq_false (by omega), Bool.false_or] at ha
    rw [show i = ks.length - 1 by omega]
    exact ha
theorem dP_back {f : Nat} (h : Back f) : ∀ (n : Nat) (s : St) (b : Nat) (kacc : List ByteArray) (acc : List V), (dP (dv f) n s b kacc acc).1.e = 0 → Rise kacc →
    s.e = 0 ∧ ∃ its ks, (dP (dv f) n s b kacc acc).2.2.1 = kacc ++ ks ∧ (dP (dv f) n s b kacc acc).2.2.2 = acc ++ its ∧ its.length = n ∧ ks.length = n ∧ Rise (kacc ++ ks) ∧ (∀ k ∈ ks, k.size ≤ 4096) ∧
      Gots f true s.l (dP (dv f) n s b kacc acc).1.l b (dP (dv f) n s b kacc acc).2.1 its ks
  | 0, s, b, kacc, acc, he, hr => by
    rw [dP_zero] at he ⊢
    exact ⟨he, [], [], by simp, by simp, rfl, rfl, by simpa using hr, by simp, by simp [V.encs], ⟨by simp [V.wfs], by simp [V.shorts], by simp [V.futs], by simp [V.deps], by simp [V.intss]⟩, by simp [V.szs]⟩
  | n + 1, s, b, kacc, acc, he, hr => by
    by_cases hl : (dv f (kx s kacc).2 b).1.e = 0
    · rw [dP_live hl] at he ⊢
      obtain ⟨g0, g1⟩ := h (kx s kacc).2 b hl
      obtain ⟨k1, k2, k3, k4⟩ := kx_back g0
      obtain ⟨h1, its, ks, h2, h3, h4, h5, h6, h7, h8⟩ := dP_back h n _ _ _ _ he (rise_snoc hr k4)
      refine ⟨k1, (dv f (kx s kacc).2 b).2.2 :: its, (kx s kacc).1 :: ks, ?_, ?_, by simp [h4], by simp [h5], ?_, ?_, ?_, ?_, ?_⟩
      · rw [h2, List.append_assoc, List.singleton_append]
      · rw [h3, List.append_assoc, List.singleton_append]
      · rw [List.append_assoc, List.singleton_append] at h6; exact h6
      · intro k hk
        rcases List.mem_cons.1 hk with rfl | hk
        · exact k3
        · exact h7 k hk
      · rw [V.encs, if_pos rfl, List.headD_cons, List.tail_cons, List.append_assoc, List.append_assoc, ← h8.by_, ← g1.by_]; exact k2
      · obtain ⟨a1, a2, a3, a4, a5⟩ := g1.pay
        obtain ⟨b1, b2, b3, b4, b5⟩ := h8.pay
        exact ⟨by simp [V.wfs, a1, b1], by simp [V.shorts, a2, b2], by simp [V.futs, a3, b3], by simp only [V.deps]; omega, by simp only [V.intss]; exact ⟨a5, b5⟩⟩
      · rw [h8.cnt, g1.cnt, V.szs]; omega
    · rw [dP_dead hl] at he; exact absurd he hl

theorem e_empty : ByteArray.empty.toList.isEmpty = true := by rw [ByteArray.toList_eq]; rfl
theorem fits_of {s : ByteArray} (h : s.size ≤ 4096) : fits s = true := decide_eq_true h
theorem fits_empty : fits ByteArray.empty = true := fits_of (by decide)
theorem fits_all {ks : List ByteArray} (h : ∀ k ∈ ks, k.size ≤ 4096) : ks.all fits = true := by
  rw [List.all_eq_true]; exact fun k hk => fits_of (h k hk)

theorem dv_back : ∀ f, Back f
  | 0 => fun s b he => by rw [dv_zero] at he; exact absurd he (bad_e s)
  | f + 1 => fun s b he => by
    by_cases hb : 1000 ≤ b
    · rw [dv_full hb] at he; exact absurd he (bad_e s)
    · have hb' : b < 1000 := by omega
      rcases (show s.num.1 = 0 ∨ s.num.1 = 1 ∨ s.num.1 = 2 ∨ s.num.1 = 3 ∨ s.num.1 = 4 ∨ s.num.1 = 5 ∨ (s.num.1 < 0 ∨ 5 < s.num.1) by omega) with h | h | h | h | h | h | h
      · rw [dv_null hb' h] at he ⊢
        obtain ⟨n1, n2, _, _⟩ := num_back he
        refine ⟨n1, ?_, ⟨?_, ?_, ?_, ?_, ?_⟩, ?_⟩
        · show s.l = V.encv (.mk 0 0 ByteArray.empty [] []) ++ _
          rw [V.enc_none (by decide) (by decide) (by decide) (by decide) (by decide) (by decide), ← h]; exact n2
        · show V.wf (.mk 0 0 ByteArray.empty [] []) = true
          simp [V.wf, V.top, uses, V.wfs]
        · show V.short (.mk 0 0 ByteArray.empty [] []) = true
          simp [V.short, V.txt, V.s, V.ks, V.shorts, fits_empty]
        · rfl
        · show V.dep (.mk 0 0 ByteArray.empty [] []) ≤ _; simp [V.dep, V.deps]
        · show V.ints (.mk 0 0 ByteArray.empty [] []); simp [V.ints, V.intss]
        · rfl
      · rw [dv_bool hb' h] at he ⊢
        have hx : s.num.2.num.1 = 0 ∨ s.num.2.num.1 = 1 := by
          by_cases hx : s.num.2.num.1 = 0 ∨ s.num.2.num.1 = 1
          · exact hx
          · have : (bx s.num.2).2 = s.num.2.num.2.bad := by unfold bx; exact if_neg hx
            change (bx s.num.2).2.e = 0 at he
            rw [this] at he; exact absurd he (bad_e _)
        have e2 : bx s.num.2 = (s.num.2.num.1, s.num.2.num.2) := by unfold bx; rw [if_pos hx]
        rw [e2] at he ⊢
        obtain ⟨m1, m2, _, _⟩ := num_back (s := s.num.2) he
        obtain ⟨n1, n2, _, _⟩ := num_back m1
        have e3 : (if s.num.2.num.1 = 1 then (1 : Int) else 0) = s.num.2.num.1 := by rcases hx with h | h <;> rw [h] <;> rfl
        show s.e = 0 ∧ Got (f + 1) s.l s.num.2.num.2.l b (b + 1) (.mk 1 (if s.num.2.num.1 = 1 then 1 else 0) ByteArray.empty [] [])
        rw [e3]
        refine ⟨n1, ?_, ⟨?_, ?_, ?_, ?_, ?_⟩, ?_⟩
        · rw [V.enc_int (.inl rfl), List.append_assoc, ← m2, ← h]; exact n2
        · simp [V.wf, V.top, uses, V.wfs, hx]
        · simp [V.short, V.txt, V.s, V.ks, V.shorts, fits_empty]
        · rfl
        · simp [V.dep, V.deps]
        · simp only [V.ints, V.intss]; refine ⟨?_, trivial⟩; omega
        · rfl
      · rw [dv_int hb' h] at he ⊢
        obtain ⟨m1, m2, m3, m4⟩ := num_back (s := s.num.2) he
        obtain ⟨n1, n2, _, _⟩ := num_back m1
        refine ⟨n1, ?_, ⟨?_, ?_, ?_, ?_, ?_⟩, ?_⟩
        · show s.l = V.encv (.mk 2 s.num.2.num.1 ByteArray.empty [] []) ++ _
          rw [V.enc_int (.inr (.inl rfl)), List.append_assoc]
          show s.l = _ ++ (_ ++ s.num.2.num.2.l)
          rw [← m2, ← h]; exact n2
        · show V.wf (.mk 2 s.num.2.num.1 ByteArray.empty [] []) = true
          simp [V.wf, V.top, uses, V.wfs]
        · show V.short (.mk 2 s.num.2.num.1 ByteArray.empty [] []) = true
          simp [V.short, V.txt, V.s, V.ks, V.shorts, fits_empty]
        · rfl
        · show V.dep (.mk 2 s.num.2.num.1 ByteArray.empty [] []) ≤ _; simp [V.dep, V.deps]
        · show V.ints (.mk 2 s.num.2.num.1 ByteArray.empty [] []); simp only [V.ints, V.intss]; exact ⟨⟨m3, m4⟩, trivial⟩
        · rfl
      · rw [dv_text hb' h] at he ⊢
        obtain ⟨m1, m2, m3⟩ := tx_back (s := s.num.2) he
        obtain ⟨n1, n2, _, _⟩ := num_back m1
        refine ⟨n1, ?_, ⟨?_, ?_, ?_, ?_, ?_⟩, ?_⟩
        · show s.l = V.encv (.mk 3 0 (tx s.num.2).1 [] []) ++ (tx s.num.2).2.l
          rw [V.enc_text, List.append_assoc, ← m2, ← h]; exact n2
        · show V.wf (.mk 3 0 (tx s.num.2).1 [] []) = true
          simp [V.wf, V.top, uses, V.wfs]
        · show V.short (.mk 3 0 (tx s.num.2).1 [] []) = true
          simp [V.short, V.txt, V.s, V.ks, V.shorts, fits_of m3]
        · rfl
        · show V.dep (.mk 3 0 (tx s.num.2).1 [] []) ≤ _; simp [V.dep, V.deps]
        · show V.ints (.mk 3 0 (tx s.num.2).1 [] []); simp [V.ints, V.intss]
        · rfl
      · rw [dv_list hb' h] at he ⊢
        obtain ⟨h1, its, h2, h3, h4⟩ := dL_back (dv_back f) (cx s.num.2).1 (cx s.num.2).2 (b + 1) [] he
        obtain ⟨c1, c2, c3⟩ := cx_back h1
        obtain ⟨n1, n2, _, _⟩ := num_back c1
        show s.e = 0 ∧ Got (f + 1) s.l (dL (dv f) (cx s.num.2).1 (cx s.num.2).2 (b + 1) []).1.l b (dL (dv f) (cx s.num.2).1 (cx s.num.2).2 (b + 1) []).2.1 (.mk 4 0 ByteArray.empty (dL (dv f) (cx s.num.2).1 (cx s.num.2).2 (b + 1) []).2.2 [])
        rw [h2, List.nil_append]
        obtain ⟨a1, a2, a3, a4, a5⟩ := h4.pay
        refine ⟨n1, ?_, ⟨?_, ?_, ?_, ?_, ?_⟩, ?_⟩
        · rw [V.enc_items (.inl rfl), List.append_assoc, List.append_assoc, show ((4 : Int) == 5) = false from rfl, ← h4.by_, h3, ← c2, ← h]; exact n2
        · simp [V.wf, V.top, uses, a1]
        · simp [V.short, V.txt, V.s, V.ks, fits_empty, a2]
        · simp [V.fut, a3]
        · simp only [V.dep]; omega
        · simp only [V.ints]; exact ⟨by omega, a5⟩
        · rw [h4.cnt, V.sz]; omega
      · rw [dv_map hb' h] at he ⊢
        obtain ⟨h1, its, ks, h2, h3, h4, h5, h6, h7, h8⟩ := dP_back (dv_back f) (cx s.num.2).1 (cx s.num.2).2 (b + 1) [] [] he rise_nil
        obtain ⟨c1, c2, c3⟩ := cx_back h1
        obtain ⟨n1, n2, _, _⟩ := num_back c1
        show s.e = 0 ∧ Got (f + 1) s.l (dP (dv f) (cx s.num.2).1 (cx s.num.2).2 (b + 1) [] []).1.l b (dP (dv f) (cx s.num.2).1 (cx s.num.2).2 (b + 1) [] []).2.1 (.mk 5 0 ByteArray.empty (dP (dv f) (cx s.num.2).1 (cx s.num.2).2 (b + 1) [] []).2.2.2 (dP (dv f) (cx s.num.2).1 (cx s.num.2).2 (b + 1) [] []).2.2.1)
        rw [h2, h3, List.nil_append, List.nil_append]
        rw [List.nil_append] at h6
        obtain ⟨a1, a2, a3, a4, a5⟩ := h8.pay
        refine ⟨n1, ?_, ⟨?_, ?_, ?_, ?_, ?_⟩, ?_⟩
        · rw [V.enc_items (.inr rfl), List.append_assoc, List.append_assoc, show ((5 : Int) == 5) = true from rfl, ← h8.by_, h4, ← c2, ← h]; exact n2
        · simp [V.wf, V.top, uses, a1, rise_yes h6, h4, h5]
        · simp only [V.short, V.txt, V.s, V.ks, fits_empty, fits_all h7, a2]; rfl
        · simp [V.fut, a3]
        · simp only [V.dep]; omega
        · simp only [V.ints]; exact ⟨by omega, a5⟩
        · rw [h8.cnt, V.sz]; omega
      · rw [dv_kind hb' h] at he; exact absurd he (bad_e _)

theorem right_pay {t : V} (h : t.right = true) (hi : t.ints) : Pay 16 t ∧ t.sz ≤ 1000 := by
  unfold V.right V.within at h
  simp only [Bool.and_eq_true, Bool.not_eq_true', decide_eq_true_eq] at h
  exact ⟨⟨h.1.1, h.1.2.1.1, h.2, h.1.2.1.2, hi⟩, h.1.2.2⟩
theorem pay_right {t : V} (h : Pay 16 t) (hs : t.sz ≤ 1000) : t.right = true := by
  unfold V.right V.within
  simp only [Bool.and_eq_true, Bool.not_eq_true', decide_eq_true_eq]
  exact ⟨⟨h.wf, ⟨h.sh, h.dp⟩, hs⟩, h.fu⟩
end Go.Proofs.YtkodmhopollnpaaGreat.M

namespace Go.Proofs.YtkodmhopollnpaaGreat
set_option linter.unusedVariables false
open Go.RowKit
open M (V)

theorem M.intss_of : ∀ {l : List V}, (∀ j, j < l.length → (l.getD j default).ints) → V.intss l
  | [], _ => by simp [V.intss]
  | x :: r, h => by
    simp only [V.intss]
    exact ⟨h 0 (by simp), M.intss_of fun j hj => h (j + 1) (by simpa using hj)⟩
theorem VB.ints {w : World} {lo hi : Nat} : ∀ {d : Nat} {v : Value} {t : V}, VB w lo hi d v t → t.ints
  | 0, _, _, h => h.elim
  | d + 1, _, t, ⟨A, n, c, B, m, e, _, _, _, h1, h2, _, hI, _⟩ => by
    have hs : V.intss t.its := M.intss_of fun j hj => by
      obtain ⟨b, off, _, _, _, hc⟩ := hI.at_ (by rw [← hI.len]; omega)
      obtain ⟨k, i, s, x, y, _, _, _, _, _, hv⟩ := hc j (by rw [← hI.len]; exact hj)
      exact VB.ints hv
    obtain ⟨k, n', s, its, ks⟩ := t
    simp only [V.ints]
    exact ⟨⟨h1, h2⟩, hs⟩
theorem VX.ints {w : World} {lo hi : Nat} {v : Value} {t : V} (h : VX w lo hi v t) : t.ints := by obtain ⟨d, h⟩ := h; exact VB.ints h

/-! ### The length of an encoding -/
theorem M.enc10 {n : Int} (h1 : -9223372036854775808 ≤ n) (h2 : n ≤ 9223372036854775807) : (M.enc (M.zig n)).length ≤ 10 := (M.enc_len _ (M.zig_lt n h1 h2)).2
theorem M.sby_len {s : ByteArray} (h : s.size ≤ 4096) : (M.sby s).length ≤ 4106 := by
  have h1 := M.sz_list s
  have h2 := M.enc10 (n := (s.data.toList.length : Int)) (by omega) (by omega)
  unfold M.sby
  rw [List.length_append]; omega
theorem M.encs_len {f : Nat} (h : ∀ t, M.Pay f t → t.sz ≤ 1000 → t.encv.length + 4106 ≤ 9000 * t.sz) : ∀ (m : Bool) (its : List V) (ks : List ByteArray), M.Pays f its → V.szs its ≤ 1000 → (∀ k ∈ ks, k.size ≤ 4096) → (V.encs m its ks).length ≤ 9000 * V.szs its
  | m, [], ks, _, _, _ => by simp [V.encs]
  | m, x :: l, ks, hp, hz, hk => by
    obtain ⟨p1, p2⟩ := hp.cons
    rw [V.szs] at hz
    have h1 := h x p1 (by omega)
    have h2 := M.encs_len h m l ks.tail p2 (by omega) (fun k hk' => hk k (List.mem_of_mem_tail hk'))
    have h3 : (M.sby (ks.headD ByteArray.empty)).length ≤ 4106 := by
      cases ks with
      | nil => exact M.sby_len (by decide)
      | cons k r => exact M.sby_len (hk k List.mem_cons_self)
    rw [V.encs, List.length_append, List.length_append, V.szs, Nat.mul_add]
    split
    · omega
    · rw [List.length_nil]; omega
set_option maxRecDepth 100000 in
theorem M.encv_len : ∀ (f : Nat) (t : V), M.Pay f t → t.sz ≤ 1000 → t.encv.length + 4106 ≤ 9000 * t.sz
  | 0, t, h, _ => absurd h.dp (by have := V.dep_pos t; omega)
  | f + 1, t, h, hz => by
    have hI := h.items
    have hkf := M.keys_fit h.sh
    have htf := M.text_fit h.sh
    have hs := V.sz_eq t
    have hi := h.it
    obtain ⟨k, n, s, its, ks⟩ := t
    simp only [V.ints] at hi
    simp only [V.its, V.ks, V.s] at hI hkf htf hs
    have hfu := h.fu
    simp only [V.fut, Bool.or_eq_false_iff, beq_eq_false_iff_ne] at hfu
    by_cases k1 : k = 1 ∨ k = 2
    · have a1 := M.enc10 (n := k) (by omega) (by omega)
      have a2 := M.enc10 hi.1.1 hi.1.2
      rw [V.enc_int (by omega), List.length_append]; omega
    · by_cases k3 : k = 3
      · subst k3
        have a1 := M.enc10 (n := 3) (by omega) (by omega)
        have a2 := M.sby_len htf
        rw [V.enc_text, List.length_append]; omega
      · by_cases k4 : k = 4 ∨ k = 5
        · have a1 := M.enc10 (n := k) (by omega) (by omega)
          have a2 := M.encs_len (M.encv_len f) (k == 5) its ks hI (by omega) hkf
          have a4 := V.len_le_szs its
          have a3 := M.enc10 (n := (its.length : Int)) (by omega) (by omega)
          rw [V.enc_items k4, List.length_append, List.length_append]
          omega
        · have hk : k = 0 := by
            have htop : M.uses k n s.toList.isEmpty ((its.length : Int) == 0) ((ks.length : Int) == 0) ((ks.length : Int) == (its.length : Int)) (M.rise ks) = true := M.wf_top h.wf
            unfold M.uses at htop
            by_cases k0 : k = 0
            · exact k0
            · rw [if_neg k0, if_neg (by omega), if_neg (by omega), if_neg k3, if_neg (by omega), if_neg (by omega), if_neg hfu.1] at htop
              cases htop
          subst hk
          have a1 := M.enc10 (n := 0) (by omega) (by omega)
          rw [V.enc_none (by decide) (by decide) (by decide) (by decide) (by decide) (by decide)]; omega

/-! ### The front of a slice of bytes -/
set_option maxRecDepth 100000 in
theorem RB.addr {w : World} {lo hi n c : Nat} {A A' : Option Addr} {l : List UInt8} (h : RB w lo hi A n c l) (h1 : 0 < n → A' = A) (h2 : A' = none → c = 0) : RB w lo hi A' n c l :=
  ⟨h.len, h.cap, h.most, h2, fun h0 => by rw [h1 h0]; exact h.at_ h0⟩
set_option maxRecDepth 100000 in
theorem RB.part1 {w : World} {lo hi n c k : Nat} {A B' : Option Addr} {l : List UInt8} (h : RB w lo hi A n c l) (hk : k ≤ n) (h1 : ∀ b o, A = some ⟨b, o, none⟩ → B' = A) (h2 : B' = none → A = none ∨ c = 0) : RB w lo hi B' k c (l.take k) :=
  (h.front hk).addr (fun h0 => by obtain ⟨b, o, e, _⟩ := h.at_ (by omega); exact h1 b o e) (fun e => by rcases h2 e with h3 | h3; exact h.nil h3; exact h3)
set_option maxRecDepth 100000 in
theorem run_front8 (A : Option Addr) (k n c : Nat) (hk : k ≤ c) :
    ∃ B' : Option Addr, (∀ b o, A = some ⟨b, o, none⟩ → B' = A) ∧ (B' = none → A = none ∨ c = 0) ∧ ∀ W : World, (Instr.sliceAt 22 (.slice A n c) none (some (.int .i64 (k : Int))) none).run Tryz.prog W = .ok (.slice B' k c) W ∧ (Instr.slice 22 (.slice A n c) none (some (.int .i64 (k : Int))) none).run Tryz.prog W = .ok (.slice B' k c) W := by
  have hT : Tryz.prog.underlying 22 = some (.slice (Tryz.prog.elem 22)) := Tryz.underlying22
  have hs : ∀ W : World, (sizeOf (Tryz.prog.elem 22)).run Tryz.prog W = .ok 1 W := fun W => by kernel_rfl
  refine ⟨if c = 0 then A else A.map (·.add (0 * 1)), fun b o h => ?_, fun h => ?_, fun W => ?_⟩
  · subst h
    split
    · rfl
    · rw [Option.map_some, Nat.zero_mul, Addr.add_lit]; rfl
  · split at h
    · exact .inr ‹_›
    · rw [Option.map_eq_none_iff] at h; exact .inl h
  have h1 : (Instr.slice 22 (.slice A n c) none (some (.int .i64 (k : Int))) none).run Tryz.prog W = .ok (.slice (if c = 0 then A else A.map (·.add (0 * 1))) k c) W := by
    rw [run_slice_h W 22 _ n c hT .i64 k (by omega) (by omega), hs W]
    simp [Result.andThen, sliced]
  exact ⟨by rw [run_sliceAt_slice W 22 _ _ _ _ hT]; exact h1, h1⟩
end Go.Proofs.YtkodmhopollnpaaGreat

namespace Go.Proofs.YtkodmhopollnpaaGreat
set_option linter.unusedVariables false
open Go.RowKit
open M (V)

theorem code_right {t : V} (h : t.right = true) : V.code t = t.encv := by
  unfold V.right at h
  simp only [Bool.and_eq_true] at h
  unfold V.code
  rw [if_pos h.1.1]

set_option maxRecDepth 100000 in
set_option maxHeartbeats 8000000 in
theorem roundW {v : Value} {t : V} {A : Option Addr} {n c : Nat} {l : List UInt8} {hi : Nat} (w : World) (h : VX w 0 hi v t) (hr : RB w 0 hi A n c l) (hhi : hi ≤ w.heap.size) :
    Calls Tryz.prog 4 #[v, .slice A n c] w fun e w' => e = .returned (.bool true) ∧ Below w.heap.size w w' := by
  obtain ⟨A1, m1, c1, B1, p1, e1, rfl⟩ := h.form
  have hints := h.ints
  have hb0 := box_refl w (.cells #[.int .i64 t.k, .int .i64 t.n, .string t.s, .slice A1 m1 c1, .slice B1 p1 e1] 31)
  have hln := hr.len
  have hm := hr.most
  have hc := hr.cap
  unfold maxLen at hm
  have HR := Lib.hid hr; have H := Lib.hid h; have HI := Lib.hid hints; have HLN := Lib.hid hln
  clear hr h hints hln
  obtain ⟨b0, b1, b2, b3, b4⟩ := box5 hb0
  by_cases hn : (1000 : Int) < (n : Int)
  · go_enter Tryz.func4, Tryz.ntmps4
    go_wp2_with fail
    refine (works_any _).mono ?_
    rintro e w2 ⟨rfl, hb3⟩
    go_wp2_with fail
    go_ret
    exact ⟨rfl, box_below (box_step hb0 hb3)⟩
  · go_enter Tryz.func4, Tryz.ntmps4
    go_wp2_with fail
    refine (fewX (H.out.later (box_below hb0) hhi) (by have := box_size hb0; omega) (by decide) (by decide)).mono ?_
    rintro e w1 ⟨rfl, hb1⟩
    have hb2 := box_step hb0 hb1
    clear b0 b1 b2 b3 b4
    obtain ⟨b0, b1, b2, b3, b4⟩ := box5 hb2
    cases hf : decide ((t.sz : Int) ≤ 1000) with
    | false =>
      clear hf
      go_wp2_with fail
      refine (works_any _).mono ?_
      rintro e w2 ⟨rfl, hb3⟩
      go_wp2_with fail
      go_ret
      exact ⟨rfl, box_below (box_step hb2 hb3)⟩
    | true =>
      have hsz : t.sz ≤ 1000 := by have := of_decide_eq_true hf; omega
      have HSZ := Lib.hid hsz
      clear hf
      go_wp2_with fail
      refine (rRightX (H.out.later (box_below hb2) hhi) (by have := box_size hb2; omega) (by omega)).mono ?_
      clear hsz
      rintro e w2 ⟨rfl, hb3⟩
      have hb4 := box_step hb2 hb3
      clear b0 b1 b2 b3 b4
      obtain ⟨b0, b1, b2, b3, b4⟩ := box5 hb4
      cases hg : t.right with
      | false =>
        clear hg
        go_wp2_with fail
        refine (works_any _).mono ?_
        rintro e w3 ⟨rfl, hb5⟩
        go_wp2_with fail
        go_ret
        exact ⟨rfl, box_below (box_step hb4 hb5)⟩
      | true =>
        have hpay := M.right_pay hg HI.out
        have hcode := code_right hg
        have hlen := M.encv_len 16 t hpay.1 hpay.2
        obtain ⟨E, hE⟩ : ∃ E, E = t.encv := ⟨_, rfl⟩
        have hEl : E.length ≤ 9000000 := by rw [hE]; have := hpay.2; omega
        have HPAY := Lib.hid hpay; have HE := Lib.hid hE
        have HC := Lib.hid hcode
        clear hpay hcode hlen hg hE
        go_wp2_with fail
        have hz4 := box_size hb4
        refine (encodeX (RB.nil_ _ 0 0) (Nat.zero_le _) (H.out.later (box_below hb4) hhi) (by omega) (by rw [HC.out, ← HE.out, List.nil_append]; omega)).mono ?_
        rintro e w3 ⟨v3, rfl, ho3, hb5⟩
        rw [HC.out, ← HE.out, List.nil_append] at ho3
        obtain ⟨A3, n3, c3, rfl, hr3⟩ := ho3.form
        have hb6 := box_step hb4 hb5
        have hn3 := hr3.len
        clear b0 b1 b2 b3 b4 ho3
        obtain ⟨b0, b1, b2, b3, b4⟩ := box5 hb6
        go_wp2_with (at_builtin; refine wpList_append_rb rfl _ _ rfl w3.heap.size _ [] rfl (OB.empty _ _) _ _ _ _ _ _ rfl hr3 ?c1 ?c2 ?_)
        case c1 => simp; omega
        case c2 => omega
        intro v4 w4 ho4 hb7
        have hb8 : Below (w.heap.size + 1) (w.alloc (.cells #[.int .i64 t.k, .int .i64 t.n, .string t.s, .slice A1 m1 c1, .slice B1 p1 e1] 31)) w4 := hb6.trans (hb7.mono (by have := box_size hb6; omega))
        have hbw4 := box_below hb8
        have hz8 := box_size hb8
        have HR4 := Lib.hid (HR.out.kept (Kept.of_below hbw4 hhi))
        have hz7 := hb7.size
        clear b0 b1 b2 b3 b4 hr3 hb7
        obtain ⟨b0, b1, b2, b3, b4⟩ := box5 hb8
        go_wp2_with (at_builtin; refine wpList_append_rb rfl _ _ rfl w3.heap.size _ _ rfl ho4 _ _ _ _ _ _ rfl HR4.out ?c3 ?c4 ?_)
        case c3 => omega
        case c4 => exact hz7
        intro v5 w5 ho5 hb9
        have hb10 : Below (w.heap.size + 1) (w.alloc (.cells #[.int .i64 t.k, .int .i64 t.n, .string t.s, .slice A1 m1 c1, .slice B1 p1 e1] 31)) w5 := hb8.trans (hb9.mono (by have := box_size hb6; omega))
        obtain ⟨A5, n5, c5, rfl, hr5⟩ := ho5.form
        have hz10 := box_size hb10
        have hn5 : n5 ≤ 9001000 := by rw [← hr5.len, List.length_append, HLN.out]; omega
        clear b0 b1 b2 b3 b4 hb9 ho4 ho5
        obtain ⟨b0, b1, b2, b3, b4⟩ := box5 hb10
        go_wp2_with fail
        refine (openX A5 n5 c5 (E ++ l) _ _ _ hr5 (Nat.le_refl _) (by omega)).mono ?_
        rintro e w6 ⟨g, rfl, hd6, hb11⟩
        have hb12 := box_step hb10 hb11
        have hge : w5.heap.size ≤ g := by obtain ⟨_, _, _, h⟩ := hd6; exact h.low
        have hgl := hd6.lt
        have hll : (E ++ l).length ≤ 100000000 := by rw [List.length_append, HLN.out]; omega
        have hll2 : l.length ≤ 100000000 := by rw [HLN.out]; omega
        have HRR : Hid (((⟨l, 0⟩ : M.St), 0 + t.sz, t) = M.dv 16 ⟨E ++ l, 0⟩ 0) := Lib.hid (by rw [HE.out, M.dv_enc 16 t 0 l HPAY.out.1 (by have := HPAY.out.2; omega)])
        have HQ : Hid (∀ W, Below (w.heap.size + 1) (w.alloc (.cells #[.int .i64 t.k, .int .i64 t.n, .string t.s, .slice A1 m1 c1, .slice B1 p1 e1] 31)) W → W.cell? ⟨w.heap.size, 0, none⟩ = some (.int .i64 t.k) ∧ W.cell? ⟨w.heap.size, 1, none⟩ = some (.int .i64 t.n) ∧ W.cell? ⟨w.heap.size, 2, none⟩ = some (.string t.s) ∧ W.cell? ⟨w.heap.size, 3, none⟩ = some (.slice A1 m1 c1) ∧ W.cell? ⟨w.heap.size, 4, none⟩ = some (.slice B1 p1 e1)) := Lib.hid (fun W hW => box5 hW)
        have HD6 := Lib.hid hd6
        have hb13 : Below (w.heap.size + 1) (w.alloc (.cells #[.int .i64 t.k, .int .i64 t.n, .string t.s, .slice A1 m1 c1, .slice B1 p1 e1] 31)) w6.drew := below_drew hb12
        clear b0 b1 b2 b3 b4 hr5 hd6 hb11 hb0 hb1 hb2 hb3 hb4 hb5 hb6 hb8 hbw4 HR4
        obtain ⟨b0, b1, b2, b3, b4⟩ := box5 hb12
        go_wp2_with fail
        go_region_held3 (fun W => W.cell? ⟨w.heap.size, 0, none⟩ = some (.int .i64 t.k) ∧ W.cell? ⟨w.heap.size, 1, none⟩ = some (.int .i64 t.n) ∧ W.cell? ⟨w.heap.size, 2, none⟩ = some (.string t.s) ∧ W.cell? ⟨w.heap.size, 3, none⟩ = some (.slice A1 m1 c1) ∧ W.cell? ⟨w.heap.size, 4, none⟩ = some (.slice B1 p1 e1))
          (first
            | exact HQ.out _ hk2
            | exact HQ.out _ hk1
            | exact HQ.out _ hb13
            | exact HQ.out _ hb12)
          (first
            | (go_at_call 8; refine (decodeX HRR.out (show RdX w6.drew w5.heap.size g ⟨E ++ l, 0⟩ from HD6.out.kept fun _ _ _ => rfl) hge hll).mono ?_
               rintro e w7 ⟨v7, rfl, hv7, hd7, hg7⟩
               have HV7 : Hid (VX w7 w6.drew.heap.size w7.heap.size v7 t) := Lib.hid hv7
               have HD7 : Hid (RdX w7 w5.heap.size g ⟨l, 0⟩) := Lib.hid hd7
               obtain ⟨A7, m7, c7, B7, p7, e7, rfl⟩ := HV7.out.form
               have hk1 : Below (w.heap.size + 1) (w.alloc (.cells #[.int .i64 t.k, .int .i64 t.n, .string t.s, .slice A1 m1 c1, .slice B1 p1 e1] 31)) w7 := hb13.grown hg7 (by have := box_size hb13; exact this) (fun k hk => by injection hk; omega)
               clear hv7 hd7)
            | (go_at_call 10; refine (rSameX HV7.out (H.out.later (box_below hk1) hhi) (Nat.le_refl _) (by have := box_size hk1; omega)).mono ?_
               rintro e w8 ⟨rfl, hb14⟩
               rw [V.same_yes rfl]
               have hk2 := box_step hk1 hb14
               have HD8 := Lib.hid (HD7.out.kept (Kept.of_below hb14 HD7.out.lt)))
            | (go_at_call 11; refine (errX HD8.out).mono ?_; rintro e w' ⟨rfl, rfl⟩)
            | (go_at_call 13; refine (leftX HD8.out).mono ?_; rintro e w' ⟨rfl, rfl⟩; rw [HLN.out]))
        obtain ⟨r, hr⟩ : ∃ r, r = M.dv 16 (⟨l, 0⟩ : M.St) 0 := ⟨_, rfl⟩
        obtain ⟨D, hD⟩ : ∃ D, D = dout r := ⟨_, rfl⟩
        have HR2 := Lib.hid hr; have HDO := Lib.hid hD
        have HK2 := Lib.hid hk2
        clear b0 b1 b2 b3 b4 hr hD HQ HD6 HV7 HD7 hk1 hk2 hg7 hb12 hb13 hb14 hb10
        go_wp2_with fail
        refine (decodeX HR2.out HD8.out hge hll2).mono ?_
        rintro e w9 ⟨v9, rfl, hv9, hd9, hg9⟩
        rw [← HDO.out] at hv9
        obtain ⟨A9, m9, c9, B9, p9, e9, rfl⟩ := hv9.form
        have hk3 : Below (w.heap.size + 1) (w.alloc (.cells #[.int .i64 t.k, .int .i64 t.n, .string t.s, .slice A1 m1 c1, .slice B1 p1 e1] 31)) w9 := HK2.out.grown hg9 (by have := box_size HK2.out; exact this) (fun k hk => by injection hk; omega)
        have hby := box_refl w9 (.cells #[.int .i64 D.k, .int .i64 D.n, .string D.s, .slice A9 m9 c9, .slice B9 p9 e9] 31)
        have hzy := box_size hby
        have HDy := Lib.hid (hd9.kept (Kept.of_below (box_below hby) hd9.lt))
        have HW9 : Hid (Below w.heap.size w w9) := Lib.hid (box_below hk3)
        have HV9 := Lib.hid hv9
        clear hv9 hd9 hg9 hk3
        obtain ⟨b0, b1, b2, b3, b4⟩ := box5 hby
        by_cases he : r.1.e = 0
        · have HBE : Hid (r.1.e = 0) := Lib.hid he
          have hback := M.dv_back 16 (⟨l, 0⟩ : M.St) 0 (by rw [← HR2.out]; exact he)
          have hsm := (M.dv_small 16 (⟨l, 0⟩ : M.St) 0).2 (by omega)
          rw [← HR2.out] at hback hsm
          have hDr : D = r.2.2 := by rw [HDO.out]; unfold dout; rw [if_pos he]
          rw [← hDr] at hback
          have hgot : M.Got 16 l r.1.l 0 r.2.1 D := hback.2
          have hDs : D.sz ≤ 1000 := by have := hgot.cnt; omega
          have hDg := M.pay_right hgot.pay hDs
          have hDc := code_right hDg
          have hDl := M.encv_len 16 D hgot.pay hDs
          have hby_ := hgot.by_
          obtain ⟨K, hK⟩ : ∃ K, K = D.encv.length := ⟨_, rfl⟩
          obtain ⟨L, hL⟩ : ∃ L, L = r.1.l.length := ⟨_, rfl⟩
          have hKL : n = K + L := by rw [← HLN.out, hby_, List.length_append, hK, hL]
          have htk : l.take K = D.encv := by rw [hK]; conv => lhs; rw [hby_]
                                             rw [List.take_left]
          have HL := Lib.hid hL; have HDG := Lib.hid hDg; have HDS := Lib.hid hDs; have HTK := Lib.hid htk
          have hdl2 : D.encv.length ≤ 9000000 := by omega
          have HDL := Lib.hid hdl2
          have HDC := Lib.hid hDc
          have hnl : (n : Int) - (L : Int) = (K : Int) := by omega
          have q0 : (0 : Int) ≤ (K : Int) := by omega
          have q1 : (K : Int) ≤ (n : Int) := by omega
          have hkn : K ≤ n := by omega
          clear he hback hsm hDr hgot hDs hDg hDc hDl hby_ hK hL htk hdl2 hKL
          go_wp2_with fail
          refine (errX HDy.out).mono ?_
          rintro e w' ⟨rfl, rfl⟩
          rw [HBE.out]
          go_wp2_with fail
          refine (leftX HDy.out).mono ?_
          rintro e w' ⟨rfl, rfl⟩
          rw [← HL.out]
          obtain ⟨AF, hAF1, hAF2, hAF⟩ := run_front8 A K n c (by omega)
          have HRF : Hid (RB w 0 hi AF K c D.encv) := Lib.hid (by rw [← HTK.out]; exact HR.out.part1 hkn hAF1 hAF2)
          have r1 := fun W => (hAF W).1
          have r2 := fun W => (hAF W).2
          have HQ : Hid (∀ W, Below (w9.heap.size + 1) (w9.alloc (.cells #[.int .i64 D.k, .int .i64 D.n, .string D.s, .slice A9 m9 c9, .slice B9 p9 e9] 31)) W → W.cell? ⟨w9.heap.size, 0, none⟩ = some (.int .i64 D.k) ∧ W.cell? ⟨w9.heap.size, 1, none⟩ = some (.int .i64 D.n) ∧ W.cell? ⟨w9.heap.size, 2, none⟩ = some (.string D.s) ∧ W.cell? ⟨w9.heap.size, 3, none⟩ = some (.slice A9 m9 c9) ∧ W.cell? ⟨w9.heap.size, 4, none⟩ = some (.slice B9 p9 e9)) := Lib.hid (fun W hW => box5 hW)
          have hby2 : Below (w9.heap.size + 1) (w9.alloc (.cells #[.int .i64 D.k, .int .i64 D.n, .string D.s, .slice A9 m9 c9, .slice B9 p9 e9] 31)) ((w9.alloc (.cells #[.int .i64 D.k, .int .i64 D.n, .string D.s, .slice A9 m9 c9, .slice B9 p9 e9] 31))).drew := below_drew hby
          obtain ⟨S, hS⟩ : ∃ S, S = strV D.encv := ⟨_, rfl⟩
          have HS := Lib.hid hS
          clear hAF1 hAF2 hAF hS
          go_wp2_with fail
          go_region_held (fun W => W.cell? ⟨w9.heap.size, 0, none⟩ = some (.int .i64 D.k) ∧ W.cell? ⟨w9.heap.size, 1, none⟩ = some (.int .i64 D.n) ∧ W.cell? ⟨w9.heap.size, 2, none⟩ = some (.string D.s) ∧ W.cell? ⟨w9.heap.size, 3, none⟩ = some (.slice A9 m9 c9) ∧ W.cell? ⟨w9.heap.size, 4, none⟩ = some (.slice B9 p9 e9))
            (first
              | exact HQ.out _ hk7
              | exact HQ.out _ hk6
              | exact HQ.out _ hk5
              | exact HQ.out _ hby2
              | exact HQ.out _ hby)
            (first
              | (go_at_call 16; refine (rRightX (HV9.out.later (box_below hby2) (Nat.le_refl _)) (by have := box_size hby2; omega) (by have := HDS.out; omega)).mono ?_; rintro e w11 ⟨rfl, hb15⟩; rw [HDG.out]; have hk5 := box_step hby2 hb15; have hv2 := run_convV (HRF.out.kept (Kept.of_below (HW9.out.trans ((box_below hk5).mono HW9.out.size)) hhi)); rw [← HS.out] at hv2)
              | (go_at_call 17; refine (encodeX (RB.nil_ _ 0 0) (Nat.zero_le _) (HV9.out.later (box_below hk5) (Nat.le_refl _)) (by have := box_size hk5; omega) (by rw [HDC.out, List.nil_append]; have := HDL.out; omega)).mono ?_; rintro e w12 ⟨v12, rfl, ho12, hb16⟩; rw [HDC.out, List.nil_append] at ho12; obtain ⟨A12, n12, c12, rfl, hr12⟩ := ho12.form; have hk6 := box_step hk5 hb16; have hv3 := run_convV hr12; have hv4 := run_convV (HRF.out.kept (Kept.of_below (HW9.out.trans ((box_below hk6).mono HW9.out.size)) hhi)); rw [← HS.out] at hv3 hv4)
              | (go_at_call 5; refine (works_any _).mono ?_; rintro e w13 ⟨rfl, hb17⟩; have hk7 := box_step hk6 hb17))
          all_goals go_wp2_with fail
          all_goals go_ret
          all_goals exact ⟨rfl, HW9.out.trans ((box_below hk7).mono HW9.out.size)⟩
        · have hbe : (r.1.e != 0) = true := by simpa using he
          obtain ⟨E0, hE0⟩ : ∃ E0, E0 = r.1.e := ⟨_, rfl⟩
          rw [← hE0] at hbe he
          have hbe2 : (E0 == 0) = false := by rw [beq_eq_false_iff_ne]; exact he
          have HBE := Lib.hid hE0
          clear he hE0
          go_wp2_with fail
          refine (errX HDy.out).mono ?_
          rintro e w' ⟨rfl, rfl⟩
          rw [← HBE.out]
          go_wp2_with fail
          refine (works_any _).mono ?_
          rintro e w10 ⟨rfl, hb15⟩
          go_wp2_with fail
          go_ret
          exact ⟨rfl, HW9.out.trans ((box_below (box_step hby hb15)).mono HW9.out.size)⟩
end Go.Proofs.YtkodmhopollnpaaGreat
