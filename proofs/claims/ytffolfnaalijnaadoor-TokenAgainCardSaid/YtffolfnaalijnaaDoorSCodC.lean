/-
  Layer 7: the code's scanner: one character of a literal.
-/
import Derived.Test.YtffolfnaalijnaaDoorSCodB
import Derived.Lib.Bits
namespace Go.Proofs.YtffolfnaalijnaaDoor
set_option linter.unusedVariables false
open Go.RowKit

/-- What the reading of a character ends in. -/
def CEnds (g h : Nat) (s : ByteArray) (r : Z.C) (i : Nat) (w : World) (e : Ending) (w' : World) : Prop :=
  w.grownBy w' (some g) ∧ match r with
  | .ok c n => e = .returned (.tuple #[.int .u8 (c.toNat : Int), .int .i64 0]) ∧ Sc w' g h s (i + n)
  | .err er => e = .returned (.tuple #[.int .u8 0, .int .i64 er]) ∧ (er = 3 ∨ er = 4) ∧ ∃ j, Sc w' g h s j

theorem refE_peek_nil : refE (-1) = 4 := rfl
theorem refE_pos {r : Int} (h : 0 ≤ r) : refE r = 3 := if_neg (by omega)
theorem refE_or (r : Int) : refE r = 3 ∨ refE r = 4 := by unfold refE; split <;> simp
theorem hexZ_bd (r : Int) : -1 ≤ hexZ r ∧ hexZ r ≤ 15 := by
  unfold hexZ Z.hexd Z.digit
  split
  · omega
  · split
    · rename_i h; simp at h; omega
    · split <;> omega
/-- 'num2' by what the reader sees. -/
theorem num2_peek (l : List UInt8) : Z.num2 l = if hexZ (Z.peek l) < 0 then .err (refE (Z.peek l)) else
    if hexZ (Z.peek (l.drop 1)) < 0 then .err (refE (Z.peek (l.drop 1))) else .ok (UInt8.ofNat (16 * (hexZ (Z.peek l)).toNat + (hexZ (Z.peek (l.drop 1))).toNat)) 2 := by
  have hz : ∀ c : UInt8, hexZ (c.toNat : Int) = Z.hexd c.toNat := fun c => by unfold hexZ; rw [if_neg (by omega)]; rfl
  have hr : ∀ c : UInt8, refE (c.toNat : Int) = 3 := fun c => refE_pos (by omega)
  match l with
  | [] => rfl
  | [a] =>
    show Z.num2 [a] = if hexZ (a.toNat : Int) < 0 then Z.C.err (refE (a.toNat : Int)) else if hexZ (-1) < 0 then .err 4 else _
    rw [hz, hr]; rfl
  | a :: b :: r =>
    show Z.num2 (a :: b :: r) = if hexZ (a.toNat : Int) < 0 then Z.C.err (refE (a.toNat : Int)) else if hexZ (b.toNat : Int) < 0 then .err (refE (b.toNat : Int)) else .ok (UInt8.ofNat (16 * (hexZ (a.toNat : Int)).toNat + (hexZ (b.toNat : Int)).toNat)) 2
    rw [hz, hz, hr, hr]; rfl


theorem CEnds.no {g h : Nat} {s : ByteArray} {r : Z.C} {i j : Nat} {w w' : World} {p : Int} (hr : r = .err (refE p)) (hg : w.grownBy w' (some g)) (k : Sc w' g h s j) :
    CEnds g h s r i w (.returned (.tuple #[.int .u8 0, .int .i64 (refE p)])) w' := by
  subst hr; exact ⟨hg, rfl, refE_or p, j, k⟩
theorem CEnds.yes {g h : Nat} {s : ByteArray} {r : Z.C} {i j n : Nat} {w w' : World} {c : UInt8} {v : Int} (hr : r = .ok c n) (hv : v = (c.toNat : Int)) (hj : j = i + n) (hg : w.grownBy w' (some g)) (k : Sc w' g h s j) :
    CEnds g h s r i w (.returned (.tuple #[.int .u8 v, .int .i64 0])) w' := by
  subst hr hv hj; exact ⟨hg, rfl, k⟩
theorem lt_of_peek {s : ByteArray} {i : Nat} (h : 0 ≤ Z.peek (left s i)) : i < s.size := by
  refine Nat.lt_of_not_le fun hge => ?_
  rw [peek_end hge] at h; omega
theorem hexZ_lt {s : ByteArray} {i : Nat} (h : 0 ≤ hexZ (Z.peek (left s i))) : i < s.size := by
  refine Nat.lt_of_not_le fun hge => ?_
  rw [peek_end hge] at h
  exact absurd h (by decide)

theorem or0 : ∀ n : Nat, n < 16 → bits BinOp.or IntKind.i64 0 (n : Int) = (n : Int) := by decide +kernel
theorem or16 : ∀ n : Nat, n < 16 → ∀ m : Nat, m < 16 → bits BinOp.or IntKind.i64 ((n : Int) * 16) (m : Int) = (16 * n + m : Int) := by decide +kernel
set_option maxRecDepth 100000 in
set_option maxHeartbeats 2000000 in
theorem number_any {w : World} {g h i : Nat} {s : ByteArray} (k : Sc w g h s i) :
    Calls Tryd.prog 74 #[.pointer (some ⟨g, 0, none⟩)] w (CEnds g h s (Z.num2 (left s i)) i w) := by
  rw [num2_peek, left_drop]
  have HK := Lib.hid k
  obtain ⟨p1, hp1⟩ : ∃ p, p = Z.peek (left s i) := ⟨_, rfl⟩
  rw [← hp1]
  have b1 := peek_range (left s i)
  rw [← hp1] at b1
  have hx1 := hexZ_bd p1
  have hl1 : 0 ≤ hexZ p1 → i < s.size := fun h => hexZ_lt (by rw [← hp1]; exact h)
  obtain ⟨x1, ex1⟩ : ∃ x, x = hexZ p1 := ⟨_, rfl⟩
  rw [← ex1] at hx1 hl1 ⊢
  obtain ⟨r, hr⟩ : ∃ r, r = (if x1 < 0 then Z.C.err (refE p1) else if hexZ (Z.peek (left s (i + 1))) < 0 then .err (refE (Z.peek (left s (i + 1)))) else .ok (UInt8.ofNat (16 * x1.toNat + (hexZ (Z.peek (left s (i + 1)))).toNat)) 2) := ⟨_, rfl⟩
  rw [← hr]
  have HR := Lib.hid hr
  have HP1 := Lib.hid hp1
  have HX1 := Lib.hid ex1
  have HL1 := Lib.hid hl1
  obtain ⟨b1l, b1u⟩ := b1
  obtain ⟨x1l, x1u⟩ := hx1
  clear k hp1 ex1 hr hl1
  go_enter Tryd.func74, Tryd.ntmps74
  go_wp2_with fail
  refine wp_loop_rounds 3 ?_
  rw [rounds_succ]
  go_wp2_with fail
  refine (take_any HK.out).mono ?_
  rintro e w1 ⟨rfl, k1, hg1⟩
  rw [← HP1.out]
  have HK1 := Lib.hid k1
  have HG1 := Lib.hid hg1
  clear k1 hg1
  go_wp2_with fail
  refine (hexRune_any _ p1 b1l b1u).mono ?_
  rintro e w2 ⟨rfl, n2, rfl⟩
  rw [← HX1.out]
  have HK2 := Lib.hid (HK1.out.drewN n2)
  have HG2 := Lib.hid (HG1.out.trans (grown7_drewN w1 n2 (some g)))
  clear HK1 HG1
  generalize w1.drewN n2 = w2 at *
  by_cases hneg : x1 < 0
  · have HN := Lib.hid hneg
    go_wp2_with fail
    refine (refuse_any p1 w2).mono ?_
    rintro e w3 ⟨rfl, rfl⟩
    go_wp2_with fail
    go_ret2
    exact CEnds.no (by rw [HR.out, if_pos HN.out]) HG2.out HK2.out
  · have HN := Lib.hid hneg
    have hlt := HL1.out (by omega)
    rw [Nat.min_eq_left hlt] at HK2
    have x0 : 0 ≤ x1 := by omega
    have dx : decide (x1 < 0) = false := by simp; omega
    have ho : bits BinOp.or IntKind.i64 0 x1 = x1 := by
      have := or0 x1.toNat (by omega)
      rwa [Int.toNat_of_nonneg x0] at this
    clear hneg
    go_wp2_with fail
    rw [rounds_succ]
    go_wp2_with fail
    obtain ⟨p2, hp2⟩ : ∃ p, p = Z.peek (left s (i + 1)) := ⟨_, rfl⟩
    have b2 := peek_range (left s (i + 1))
    rw [← hp2] at b2
    obtain ⟨b2l, b2u⟩ := b2
    have hx2 := hexZ_bd p2
    have hl2 : 0 ≤ hexZ p2 → i + 1 < s.size := fun h => hexZ_lt (by rw [← hp2]; exact h)
    obtain ⟨x2, ex2⟩ : ∃ x, x = hexZ p2 := ⟨_, rfl⟩
    rw [← ex2] at hx2 hl2
    obtain ⟨x2l, x2u⟩ := hx2
    have HP2 := Lib.hid hp2
    have HX2 := Lib.hid ex2
    have HL2 := Lib.hid hl2
    clear hp2 ex2 hl2
    refine (take_any HK2.out).mono ?_
    rintro e w3 ⟨rfl, k3, hg3⟩
    rw [← HP2.out]
    have HK3 := Lib.hid k3
    have HG3 := Lib.hid (HG2.out.trans hg3)
    clear k3 hg3
    go_wp2_with fail
    refine (hexRune_any _ p2 b2l b2u).mono ?_
    rintro e w4 ⟨rfl, n4, rfl⟩
    rw [← HX2.out]
    have HK4 := Lib.hid (HK3.out.drewN n4)
    have HG4 := Lib.hid (HG3.out.trans (grown7_drewN w3 n4 (some g)))
    clear HK3 HG3
    generalize w3.drewN n4 = w4 at *
    by_cases hneg2 : x2 < 0
    · have HN2 := Lib.hid hneg2
      go_wp2_with fail
      refine (refuse_any p2 w4).mono ?_
      rintro e w5 ⟨rfl, rfl⟩
      go_wp2_with fail
      go_ret2
      exact CEnds.no (by rw [HR.out, if_neg (by have := HN.out; omega), ← HP2.out, ← HX2.out, if_pos HN2.out]) HG4.out HK4.out
    · have HN2 := Lib.hid hneg2
      have hlt2 := HL2.out (by omega)
      have x20 : 0 ≤ x2 := by omega
      have dx2 : decide (x2 < 0) = false := by simp; omega
      have ho2 : bits BinOp.or IntKind.i64 (x1 * 16) x2 = 16 * x1 + x2 := by
        have := or16 x1.toNat (by omega) x2.toNat (by omega)
        rwa [Int.toNat_of_nonneg x0, Int.toNat_of_nonneg x20] at this
      clear hneg2
      have hlt3 : (16 * x1 + x2) % 256 = 16 * x1 + x2 := by omega
      go_wp2_with fail
      rw [rounds_succ]
      go_wp2_with fail
      go_ret2
      refine CEnds.yes (c := UInt8.ofNat (16 * x1.toNat + x2.toNat)) (n := 2) (j := min (i.succ + 1) s.size) ?_ ?_ (by omega) HG4.out HK4.out
      · rw [HR.out, if_neg (by have := HN.out; omega), ← HP2.out, ← HX2.out, if_neg (by have := HN2.out; omega)]
      · simp; omega
theorem esc_peek (l : List UInt8) : Z.esc l = if Z.peek l = 34 ∨ Z.peek l = 92 then .ok (UInt8.ofNat (Z.peek l).toNat) 1 else if Z.peek l = 110 then .ok 10 1 else if Z.peek l = 116 then .ok 9 1 else if Z.peek l = 120 then (Z.num2 (l.drop 1)).add 1 else .err (refE (Z.peek l)) := by
  match l with
  | [] => rfl
  | c :: r =>
    have hn : ∀ k : Nat, k < 256 → (Z.peek (c :: r) = (k : Int) ↔ c = UInt8.ofNat k) := fun k hk => by
      show ((c.toNat : Int) = (k : Int)) ↔ _
      constructor
      · intro e; have : c.toNat = k := by omega
        rw [← this]; simp
      · intro e; rw [e]; simp; omega
    have e34 := hn 34 (by decide); have e92 := hn 92 (by decide); have e110 := hn 110 (by decide); have e116 := hn 116 (by decide); have e120 := hn 120 (by decide)
    have hr : refE (Z.peek (c :: r)) = 3 := refE_pos (by show (0 : Int) ≤ (c.toNat : Int); omega)
    have hc : UInt8.ofNat (Z.peek (c :: r)).toNat = c := by show UInt8.ofNat (c.toNat : Int).toNat = c; simp
    rw [hr, hc]
    simp only [show (34 : Int) = ((34 : Nat) : Int) from rfl, show (92 : Int) = ((92 : Nat) : Int) from rfl, show (110 : Int) = ((110 : Nat) : Int) from rfl, show (116 : Int) = ((116 : Nat) : Int) from rfl, show (120 : Int) = ((120 : Nat) : Int) from rfl, e34, e92, e110, e116, e120]
    rfl
theorem chr_peek (l : List UInt8) : Z.chr l = if Z.peek l = 92 then (Z.esc (l.drop 1)).add 1 else if plainB (Z.peek l) = true then .ok (UInt8.ofNat (Z.peek l).toNat) 1 else .err (refE (Z.peek l)) := by
  match l with
  | [] => rfl
  | c :: r =>
    have e92 : Z.peek (c :: r) = 92 ↔ c = 92 := by
      show ((c.toNat : Int) = 92) ↔ _
      constructor
      · intro e; have : c.toNat = 92 := by omega
        have h2 : UInt8.ofNat c.toNat = c := by simp
        rw [← h2, this]; rfl
      · intro e; rw [e]; rfl
    have hr : refE (Z.peek (c :: r)) = 3 := refE_pos (by show (0 : Int) ≤ (c.toNat : Int); omega)
    have hc : UInt8.ofNat (Z.peek (c :: r)).toNat = c := by show UInt8.ofNat (c.toNat : Int).toNat = c; simp
    have hp : (plainB (Z.peek (c :: r)) = true) ↔ (32 ≤ c.toNat ∧ c.toNat ≤ 126) := by
      show (plainB (c.toNat : Int) = true) ↔ _
      unfold plainB; simp; omega
    rw [hr, hc]
    simp only [e92, hp]
    rfl

theorem CEnds.add {g h : Nat} {s : ByteArray} {r : Z.C} {i m : Nat} {w w1 w' : World} {e : Ending} (hg : w.grownBy w1 (some g)) (k : CEnds g h s r (i + m) w1 e w') : CEnds g h s (r.add m) i w e w' := by
  refine ⟨hg.trans k.1, ?_⟩
  have := k.2
  cases r with
  | ok c n => exact ⟨this.1, by show Sc w' g h s (i + (n + m)); rw [show i + (n + m) = i + m + n by omega]; exact this.2⟩
  | err e => exact this
/-- A pair that a callee gave is given on. -/
theorem CEnds.form {g h : Nat} {s : ByteArray} {r : Z.C} {i : Nat} {w w' : World} {e : Ending} (k : CEnds g h s r i w e w') : ∃ a b : Int, e = .returned (.tuple #[.int .u8 a, .int .i64 b]) := by
  have := k.2
  cases r with
  | ok c n => exact ⟨_, _, this.1⟩
  | err e => exact ⟨_, _, this.1⟩

set_option maxRecDepth 100000 in
set_option maxHeartbeats 2000000 in
theorem escaped_any {w : World} {g h i : Nat} {s : ByteArray} (k : Sc w g h s i) :
    Calls Tryd.prog 61 #[.pointer (some ⟨g, 0, none⟩)] w (CEnds g h s (Z.esc (left s i)) i w) := by
  rw [esc_peek, left_drop]
  have HK := Lib.hid k
  obtain ⟨p, hp⟩ : ∃ p, p = Z.peek (left s i) := ⟨_, rfl⟩
  rw [← hp]
  have b1 := peek_range (left s i)
  rw [← hp] at b1
  have hl1 : 0 ≤ p → i < s.size := fun h => lt_of_peek (by rw [← hp]; exact h)
  obtain ⟨b1l, b1u⟩ := b1
  have HP := Lib.hid hp
  have HL := Lib.hid hl1
  obtain ⟨r, hr⟩ : ∃ r, r = (if p = 34 ∨ p = 92 then Z.C.ok (UInt8.ofNat p.toNat) 1 else if p = 110 then .ok 10 1 else if p = 116 then .ok 9 1 else if p = 120 then (Z.num2 (left s (i + 1))).add 1 else .err (refE p)) := ⟨_, rfl⟩
  rw [← hr]
  have HR := Lib.hid hr
  clear k hp hl1 hr
  go_enter Tryd.func61, Tryd.ntmps61
  go_wp2_with fail
  refine (take_any HK.out).mono ?_
  rintro e w1 ⟨rfl, k1, hg1⟩
  rw [← HP.out]
  have HK1 := Lib.hid k1
  have HG1 := Lib.hid hg1
  clear k1 hg1
  by_cases h34 : p = 34
  · have hlt := HL.out (by omega)
    rw [Nat.min_eq_left hlt] at HK1
    subst h34
    have HR2 : Hid (r = .ok (UInt8.ofNat (34 : Int).toNat) 1) := Lib.hid (by rw [HR.out, if_pos (.inl rfl)])
    clear HR
    go_wp2_with fail
    go_ret2
    exact CEnds.yes HR2.out rfl rfl HG1.out HK1.out
  by_cases h92 : p = 92
  · have hlt := HL.out (by omega)
    rw [Nat.min_eq_left hlt] at HK1
    subst h92
    have HR2 : Hid (r = .ok (UInt8.ofNat (92 : Int).toNat) 1) := Lib.hid (by rw [HR.out, if_pos (.inr rfl)])
    clear HR
    go_wp2_with fail
    go_ret2
    exact CEnds.yes HR2.out rfl rfl HG1.out HK1.out
  by_cases h110 : p = 110
  · have hlt := HL.out (by omega)
    rw [Nat.min_eq_left hlt] at HK1
    subst h110
    have HR2 : Hid (r = .ok (10) 1) := Lib.hid (by rw [HR.out, if_neg (by decide), if_pos rfl])
    clear HR
    go_wp2_with fail
    go_ret2
    exact CEnds.yes HR2.out rfl rfl HG1.out HK1.out
  by_cases h116 : p = 116
  · have hlt := HL.out (by omega)
    rw [Nat.min_eq_left hlt] at HK1
    subst h116
    have HR2 : Hid (r = .ok (9) 1) := Lib.hid (by rw [HR.out, if_neg (by decide), if_neg (by decide), if_pos rfl])
    clear HR
    go_wp2_with fail
    go_ret2
    exact CEnds.yes HR2.out rfl rfl HG1.out HK1.out
  by_cases h120 : p = 120
  · have hlt := HL.out (by omega)
    rw [Nat.min_eq_left hlt] at HK1
    subst h120
    have HR2 : Hid (r = (Z.num2 (left s (i + 1))).add 1) := Lib.hid (by rw [HR.out, if_neg (by decide), if_neg (by decide), if_neg (by decide), if_pos rfl])
    clear HR h34 h92 h110 h116
    go_wp2_with fail
    refine (number_any HK1.out).mono ?_
    rintro e w2 h2
    obtain ⟨a, b, rfl⟩ := h2.form
    go_wp2_with fail
    go_ret2
    rw [HR2.out]
    exact CEnds.add HG1.out h2
  have e1 : (p == 34) = false := by rw [beq_eq_false_iff_ne]; exact h34
  have e2 : (p == 92) = false := by rw [beq_eq_false_iff_ne]; exact h92
  have e3 : (p == 110) = false := by rw [beq_eq_false_iff_ne]; exact h110
  have e4 : (p == 116) = false := by rw [beq_eq_false_iff_ne]; exact h116
  have e5 : (p == 120) = false := by rw [beq_eq_false_iff_ne]; exact h120
  have HR2 : Hid (r = .err (refE p)) := Lib.hid (by rw [HR.out, if_neg (by omega), if_neg h110, if_neg h116, if_neg h120])
  clear HR h34 h92 h110 h116 h120
  go_wp2_with fail
  refine (refuse_any p w1).mono ?_
  rintro e w2 ⟨rfl, rfl⟩
  go_wp2_with fail
  go_ret2
  exact CEnds.no HR2.out HG1.out HK1.out

set_option maxRecDepth 100000 in
set_option maxHeartbeats 2000000 in
theorem character_any {w : World} {g h i : Nat} {s : ByteArray} (k : Sc w g h s i) :
    Calls Tryd.prog 52 #[.pointer (some ⟨g, 0, none⟩)] w (CEnds g h s (Z.chr (left s i)) i w) := by
  rw [chr_peek, left_drop]
  have HK := Lib.hid k
  obtain ⟨p, hp⟩ : ∃ p, p = Z.peek (left s i) := ⟨_, rfl⟩
  rw [← hp]
  have b1 := peek_range (left s i)
  rw [← hp] at b1
  have hl1 : 0 ≤ p → i < s.size := fun h => lt_of_peek (by rw [← hp]; exact h)
  obtain ⟨b1l, b1u⟩ := b1
  have HP := Lib.hid hp
  have HL := Lib.hid hl1
  obtain ⟨r, hr⟩ : ∃ r, r = (if p = 92 then (Z.esc (left s (i + 1))).add 1 else if plainB p = true then .ok (UInt8.ofNat p.toNat) 1 else .err (refE p)) := ⟨_, rfl⟩
  rw [← hr]
  have HR := Lib.hid hr
  clear k hp hl1 hr
  go_enter Tryd.func52, Tryd.ntmps52
  go_wp2_with fail
  refine (take_any HK.out).mono ?_
  rintro e w1 ⟨rfl, k1, hg1⟩
  rw [← HP.out]
  have HK1 := Lib.hid k1
  have HG1 := Lib.hid hg1
  clear k1 hg1
  by_cases h92 : p = 92
  · have hlt := HL.out (by omega)
    rw [Nat.min_eq_left hlt] at HK1
    subst h92
    have HR2 : Hid (r = (Z.esc (left s (i + 1))).add 1) := Lib.hid (by rw [HR.out, if_pos rfl])
    clear HR
    go_wp2_with fail
    refine (escaped_any HK1.out).mono ?_
    rintro e w2 h2
    obtain ⟨a, b, rfl⟩ := h2.form
    go_wp2_with fail
    go_ret2
    rw [HR2.out]
    exact CEnds.add HG1.out h2
  have e2 : (p == 92) = false := by rw [beq_eq_false_iff_ne]; exact h92
  cases hpl : plainB p with
  | true =>
    have HPL := Lib.hid hpl
    have hp0 : 32 ≤ p ∧ p ≤ 126 := by unfold plainB at hpl; simpa using hpl
    obtain ⟨q0, q1⟩ := hp0
    have hlt := HL.out (by omega)
    have q2 : p % 256 = p := by omega
    rw [Nat.min_eq_left hlt] at HK1
    have HR2 : Hid (r = .ok (UInt8.ofNat p.toNat) 1) := Lib.hid (by rw [HR.out, if_neg h92, if_pos hpl])
    clear HR hpl h92
    go_wp2_with fail
    refine (isPlain_any p w1 b1l b1u).mono ?_
    rintro e w2 ⟨rfl, rfl⟩
    rw [HPL.out]
    go_wp2_with fail
    go_ret2
    exact CEnds.yes HR2.out (by simp; omega) rfl HG1.out HK1.out
  | false =>
    have HPL := Lib.hid hpl
    have HR2 : Hid (r = .err (refE p)) := Lib.hid (by rw [HR.out, if_neg h92, if_neg (by rw [hpl]; decide)])
    clear HR hpl h92
    go_wp2_with fail
    refine (isPlain_any p w1 b1l b1u).mono ?_
    rintro e w2 ⟨rfl, rfl⟩
    rw [HPL.out]
    go_wp2_with fail
    refine (refuse_any p _).mono ?_
    rintro e w3 ⟨rfl, rfl⟩
    go_wp2_with fail
    go_ret2
    exact CEnds.no HR2.out HG1.out HK1.out
end Go.Proofs.YtffolfnaalijnaaDoor
