/-
  Layer 3: the code's parser: escapes and literals.
-/
import Derived.Test.YtdkggnciamfcmaaGreatDoorTCodB
namespace Go.Proofs.YtdkggnciamfcmaaGreatDoor
set_option linter.unusedVariables false
open Go.RowKit
open M (V Res)

def hexS : ByteArray := ⟨#[48, 49, 50, 51, 52, 53, 54, 55, 56, 57, 97, 98, 99, 100, 101, 102]⟩
theorem hexS_any (c : Nat) (w : World) (hc : c < 256) :
    Calls Tryz.prog 72 #[.string ⟨#[48, 49, 50, 51, 52, 53, 54, 55, 56, 57, 97, 98, 99, 100, 101, 102]⟩, .int .u8 (c : Int)] w fun e w' => e = .returned (.int .i64 (M.hexN c)) ∧ w' = w := by
  rw [← M.hexN_index c hc]
  exact index_any hexS c w hc

set_option maxRecDepth 100000 in
set_option maxHeartbeats 1000000 in
theorem hexD_any {w : World} {g i b : Nat} {s : ByteArray} (h : Prs w g s i b) :
    Calls Tryz.prog 113 #[.pointer (some ⟨g, 0, none⟩)] w (Ends g s isByte (M.hexD s i b) w) := by
  obtain ⟨r, hr⟩ : ∃ r, r = M.hexD s i b := ⟨_, rfl⟩
  rw [← hr]
  have HR := Lib.hid hr
  clear hr
  go_enter Tryz.func113, Tryz.ntmps113
  go_wp2_with fail
  refine (take_any h).mono ?_
  rintro e w1 ⟨hg1, hm⟩
  obtain ⟨q, hq⟩ : ∃ q, q = M.take s i b := ⟨_, rfl⟩
  rw [← hq] at hm
  have HR2 : Hid (r = q.then fun c j b => if M.hexN c < 0 then .no (j - 1) 3 else .ok (M.hexN c).toNat j b) := Lib.hid (by rw [HR.out, hq]; rfl)
  cases q with
  | no k er =>
    subst hm
    exact ⟨rfl, Ends.fault hg1 (by rw [HR2.out]; rfl)⟩
  | ok c j b' =>
    obtain ⟨v, rfl, hP, rfl⟩ := hm
    obtain ⟨q1, q2, q3, q4⟩ := M.take_inv hq
    have hj0 : 0 < j := by omega
    have hc : c < 256 := by rw [q2]; exact M.ch_lt s i
    have hN := M.hexN_lt c
    have HP := Lib.hid hP; have HG := Lib.hid hg1
    clear hP hg1 hq q1 q2 q3 q4 h
    go_wp2_with fail
    refine (hexS_any c w1 hc).mono ?_
    rintro e w' ⟨rfl, rfl⟩
    obtain ⟨N, hNe⟩ : ∃ N, N = M.hexN c := ⟨_, rfl⟩
    rw [← hNe] at hN ⊢
    have HN := Lib.hid hNe
    clear hNe
    by_cases hneg : N < 0
    · have HNG := Lib.hid hneg
      go_wp2_with fail
      refine (reject_any HP.out hj0).mono ?_
      rintro e w2 ⟨rfl, rfl⟩
      exact ⟨rfl, Ends.fault HG.out (by rw [HR2.out]; show (if M.hexN c < 0 then _ else _) = _; rw [if_pos (by rw [← HN.out]; exact HNG.out)])⟩
    · obtain ⟨n, rfl⟩ := Int.eq_ofNat_of_zero_le (show 0 ≤ N by omega)
      have hn16 : n < 16 := by omega
      clear hneg
      go_wp2_with fail
      go_ret
      exact Ends.good HG.out HP.out rfl (by rw [HR2.out]; show (if M.hexN c < 0 then _ else _) = _; rw [if_neg (by rw [← HN.out]; omega), ← HN.out, Int.toNat_natCast])

theorem or_hex : ∀ a : Nat, a < 16 → ∀ b : Nat, b < 16 → bits .or .u8 ((a * 16 : Nat) : Int) (b : Int) = ((16 * a + b : Nat) : Int) := by decide +kernel

set_option maxRecDepth 100000 in
set_option maxHeartbeats 2000000 in
theorem esc_any {w : World} {g i b : Nat} {s : ByteArray} (h : Prs w g s i b) :
    Calls Tryz.prog 96 #[.pointer (some ⟨g, 0, none⟩)] w (Ends g s isByte (M.esc s i b) w) := by
  obtain ⟨r, hr⟩ : ∃ r, r = M.esc s i b := ⟨_, rfl⟩
  rw [← hr]
  have HR := Lib.hid hr
  clear hr
  go_enter Tryz.func96, Tryz.ntmps96
  go_wp2_with fail
  refine (take_any h).mono ?_
  rintro e w1 ⟨hg1, hm⟩
  obtain ⟨q, hq⟩ : ∃ q, q = M.take s i b := ⟨_, rfl⟩
  rw [← hq] at hm
  cases q with
  | no k er =>
    subst hm
    exact ⟨rfl, Ends.fault hg1 (by rw [HR.out]; unfold M.esc; rw [← hq]; rfl)⟩
  | ok c j b' =>
    obtain ⟨v, rfl, hP, rfl⟩ := hm
    obtain ⟨q1, q2, q3, q4⟩ := M.take_inv hq
    have hj0 : 0 < j := by omega
    have HP := Lib.hid hP; have HG := Lib.hid hg1
    have HR2 : Hid (r = if c = 110 then .ok 10 j b' else if c = 116 then .ok 9 j b'
      else if c = 120 then (M.hexD s j b').then fun h k b => (M.hexD s k b).then fun l m b => .ok (16 * h + l) m b
      else if c = 34 ∨ c = 92 then .ok c j b' else .no (j - 1) 3) := Lib.hid (by rw [HR.out]; unfold M.esc; rw [← hq]; rfl)
    clear hP hg1 hq q1 q2 q3 q4 h
    by_cases h1 : c = 110
    · subst h1
      go_wp2_with fail
      go_ret
      exact Ends.good HG.out HP.out rfl (by rw [HR2.out]; rfl)
    · by_cases h2 : c = 116
      · subst h2
        go_wp2_with fail
        go_ret
        exact Ends.good HG.out HP.out rfl (by rw [HR2.out]; rfl)
      · by_cases h3 : c = 120
        · subst h3
          go_wp2_with fail
          refine (hexD_any HP.out).mono ?_
          rintro e w2 ⟨hg2, hm⟩
          obtain ⟨q, hq⟩ : ∃ q, q = M.hexD s j b' := ⟨_, rfl⟩
          rw [← hq] at hm
          have HGG := Lib.hid (HG.out.trans hg2)
          cases q with
          | no k er =>
            subst hm
            exact ⟨rfl, Ends.fault HGG.out (by rw [HR2.out]; show (M.hexD s j b').then _ = _; rw [← hq]; rfl)⟩
          | ok x1 k b2 =>
            obtain ⟨v, rfl, hP2, rfl⟩ := hm
            have hx1 := (M.hexD_inv hq).2.1
            have HP2 := Lib.hid hP2
            have HR3 : Hid (r = (M.hexD s k b2).then fun l m b => .ok (16 * x1 + l) m b) := Lib.hid (by rw [HR2.out]; show (M.hexD s j b').then _ = _; rw [← hq]; rfl)
            clear hP2 hg2 hq
            go_wp2_with fail
            refine (hexD_any HP2.out).mono ?_
            rintro e w3 ⟨hg3, hm⟩
            obtain ⟨q, hq⟩ : ∃ q, q = M.hexD s k b2 := ⟨_, rfl⟩
            rw [← hq] at hm
            have HG3 := Lib.hid (HGG.out.trans hg3)
            cases q with
            | no k er =>
              subst hm
              exact ⟨rfl, Ends.fault HG3.out (by rw [HR3.out, ← hq]; rfl)⟩
            | ok x2 m b3 =>
              obtain ⟨v, rfl, hP3, rfl⟩ := hm
              have hx2 := (M.hexD_inv hq).2.1
              have hor := or_hex x1 hx1 x2 hx2
              have HP3 := Lib.hid hP3
              have HR5 : Hid (r = .ok (16 * x1 + x2) m b3) := Lib.hid (by rw [HR3.out, ← hq]; rfl)
              obtain ⟨y, hy⟩ : ∃ y, y = 16 * x1 + x2 := ⟨_, rfl⟩
              rw [← hy] at hor HR5
              obtain ⟨z, hz⟩ : ∃ z, z = x1 * 16 := ⟨_, rfl⟩
              have hzi : (x1 : Int) * 16 = (z : Int) := by omega
              rw [← hz] at hor
              have hz2 : z < 256 := by omega
              clear hP3 hg3 hq hy hz
              go_wp2_with fail
              go_ret
              exact Ends.good HG3.out HP3.out rfl HR5.out
        · have e1 : ((c : Int) == 110) = false := by rw [beq_eq_false_iff_ne]; omega
          have e2 : ((c : Int) == 116) = false := by rw [beq_eq_false_iff_ne]; omega
          have e3 : ((c : Int) == 120) = false := by rw [beq_eq_false_iff_ne]; omega
          have HR4 : Hid (r = if c = 34 ∨ c = 92 then .ok c j b' else .no (j - 1) 3) := Lib.hid (by rw [HR2.out, if_neg h1, if_neg h2, if_neg h3])
          clear h1 h2 h3
          by_cases h4 : c = 34
          · subst h4
            go_wp2_with fail
            go_ret
            exact Ends.good HG.out HP.out rfl (by rw [HR4.out]; rfl)
          · by_cases h5 : c = 92
            · subst h5
              go_wp2_with fail
              go_ret
              exact Ends.good HG.out HP.out rfl (by rw [HR4.out]; rfl)
            · have e4 : ((c : Int) == 34) = false := by rw [beq_eq_false_iff_ne]; omega
              have e5 : ((c : Int) == 92) = false := by rw [beq_eq_false_iff_ne]; omega
              have HR5 : Hid (r = .no (j - 1) 3) := Lib.hid (by rw [HR4.out, if_neg (by omega)])
              clear h4 h5
              go_wp2_with fail
              refine (reject_any HP.out hj0).mono ?_
              rintro e w2 ⟨rfl, rfl⟩
              exact ⟨rfl, Ends.fault HG.out HR5.out⟩

set_option maxHeartbeats 1000000 in
theorem letter_any {w : World} {g i b : Nat} {s : ByteArray} (c : Nat) (h : Prs w g s i b) (h1 : 0 < i) :
    Calls Tryz.prog 76 #[.pointer (some ⟨g, 0, none⟩), .int .u8 (c : Int)] w (Ends g s isByte (M.letter s c i b) w) := by
  by_cases hc : c = 92
  · subst hc
    have e1 : M.letter s 92 i b = M.esc s i b := if_pos rfl
    rw [e1]
    clear e1
    go_enter Tryz.func76, Tryz.ntmps76
    go_wp2_with fail
    refine (esc_any h).mono ?_
    rintro e w1 ⟨hg1, hm⟩
    obtain ⟨q, hq⟩ : ∃ q, q = M.esc s i b := ⟨_, rfl⟩
    rw [← hq] at hm
    have HQ := Lib.hid hq
    cases q with
    | no k er =>
      subst hm
      exact ⟨rfl, Ends.fault hg1 HQ.out.symm⟩
    | ok x j b' =>
      obtain ⟨v, rfl, hP, rfl⟩ := hm
      clear hq
      go_wp2_with fail
      go_ret
      exact Ends.good hg1 hP rfl HQ.out.symm
  · have e0 : ((c : Int) == 92) = false := by rw [beq_eq_false_iff_ne]; omega
    cases hp : M.plain c with
    | true =>
      have e1 : M.letter s c i b = .ok c i b := by unfold M.letter; rw [if_neg hc, if_pos hp]
      rw [e1]
      have HP := Lib.hid hp
      clear e1 hc hp
      go_enter Tryz.func76, Tryz.ntmps76
      go_wp2_with fail
      refine (plain_any c w).mono ?_
      rintro e w' ⟨rfl, rfl⟩
      rw [HP.out]
      go_wp2_with fail
      go_ret
      exact Ends.good (grown_refl _ _) h rfl rfl
    | false =>
      have e1 : M.letter s c i b = .no (i - 1) 3 := by unfold M.letter; rw [if_neg hc, if_neg (by rw [hp]; decide)]
      rw [e1]
      have HP := Lib.hid hp
      clear e1 hc hp
      go_enter Tryz.func76, Tryz.ntmps76
      go_wp2_with fail
      refine (plain_any c w).mono ?_
      rintro e w' ⟨rfl, rfl⟩
      rw [HP.out]
      go_wp2_with fail
      refine (reject_any h h1).mono ?_
      rintro e w1 ⟨rfl, rfl⟩
      exact ⟨rfl, Ends.fault (grown_refl _ _) rfl⟩

/-- The string of a slice of bytes. -/
def tstr (l : List UInt8) : ByteArray := ⟨l.toArray⟩
set_option maxRecDepth 100000 in
theorem run_tstr {w : World} {lo hi n c : Nat} {A : Option Addr} {l : List UInt8} (h : RB w lo hi A n c l) : (convert 39 9 (.slice A n c)).run Tryz.prog w = .ok (.string (tstr l)) w := by
  rcases A with _ | ad
  · obtain rfl := h.nil rfl
    obtain rfl : n = 0 := by have := h.cap; omega
    obtain rfl : l = [] := List.eq_nil_of_length_eq_zero h.len
    exact run_convert_bytes_nil w _ _ Tryz.underlying39 Tryz.underlying5 0 0 _ Tryz.underlying9
  · rcases Nat.eq_zero_or_pos n with h0 | h0
    · subst h0
      obtain rfl : l = [] := List.eq_nil_of_length_eq_zero h.len
      rw [run_convert_bytes_string w _ _ _ _ _ _ Tryz.underlying39 Tryz.underlying5 Tryz.underlying9]
      exact run_bytesToString w ad 0 c [] (by simp [loadCells, loadCellsFrom])
    · obtain ⟨b, off, e, _, _, hc⟩ := h.at_ h0
      injection e with e
      subst e
      rw [run_convert_bytes_arg w _ _ Tryz.underlying39 Tryz.underlying5 b off n c (l.map fun x => (x.toNat : Int)) (by rw [List.length_map, h.len]) ?_ _ Tryz.underlying9]
      · congr 2
        simp [strOfNums, tstr, List.map_map, Function.comp_def]
      · intro i hi
        rw [hc i hi]
        have hil : i < l.length := by rw [h.len]; exact hi
        simp [List.getD, hil]

def isStr (a : ByteArray) (v : Value) (_ : World) : Prop := v = .string a
theorem OB.row {w w' : World} {base g : Nat} {v : Value} {l : List UInt8} (h : OB w base v l) (hg : w.grownBy w' (some g)) (hb : g < base) : OB w' base v l :=
  h.kept hg (.inr (fun e => by have := (World.ownsRow.lt h _ e).1; omega))
theorem grown_below {w w1 w2 : World} {g : Nat} (h : w.grownBy w1 (some g)) (hb : Below w.heap.size w1 w2) : w.grownBy w2 (some g) :=
  ⟨hb.os.trans h.os, hb.tape.trans h.tape, hb.output.trans h.output, Nat.le_trans h.size hb.size, fun y y1 y2 => (hb.block y y1).trans (h.block y y1 y2)⟩
theorem Prs.kept {w w' : World} {g i b : Nat} {s : ByteArray} (h : Prs w g s i b) (hb : w'.heap[g]? = w.heap[g]?) : Prs w' g s i b := ⟨hb.trans h.blk, h.le, h.fit, h.cnt⟩

set_option maxRecDepth 100000 in
set_option maxHeartbeats 4000000 in
theorem lit_any {w : World} {g i b : Nat} {s : ByteArray} (h : Prs w g s i b) (h1 : 0 < i) :
    Calls Tryz.prog 47 #[.pointer (some ⟨g, 0, none⟩)] w (Ends g s isStr (M.lit s i b) w) := by
  obtain ⟨r, hr⟩ : ∃ r, r = M.lit s i b := ⟨_, rfl⟩
  rw [← hr]
  have HR := Lib.hid hr
  obtain ⟨c0, c1, c2, f1, f2⟩ := h.cells
  have hgw := h.lt
  have hle := h.le
  have hfit := h.fit
  obtain ⟨k0, hk0⟩ : ∃ k0, k0 = i - 1 := ⟨_, rfl⟩
  have hki : (i : Int) - 1 = (k0 : Int) := by omega
  have HK := Lib.hid hk0
  clear hr hk0
  go_enter Tryz.func47, Tryz.ntmps47
  go_wp2_with fail
  refine (take_any h).mono ?_
  rintro e w1 ⟨hg1, hm⟩
  obtain ⟨q, hq⟩ : ∃ q, q = M.take s i b := ⟨_, rfl⟩
  rw [← hq] at hm
  have HR2 : Hid (r = q.then fun c j b => (M.litL s (s.size + 1 - j) [] c j b).then fun l k b => if 4096 < l.length then .no k0 6 else .ok ⟨l.toArray⟩ k b) := Lib.hid (by rw [HR.out, hq, HK.out]; rfl)
  cases q with
  | no k er =>
    subst hm
    exact ⟨rfl, Ends.fault hg1 (by rw [HR2.out]; rfl)⟩
  | ok cc j0 b0 =>
    obtain ⟨v, rfl, hP, rfl⟩ := hm
    obtain ⟨q1, q2, q3, q4⟩ := M.take_inv hq
    have hcc : cc < 256 := by rw [q2]; exact M.ch_lt s i
    obtain ⟨R, hRd⟩ : ∃ R, R = M.litL s (s.size + 1 - j0) [] cc j0 b0 := ⟨_, rfl⟩
    have HR3 : Hid (r = R.then fun l k b => if 4096 < l.length then .no k0 6 else .ok ⟨l.toArray⟩ k b) := Lib.hid (by rw [HR2.out, hRd]; rfl)
    have HP1 := Lib.hid hP; have HG1 := Lib.hid hg1; have HRD := Lib.hid hRd
    have hj0 : 0 < j0 := by omega
    clear hP hg1 hq q1 q2 q3 q4 h c0 c1 c2 f1 f2 hRd
    go_wp2_with fail
    go_loopw [4, 5] (fun bv cv wr => ∃ (acc : List UInt8) (c j bj f : Nat), cv = .int .u8 (c : Int) ∧ c < 256 ∧ Hid (OB wr w.heap.size bv acc) ∧ Hid (Prs wr g s j bj) ∧ Hid (w.grownBy wr (some g)) ∧ Hid (M.litL s f acc c j bj = R) ∧ s.size + 1 ≤ f + j ∧ acc.length ≤ j ∧ 0 < j ∧ w.heap.size ≤ wr.heap.size) (fun _ _ wr => s.size - atOf wr g)
    case atStart => exact ⟨[], cc, j0, b0, s.size + 1 - j0, rfl, hcc, Lib.hid (OB.empty _ _), HP1, HG1, Lib.hid HRD.out.symm, by omega, by simp, hj0, HG1.out.size⟩
    case round =>
      clear HP1 HG1 HRD
      obtain ⟨acc, c, j, bj, f, rfl, hc, HB, HP, HG, HL, hf, hal, hjp, hzw⟩ := hrel
      have hjs := HP.out.le
      have HAT := Lib.hid (atOf_eq HP.out)
      obtain ⟨f, rfl⟩ : ∃ f', f = f' + 1 := ⟨f - 1, by omega⟩
      by_cases hq : c = 34
      · subst hq
        have HL2 : Hid (R = .ok acc j bj) := Lib.hid (by rw [← HL.out, M.litL, if_pos rfl])
        obtain ⟨A, n, cp, rfl, hr⟩ := HB.out.form
        have hn := hr.len
        have hcv := run_tstr hr
        have hcap := hr.cap
        have hmost := hr.most
        unfold maxLen at hmost
        have HN := Lib.hid hn
        clear hr hn HB HL
        by_cases hbig : 4096 < n
        · go_wp2_with fail
          refine (fail_any _ _ _).mono ?_
          rintro e w2 ⟨rfl, rfl⟩
          exact ⟨rfl, Ends.fault HG.out (by rw [HR3.out, HL2.out]; show (if 4096 < acc.length then _ else _) = _; rw [HN.out, if_pos hbig])⟩
        · have hbi : ¬ (4096 : Int) < (n : Int) := by omega
          have HBI := Lib.hid hbig
          clear hbig
          go_wp2_with fail
          go_ret
          exact Ends.good HG.out HP.out rfl (by rw [HR3.out, HL2.out]; show (if 4096 < acc.length then _ else _) = _; rw [HN.out, if_neg HBI.out]; rfl)
      · have hne : ((c : Int) != 34) = true := by rw [bne_iff_ne]; omega
        have hne2 : ((c : Int) == 34) = false := by rw [beq_eq_false_iff_ne]; omega
        have HL2 : Hid (R = (M.letter s c j bj).then fun x j b => (M.take s j b).then fun d k b => M.litL s f (acc ++ [UInt8.ofNat x]) d k b) := Lib.hid (by rw [← HL.out, M.litL, if_neg hq])
        clear hq HL
        go_wp2_with fail
        refine (letter_any c HP.out hjp).mono ?_
        rintro e w2 ⟨hg2, hm⟩
        obtain ⟨q, hq⟩ : ∃ q, q = M.letter s c j bj := ⟨_, rfl⟩
        rw [← hq] at hm HL2
        cases q with
        | no k er =>
          subst hm
          exact ⟨rfl, Ends.fault (HG.out.trans hg2) (by rw [HR3.out, HL2.out]; rfl)⟩
        | ok x j2 b2 =>
          obtain ⟨v, rfl, hP2, rfl⟩ := hm
          obtain ⟨hx, hj2, hj3, _⟩ := M.letter_inv hjs hc hq
          have hob := HB.out.row hg2 hgw
          have hz2 := hg2.size
          have HG2 := Lib.hid (HG.out.trans hg2)
          have HP2 := Lib.hid hP2
          have HXB : Hid ((x : Int) = ((UInt8.ofNat x).toNat : Int)) := Lib.hid (by rw [UInt8.toNat_ofNat']; omega)
          have HL3 : Hid (R = (M.take s j2 b2).then fun d k b => M.litL s f (acc ++ [UInt8.ofNat x]) d k b) := Lib.hid HL2.out
          clear hP2 hg2 hq HB HL2 HP HG
          go_wp2_with (at_builtin; refine wpList_append_rb rfl _ _ rfl w.heap.size _ acc rfl (hob.alloc _) _ _ _ _ _ [UInt8.ofNat x] rfl (RB.one _ HXB.out) ?b1 ?b2 ?_)
          case b1 => omega
          case b2 => simp; omega
          intro v5 w5 ho5 hb5
          have hz5 := hb5.size
          simp only [World.size_alloc] at hz5
          have hP5 : Prs w5 g s j2 b2 := HP2.out.kept ((hb5.block g (by omega)).trans (Below.heap_alloc _ _ _ (by omega)))
          have HG5 := Lib.hid (grown_below HG2.out (((Below.refl w.heap.size w2).alloc (by omega) _).trans hb5))
          have HP5 := Lib.hid hP5; have HO5 := Lib.hid ho5
          clear hP5 ho5 hb5 hob
          go_wp2_with fail
          refine (take_any HP5.out).mono ?_
          rintro e w6 ⟨hg6, hm⟩
          obtain ⟨q, hq⟩ : ∃ q, q = M.take s j2 b2 := ⟨_, rfl⟩
          rw [← hq] at hm HL3
          cases q with
          | no k er =>
            subst hm
            exact ⟨rfl, Ends.fault (HG5.out.trans hg6) (by rw [HR3.out, HL3.out]; rfl)⟩
          | ok d k b3 =>
            obtain ⟨v, rfl, hP6, rfl⟩ := hm
            obtain ⟨p1, p2, p3, p4⟩ := M.take_inv hq
            have hd : d < 256 := by rw [p2]; exact M.ch_lt s j2
            have HO6 := Lib.hid (HO5.out.row hg6 hgw)
            have HG6 := Lib.hid (HG5.out.trans hg6)
            have HP6 := Lib.hid hP6
            have hz6 := hg6.size
            have HAT6 := Lib.hid (atOf_eq hP6)
            have HMS : Hid (s.size - k < s.size - j ∧ s.size + 1 ≤ f + k ∧ acc.length + 1 ≤ k ∧ 0 < k) := Lib.hid (by omega)
            have HL6 : Hid (M.litL s f (acc ++ [UInt8.ofNat x]) d k b3 = R) := Lib.hid HL3.out.symm
            clear hP6 hg6 hq HO5 HG5 HP5 p1 p2 p4
            go_wp2_with fail
            exact ⟨⟨acc ++ [UInt8.ofNat x], d, k, b3, f, rfl, hd, HO6, HP6, HG6, HL6, HMS.out.2.1, by rw [List.length_append, List.length_singleton]; exact HMS.out.2.2.1, HMS.out.2.2.2, by omega⟩, by rw [HAT6.out, HAT.out]; exact HMS.out.1⟩
end Go.Proofs.YtdkggnciamfcmaaGreatDoor
