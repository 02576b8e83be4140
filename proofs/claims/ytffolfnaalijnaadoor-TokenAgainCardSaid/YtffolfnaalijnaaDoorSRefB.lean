/-
  Layer 7: the reference: classes of bytes, numbers.
-/
import Derived.Test.YtffolfnaalijnaaDoorSRefA
import Derived.Test.YtffolfnaalijnaaDoorSMatC
import Derived.Test.YtffolfnaalijnaaDoorSCodE
namespace Go.Proofs.YtffolfnaalijnaaDoor
set_option linter.unusedVariables false
open Go.RowKit

theorem z_digit_yes {c : Nat} (h : 48 ≤ c ∧ c ≤ 57) : Z.digit c = true := by unfold Z.digit; simp; omega
theorem z_digit_no {c : Nat} (h : ¬ (48 ≤ c ∧ c ≤ 57)) : Z.digit c = false := by unfold Z.digit; simp; omega
theorem z_letter_yes {c : Nat} (h : (97 ≤ c ∧ c ≤ 122) ∨ (65 ≤ c ∧ c ≤ 90) ∨ c = 95) : Z.letter c = true := by unfold Z.letter; simp; omega
theorem z_letter_no {c : Nat} (h : ¬ ((97 ≤ c ∧ c ≤ 122) ∨ (65 ≤ c ∧ c ≤ 90) ∨ c = 95)) : Z.letter c = false := by
  cases hp : Z.letter c with
  | false => rfl
  | true => exfalso; apply h; unfold Z.letter at hp; simp at hp; omega

set_option maxHeartbeats 400000 in
theorem rdigit_any (c : Nat) (w : World) :
    Calls Tryd.prog 40 #[.int .u8 (c : Int)] w fun e w' => e = .returned (.bool (Z.digit c)) ∧ w' = w := by
  by_cases h1 : (48 : Int) ≤ (c : Int)
  all_goals (by_cases h2 : (c : Int) ≤ 57)
  all_goals (go_enter Tryd.func40, Tryd.ntmps40; go_wp2)
  all_goals go_ret
  all_goals (refine ⟨?_, rfl⟩; first | (rw [z_digit_yes (by omega)]; rfl) | (rw [z_digit_no (by omega)]; rfl))

set_option maxHeartbeats 1000000 in
theorem rletter_any (c : Nat) (w : World) :
    Calls Tryd.prog 39 #[.int .u8 (c : Int)] w fun e w' => e = .returned (.bool (Z.letter c)) ∧ w' = w := by
  by_cases h1 : (97 : Int) ≤ (c : Int)
  all_goals (by_cases h2 : (c : Int) ≤ 122)
  all_goals (by_cases h3 : (65 : Int) ≤ (c : Int))
  all_goals (by_cases h4 : (c : Int) ≤ 90)
  all_goals (have h5 : (((c : Int) == 95) = true ∧ c = 95) ∨ (((c : Int) == 95) = false ∧ c ≠ 95) := by (rcases Nat.decEq c 95 with h | h; exact .inr ⟨by rw [beq_eq_false_iff_ne]; omega, h⟩; exact .inl ⟨by rw [h]; rfl, h⟩))
  all_goals (rcases h5 with ⟨h5, h5'⟩ | ⟨h5, h5'⟩)
  all_goals (first | (exfalso; omega) | skip)
  all_goals (go_enter Tryd.func39, Tryd.ntmps39; go_wp2)
  all_goals go_ret
  all_goals (refine ⟨?_, rfl⟩; first | (rw [z_letter_yes (by omega)]; rfl) | (rw [z_letter_no (by omega)]; rfl))

set_option maxHeartbeats 1000000 in
theorem rhex_any (c : Nat) (hc : c < 256) (w : World) :
    Calls Tryd.prog 54 #[.int .u8 (c : Int)] w fun e w' => e = .returned (.int .i64 (Z.hexd c)) ∧ w' = w := by
  obtain ⟨x, hx⟩ : ∃ x, x = Z.hexd c := ⟨_, rfl⟩
  rw [← hx]
  unfold Z.hexd at hx
  cases hd : Z.digit c with
  | true =>
    rw [hd, if_pos rfl] at hx
    have HD := Lib.hid hd
    have hb : 48 ≤ c ∧ c ≤ 57 := by unfold Z.digit at hd; simpa using hd
    obtain ⟨b0, b1⟩ := hb
    have c0 : (48 : Int) ≤ (c : Int) := by omega
    have hm : ((c : Int) - 48) % 256 = (c : Int) - 48 := by omega
    have HX := Lib.hid hx
    clear hd hx
    go_enter Tryd.func54, Tryd.ntmps54
    go_wp2_with fail
    refine (rdigit_any c w).mono ?_
    rintro e w1 ⟨rfl, rfl⟩
    rw [HD.out]
    go_wp2_with fail
    go_ret
    exact ⟨by rw [HX.out]; rfl, rfl⟩
  | false =>
    rw [hd, if_neg (by decide)] at hx
    have HD := Lib.hid hd
    by_cases hb : 97 ≤ c ∧ c ≤ 102
    · rw [if_pos hb] at hx
      obtain ⟨b0, b1⟩ := hb
      have c0 : (97 : Int) ≤ (c : Int) := by omega
      have c1 : (c : Int) ≤ 102 := by omega
      have hm : ((c : Int) - 97) % 256 = (c : Int) - 97 := by omega
      have HX : Hid (x = (c : Int) - 97 + 10) := Lib.hid (by omega)
      clear hd hx
      go_enter Tryd.func54, Tryd.ntmps54
      go_wp2_with fail
      refine (rdigit_any c w).mono ?_
      rintro e w1 ⟨rfl, rfl⟩
      rw [HD.out]
      go_wp2_with fail
      go_ret
      exact ⟨by rw [HX.out]; rfl, rfl⟩
    · rw [if_neg hb] at hx
      subst hx
      have hcs : decide ((97 : Int) ≤ (c : Int)) = false ∨ (decide ((97 : Int) ≤ (c : Int)) = true ∧ decide ((c : Int) ≤ 102) = false) := by
        by_cases h : 97 ≤ c
        · exact .inr ⟨by simp; omega, by simp; omega⟩
        · exact .inl (by simp; omega)
      clear hd hb
      rcases hcs with h1 | ⟨h1, h2⟩
      all_goals (
        go_enter Tryd.func54, Tryd.ntmps54
        go_wp2_with fail
        refine (rdigit_any c w).mono ?_
        rintro e w1 ⟨rfl, rfl⟩
        rw [HD.out]
        go_wp2_with fail
        go_ret
        exact ⟨rfl, rfl⟩)

/-- What the reading of a number gives. -/
def IntEnds (r : Z.R) (e : Ending) : Prop := match r with
  | .ok _ _ v n => e = .returned (.tuple #[.int .i64 v, .int .i64 (n : Int), .int .i64 0])
  | .err er => e = .returned (.tuple #[.int .i64 0, .int .i64 0, .int .i64 er])

theorem span_step {s : ByteArray} {p : Nat → Bool} {j : Nat} (h : j < s.size) (hp : p (s[j]'h).toNat = true) : Z.spanN p (left s j) = Z.spanN p (left s (j + 1)) + 1 := by
  rw [left_cons h]; exact Z.spanN_yes hp
theorem span_stop {s : ByteArray} {p : Nat → Bool} {j : Nat} (h : j < s.size) (hp : p (s[j]'h).toNat = false) : Z.spanN p (left s j) = 0 := by
  rw [left_cons h]; exact Z.spanN_no hp
theorem span_over {s : ByteArray} {p : Nat → Bool} {j : Nat} (h : s.size ≤ j) : Z.spanN p (left s j) = 0 := by
  rw [left_nil h]; rfl
theorem left_zero (s : ByteArray) : left s 0 = s.data.toList := rfl
theorem val_take {l : List UInt8} {j : Nat} (h : j < l.length) : Q.val 0 (l.take (j + 1)) = 10 * Q.val 0 (l.take j) + ((l[j]).toNat - 48) := by
  rw [List.take_succ_eq_append_getElem h, Q.val_append, Q.val_cons, Q.val_nil, Q.stp_eq]; omega
theorem val_mono (l : List UInt8) {j n : Nat} (h : j ≤ n) : Q.val 0 (l.take j) ≤ Q.val 0 (l.take n) := by
  have e := List.take_append_drop j (l.take n)
  rw [List.take_take, Nat.min_eq_left h] at e
  rw [← e, Q.val_append]
  exact Q.val_ge _ _

set_option maxRecDepth 100000 in
set_option maxHeartbeats 4000000 in
theorem rnumber_any (s : ByteArray) (w : World) (h0 : 0 < s.size) (hs : s.size ≤ 100000) :
    Calls Tryd.prog 41 #[.string s] w fun e w' => IntEnds (Z.int s.data.toList) e ∧ w' = w := by
  obtain ⟨R, hR⟩ : ∃ R, R = Z.int s.data.toList := ⟨_, rfl⟩
  rw [← hR]
  unfold Z.int at hR
  have HR := Lib.hid hR
  clear hR
  go_enter Tryd.func41, Tryd.ntmps41
  go_wp2_with fail
  go_loop [5] (fun x => ∃ j : Nat, j ≤ s.size ∧ x = .int .i64 j ∧ Hid (Z.spanN Z.digit s.data.toList = j + Z.spanN Z.digit (left s j))) (fun x => s.size - (intOf x).toNat)
  case atStart => exact ⟨0, Nat.zero_le _, rfl, Lib.hid (by rw [left_zero]; omega)⟩
  case round =>
    obtain ⟨j, hj, rfl, HS⟩ := hrel
    -- the rounds
    by_cases hlt : j < s.size
    · have hc8 := (s[j]'hlt).toNat_lt
      have hstep := @span_step s Z.digit j hlt
      have hstop := @span_stop s Z.digit j hlt
      have hcl : Z.clsL (left s j) = Z.cls (s[j]'hlt).toNat := by rw [left_cons hlt]; rfl
      obtain ⟨ch, hch⟩ : ∃ ch, ch = (s[j]'hlt).toNat := ⟨_, rfl⟩
      have hsc : ((s[j]'hlt).toNat : Int) = (ch : Int) := by rw [hch]
      rw [← hch] at hstep hstop hcl
      have j0 : (0 : Int) ≤ (j : Int) := by omega
      have j1 : (j : Int) < (s.size : Int) := by omega
      have hji : decide ((j : Int) < (s.size : Int)) = true := by simp; omega
      cases hd : Z.digit ch with
      | true =>
        have HD := Lib.hid hd
        have HST := Lib.hid (hstep hd)
        clear hd hstep hstop hch hcl
        go_wp2_with fail
        refine (rdigit_any ch w).mono ?_
        rintro e w1 ⟨rfl, rfl⟩
        rw [HD.out]
        go_wp2_with fail
        go_round
        case rel => exact ⟨j + 1, hlt, by go_num, Lib.hid (by have := HS.out; rw [HST.out] at this; omega)⟩
        case measure => simp [intOf]; omega
      | false =>
        have HD := Lib.hid hd
        have HN : Hid (Z.spanN Z.digit s.data.toList = j) := Lib.hid (by have := HS.out; rw [hstop hd] at this; omega)
        have HCL := Lib.hid hcl
        clear hd hstep hstop hch hcl
        go_wp2_with fail
        refine (rdigit_any ch w).mono ?_
        rintro e w1 ⟨rfl, rfl⟩
        rw [HD.out]
        have hs0 : 0 < s.size := by omega
        obtain ⟨p0, hp0⟩ : ∃ p0, p0 = (s[0]'hs0).toNat := ⟨_, rfl⟩
        have hsp : ((s[0]'hs0).toNat : Int) = (p0 : Int) := by rw [hp0]
        have HP0 : Hid (0 < j → Z.peek s.data.toList = (p0 : Int)) := Lib.hid (fun _ => by rw [hp0, ← left_zero, peek_at hs0])
        clear hp0
        by_cases h48 : 1 < j ∧ p0 = 48
        · obtain ⟨h1, h2⟩ := h48
          have e1 : decide (1 < (j : Int)) = true := by simp; omega
          have e2 : ((p0 : Int) == 48) = true := by rw [h2]; rfl
          have HRE : Hid (R = .err 3) := Lib.hid (by have := HR.out; rw [HN.out, if_pos (.inl ⟨h1, by rw [HP0.out (by omega), h2]; rfl⟩)] at this; exact this)
          go_wp2_with fail
          go_ret3
          refine ⟨?_, rfl⟩
          rw [HRE.out]; rfl
        · have hA : (decide (1 < (j : Int)) = true ∧ ((p0 : Int) == 48) = false) ∨ decide (1 < (j : Int)) = false := by
            by_cases h1 : 1 < j
            · exact .inl ⟨by simp; omega, by rw [beq_eq_false_iff_ne]; intro e; exact h48 ⟨h1, by omega⟩⟩
            · exact .inr (by simp; omega)
          have HB := Lib.hid h48
          cases hl : Z.letter ch with
          | true =>
            have HLT := Lib.hid hl
            have HRE : Hid (R = .err 3) := Lib.hid (by have := HR.out; rw [HN.out, if_pos (.inr (by rw [show List.drop j s.data.toList = left s j from rfl, HCL.out]; exact Z.letter_cls.2 hl))] at this; exact this)
            clear hl h48
            rcases hA with ⟨hA1, hA2⟩ | hA1
            all_goals (
              go_wp2_with fail
              refine (rletter_any ch _).mono ?_
              rintro e w2 ⟨rfl, rfl⟩
              rw [HLT.out]
              go_wp2_with fail
              go_ret3
              refine ⟨?_, rfl⟩
              rw [HRE.out]; rfl)
          | false =>
            have HLT := Lib.hid hl
            have HNB : Hid (¬ ((1 < j ∧ Z.peek s.data.toList = 48) ∨ Z.clsL (s.data.toList.drop j) = 2)) := Lib.hid (by
              rintro (⟨h1, h2⟩ | h)
              · rw [HP0.out (by omega)] at h2; exact HB.out ⟨h1, by omega⟩
              · rw [show List.drop j s.data.toList = left s j from rfl, HCL.out] at h
                have := Z.letter_cls.1 h
                rw [hl] at this; cases this)
            clear hl h48
            rcases hA with ⟨hA1, hA2⟩ | hA1
            · go_wp2_with fail
              refine (rletter_any ch _).mono ?_
              rintro e w2 ⟨rfl, rfl⟩
              rw [HLT.out]
              go_wp2_with fail
              have HDG : Hid (Q.Digs (s.data.toList.take j)) := Lib.hid (by rw [← HN.out]; exact take_digs _)
              have HR2 : Hid (R = if Q.val 0 (s.data.toList.take j) ≤ 9223372036854775807 then .ok 3 [] (Q.val 0 (s.data.toList.take j) : Int) j else .err 14) := Lib.hid (by have := HR.out; rw [HN.out, if_neg HNB.out] at this; exact this)
              clear HR HNB
              go_loop [6, 7, 8] (fun x i _ => ∃ (q V : Nat), q ≤ j ∧ i = .int .i64 q ∧ x = .int .i64 V ∧ V ≤ 9223372036854775807 ∧ Hid (Q.val 0 (s.data.toList.take q) = V)) (fun _ i _ => j - (intOf i).toNat)
              case atStart => exact ⟨0, 0, Nat.zero_le _, rfl, rfl, by omega, Lib.hid rfl⟩
              case round =>
                obtain ⟨q, V, hq, rfl, rfl, hV, HV⟩ := hrel
                by_cases hlt2 : q < j
                · have hqs : q < s.size := by omega
                  have hql : q < s.data.toList.length := by rw [l7_len]; exact hqs
                  have hvt := val_take hql
                  rw [HV.out] at hvt
                  have hdg := HDG.out (s.data.toList[q]'hql) (by rw [← List.getElem_take (j := j) (h := by rw [List.length_take]; omega)]; exact List.getElem_mem _)
                  have hsq : (s.data.toList[q]'hql).toNat = (s[q]'hqs).toNat := rfl
                  rw [hsq] at hvt hdg
                  obtain ⟨ch, hch⟩ : ∃ ch, ch = (s[q]'hqs).toNat := ⟨_, rfl⟩
                  have hsc : ((s[q]'hqs).toNat : Int) = (ch : Int) := by rw [hch]
                  rw [← hch] at hvt hdg
                  obtain ⟨d, hd⟩ : ∃ d, d = ch - 48 := ⟨_, rfl⟩
                  have hd9 : d ≤ 9 := by omega
                  have hcd : (ch : Int) - 48 = (d : Int) := by omega
                  have hm : ((d : Int)) % 256 = (d : Int) := by omega
                  obtain ⟨y, hy⟩ : ∃ y, y = (9223372036854775807 - d) / 10 := ⟨_, rfl⟩
                  have hy1 : (9223372036854775807 - (d : Int)) / 10 = (y : Int) := by omega
                  have hc48 : (48 : Int) ≤ (ch : Int) := by omega
                  rw [← hd] at hvt
                  have q0 : (0 : Int) ≤ (q : Int) := by omega
                  have q1 : (q : Int) < (s.size : Int) := by omega
                  have hqi : decide ((q : Int) < (j : Int)) = true := by simp; omega
                  have HVT := Lib.hid hvt
                  by_cases hov : y < V
                  · have hoi : decide ((y : Int) < (V : Int)) = true := by simp; omega
                    have hbig : ¬ Q.val 0 (s.data.toList.take j) ≤ 9223372036854775807 := by
                      have := val_mono s.data.toList (show q + 1 ≤ j by omega)
                      omega
                    have HRE : Hid (R = .err 14) := Lib.hid (by rw [HR2.out, if_neg hbig])
                    clear hvt hdg hsq hch hd hy hbig hql
                    go_wp2_with fail
                    go_ret3
                    refine ⟨?_, rfl⟩
                    rw [HRE.out]; rfl
                  · have hoi : decide ((y : Int) < (V : Int)) = false := by simp; omega
                    have hnv : 10 * V + d ≤ 9223372036854775807 := by omega
                    clear hvt hdg hsq hch hd hy hql
                    go_wp2_with fail
                    go_round
                    case rel => exact ⟨q + 1, 10 * V + d, hlt2, by go_num, by go_num, hnv, Lib.hid HVT.out⟩
                    case measure => simp [intOf]; omega
                · obtain rfl : q = j := by omega
                  have hqi : decide ((q : Int) < (q : Int)) = false := by simp
                  have HRE : Hid (R = .ok 3 [] (V : Int) q) := Lib.hid (by rw [HR2.out, HV.out, if_pos hV])
                  go_wp2_with fail
                  go_ret3
                  refine ⟨?_, rfl⟩
                  rw [HRE.out]; rfl
            · go_wp2_with fail
              refine (rletter_any ch _).mono ?_
              rintro e w2 ⟨rfl, rfl⟩
              rw [HLT.out]
              go_wp2_with fail
              have HDG : Hid (Q.Digs (s.data.toList.take j)) := Lib.hid (by rw [← HN.out]; exact take_digs _)
              have HR2 : Hid (R = if Q.val 0 (s.data.toList.take j) ≤ 9223372036854775807 then .ok 3 [] (Q.val 0 (s.data.toList.take j) : Int) j else .err 14) := Lib.hid (by have := HR.out; rw [HN.out, if_neg HNB.out] at this; exact this)
              clear HR HNB
              go_loop [6, 7, 8] (fun x i _ => ∃ (q V : Nat), q ≤ j ∧ i = .int .i64 q ∧ x = .int .i64 V ∧ V ≤ 9223372036854775807 ∧ Hid (Q.val 0 (s.data.toList.take q) = V)) (fun _ i _ => j - (intOf i).toNat)
              case atStart => exact ⟨0, 0, Nat.zero_le _, rfl, rfl, by omega, Lib.hid rfl⟩
              case round =>
                obtain ⟨q, V, hq, rfl, rfl, hV, HV⟩ := hrel
                by_cases hlt2 : q < j
                · have hqs : q < s.size := by omega
                  have hql : q < s.data.toList.length := by rw [l7_len]; exact hqs
                  have hvt := val_take hql
                  rw [HV.out] at hvt
                  have hdg := HDG.out (s.data.toList[q]'hql) (by rw [← List.getElem_take (j := j) (h := by rw [List.length_take]; omega)]; exact List.getElem_mem _)
                  have hsq : (s.data.toList[q]'hql).toNat = (s[q]'hqs).toNat := rfl
                  rw [hsq] at hvt hdg
                  obtain ⟨ch, hch⟩ : ∃ ch, ch = (s[q]'hqs).toNat := ⟨_, rfl⟩
                  have hsc : ((s[q]'hqs).toNat : Int) = (ch : Int) := by rw [hch]
                  rw [← hch] at hvt hdg
                  obtain ⟨d, hd⟩ : ∃ d, d = ch - 48 := ⟨_, rfl⟩
                  have hd9 : d ≤ 9 := by omega
                  have hcd : (ch : Int) - 48 = (d : Int) := by omega
                  have hm : ((d : Int)) % 256 = (d : Int) := by omega
                  obtain ⟨y, hy⟩ : ∃ y, y = (9223372036854775807 - d) / 10 := ⟨_, rfl⟩
                  have hy1 : (9223372036854775807 - (d : Int)) / 10 = (y : Int) := by omega
                  have hc48 : (48 : Int) ≤ (ch : Int) := by omega
                  rw [← hd] at hvt
                  have q0 : (0 : Int) ≤ (q : Int) := by omega
                  have q1 : (q : Int) < (s.size : Int) := by omega
                  have hqi : decide ((q : Int) < (j : Int)) = true := by simp; omega
                  have HVT := Lib.hid hvt
                  by_cases hov : y < V
                  · have hoi : decide ((y : Int) < (V : Int)) = true := by simp; omega
                    have hbig : ¬ Q.val 0 (s.data.toList.take j) ≤ 9223372036854775807 := by
                      have := val_mono s.data.toList (show q + 1 ≤ j by omega)
                      omega
                    have HRE : Hid (R = .err 14) := Lib.hid (by rw [HR2.out, if_neg hbig])
                    clear hvt hdg hsq hch hd hy hbig hql
                    go_wp2_with fail
                    go_ret3
                    refine ⟨?_, rfl⟩
                    rw [HRE.out]; rfl
                  · have hoi : decide ((y : Int) < (V : Int)) = false := by simp; omega
                    have hnv : 10 * V + d ≤ 9223372036854775807 := by omega
                    clear hvt hdg hsq hch hd hy hql
                    go_wp2_with fail
                    go_round
                    case rel => exact ⟨q + 1, 10 * V + d, hlt2, by go_num, by go_num, hnv, Lib.hid HVT.out⟩
                    case measure => simp [intOf]; omega
                · obtain rfl : q = j := by omega
                  have hqi : decide ((q : Int) < (q : Int)) = false := by simp
                  have HRE : Hid (R = .ok 3 [] (V : Int) q) := Lib.hid (by rw [HR2.out, HV.out, if_pos hV])
                  go_wp2_with fail
                  go_ret3
                  refine ⟨?_, rfl⟩
                  rw [HRE.out]; rfl
    · obtain rfl : j = s.size := by omega
      obtain ⟨j, hjs⟩ : ∃ j, j = s.size := ⟨_, rfl⟩
      rw [← hjs] at HS ⊢
      have hji : decide ((j : Int) < (s.size : Int)) = false := by simp; omega
      have HN : Hid (Z.spanN Z.digit s.data.toList = j) := Lib.hid (by have := HS.out; rw [span_over (by omega)] at this; omega)
      have HJS := Lib.hid hjs
      have hjs1 : j ≤ s.size := by omega
      have hjs2 : s.size ≤ j := by omega
      clear hlt hj hjs
      by_cases hs0 : 0 < s.size
      · obtain ⟨p0, hp0⟩ : ∃ p0, p0 = (s[0]'hs0).toNat := ⟨_, rfl⟩
        have hsp : ((s[0]'hs0).toNat : Int) = (p0 : Int) := by rw [hp0]
        have HP0 : Hid (0 < j → Z.peek s.data.toList = (p0 : Int)) := Lib.hid (fun _ => by rw [hp0, ← left_zero, peek_at hs0])
        clear hp0
        by_cases h48 : 1 < j ∧ p0 = 48
        · obtain ⟨h1, h2⟩ := h48
          have e1 : decide (1 < (j : Int)) = true := by simp; omega
          have e2 : ((p0 : Int) == 48) = true := by rw [h2]; rfl
          have HRE : Hid (R = .err 3) := Lib.hid (by have := HR.out; rw [HN.out, if_pos (.inl ⟨h1, by rw [HP0.out (by omega), h2]; rfl⟩)] at this; exact this)
          go_wp2_with fail
          go_ret3
          refine ⟨?_, rfl⟩
          rw [HRE.out]; rfl
        · have hA : (decide (1 < (j : Int)) = true ∧ ((p0 : Int) == 48) = false) ∨ decide (1 < (j : Int)) = false := by
            by_cases h1 : 1 < j
            · exact .inl ⟨by simp; omega, by rw [beq_eq_false_iff_ne]; intro e; exact h48 ⟨h1, by omega⟩⟩
            · exact .inr (by simp; omega)
          have HB := Lib.hid h48
          have HNB : Hid (¬ ((1 < j ∧ Z.peek s.data.toList = 48) ∨ Z.clsL (s.data.toList.drop j) = 2)) := Lib.hid (by
            rintro (⟨h1, h2⟩ | h)
            · rw [HP0.out (by omega)] at h2; exact HB.out ⟨h1, by omega⟩
            · rw [show List.drop j s.data.toList = left s j from rfl, left_nil hjs2] at h
              exact absurd h (by decide))
          clear h48
          rcases hA with ⟨hA1, hA2⟩ | hA1
          · go_wp2_with fail
            have HDG : Hid (Q.Digs (s.data.toList.take j)) := Lib.hid (by rw [← HN.out]; exact take_digs _)
            have HR2 : Hid (R = if Q.val 0 (s.data.toList.take j) ≤ 9223372036854775807 then .ok 3 [] (Q.val 0 (s.data.toList.take j) : Int) j else .err 14) := Lib.hid (by have := HR.out; rw [HN.out, if_neg HNB.out] at this; exact this)
            clear HR HNB
            go_loop [6, 7, 8] (fun x i _ => ∃ (q V : Nat), q ≤ j ∧ i = .int .i64 q ∧ x = .int .i64 V ∧ V ≤ 9223372036854775807 ∧ Hid (Q.val 0 (s.data.toList.take q) = V)) (fun _ i _ => j - (intOf i).toNat)
            case atStart => exact ⟨0, 0, Nat.zero_le _, rfl, rfl, by omega, Lib.hid rfl⟩
            case round =>
              obtain ⟨q, V, hq, rfl, rfl, hV, HV⟩ := hrel
              by_cases hlt2 : q < j
              · have hqs : q < s.size := by omega
                have hql : q < s.data.toList.length := by rw [l7_len]; exact hqs
                have hvt := val_take hql
                rw [HV.out] at hvt
                have hdg := HDG.out (s.data.toList[q]'hql) (by rw [← List.getElem_take (j := j) (h := by rw [List.length_take]; omega)]; exact List.getElem_mem _)
                have hsq : (s.data.toList[q]'hql).toNat = (s[q]'hqs).toNat := rfl
                rw [hsq] at hvt hdg
                obtain ⟨ch, hch⟩ : ∃ ch, ch = (s[q]'hqs).toNat := ⟨_, rfl⟩
                have hsc : ((s[q]'hqs).toNat : Int) = (ch : Int) := by rw [hch]
                rw [← hch] at hvt hdg
                obtain ⟨d, hd⟩ : ∃ d, d = ch - 48 := ⟨_, rfl⟩
                have hd9 : d ≤ 9 := by omega
                have hcd : (ch : Int) - 48 = (d : Int) := by omega
                have hm : ((d : Int)) % 256 = (d : Int) := by omega
                obtain ⟨y, hy⟩ : ∃ y, y = (9223372036854775807 - d) / 10 := ⟨_, rfl⟩
                have hy1 : (9223372036854775807 - (d : Int)) / 10 = (y : Int) := by omega
                have hc48 : (48 : Int) ≤ (ch : Int) := by omega
                rw [← hd] at hvt
                have q0 : (0 : Int) ≤ (q : Int) := by omega
                have q1 : (q : Int) < (s.size : Int) := by omega
                have hqi : decide ((q : Int) < (j : Int)) = true := by simp; omega
                have HVT := Lib.hid hvt
                by_cases hov : y < V
                · have hoi : decide ((y : Int) < (V : Int)) = true := by simp; omega
                  have hbig : ¬ Q.val 0 (s.data.toList.take j) ≤ 9223372036854775807 := by
                    have := val_mono s.data.toList (show q + 1 ≤ j by omega)
                    omega
                  have HRE : Hid (R = .err 14) := Lib.hid (by rw [HR2.out, if_neg hbig])
                  clear hvt hdg hsq hch hd hy hbig hql
                  go_wp2_with fail
                  go_ret3
                  refine ⟨?_, rfl⟩
                  rw [HRE.out]; rfl
                · have hoi : decide ((y : Int) < (V : Int)) = false := by simp; omega
                  have hnv : 10 * V + d ≤ 9223372036854775807 := by omega
                  clear hvt hdg hsq hch hd hy hql
                  go_wp2_with fail
                  go_round
                  case rel => exact ⟨q + 1, 10 * V + d, hlt2, by go_num, by go_num, hnv, Lib.hid HVT.out⟩
                  case measure => simp [intOf]; omega
              · obtain rfl : q = j := by omega
                have hqi : decide ((q : Int) < (q : Int)) = false := by simp
                have HRE : Hid (R = .ok 3 [] (V : Int) q) := Lib.hid (by rw [HR2.out, HV.out, if_pos hV])
                go_wp2_with fail
                go_ret3
                refine ⟨?_, rfl⟩
                rw [HRE.out]; rfl
          · go_wp2_with fail
            have HDG : Hid (Q.Digs (s.data.toList.take j)) := Lib.hid (by rw [← HN.out]; exact take_digs _)
            have HR2 : Hid (R = if Q.val 0 (s.data.toList.take j) ≤ 9223372036854775807 then .ok 3 [] (Q.val 0 (s.data.toList.take j) : Int) j else .err 14) := Lib.hid (by have := HR.out; rw [HN.out, if_neg HNB.out] at this; exact this)
            clear HR HNB
            go_loop [6, 7, 8] (fun x i _ => ∃ (q V : Nat), q ≤ j ∧ i = .int .i64 q ∧ x = .int .i64 V ∧ V ≤ 9223372036854775807 ∧ Hid (Q.val 0 (s.data.toList.take q) = V)) (fun _ i _ => j - (intOf i).toNat)
            case atStart => exact ⟨0, 0, Nat.zero_le _, rfl, rfl, by omega, Lib.hid rfl⟩
            case round =>
              obtain ⟨q, V, hq, rfl, rfl, hV, HV⟩ := hrel
              by_cases hlt2 : q < j
              · have hqs : q < s.size := by omega
                have hql : q < s.data.toList.length := by rw [l7_len]; exact hqs
                have hvt := val_take hql
                rw [HV.out] at hvt
                have hdg := HDG.out (s.data.toList[q]'hql) (by rw [← List.getElem_take (j := j) (h := by rw [List.length_take]; omega)]; exact List.getElem_mem _)
                have hsq : (s.data.toList[q]'hql).toNat = (s[q]'hqs).toNat := rfl
                rw [hsq] at hvt hdg
                obtain ⟨ch, hch⟩ : ∃ ch, ch = (s[q]'hqs).toNat := ⟨_, rfl⟩
                have hsc : ((s[q]'hqs).toNat : Int) = (ch : Int) := by rw [hch]
                rw [← hch] at hvt hdg
                obtain ⟨d, hd⟩ : ∃ d, d = ch - 48 := ⟨_, rfl⟩
                have hd9 : d ≤ 9 := by omega
                have hcd : (ch : Int) - 48 = (d : Int) := by omega
                have hm : ((d : Int)) % 256 = (d : Int) := by omega
                obtain ⟨y, hy⟩ : ∃ y, y = (9223372036854775807 - d) / 10 := ⟨_, rfl⟩
                have hy1 : (9223372036854775807 - (d : Int)) / 10 = (y : Int) := by omega
                have hc48 : (48 : Int) ≤ (ch : Int) := by omega
                rw [← hd] at hvt
                have q0 : (0 : Int) ≤ (q : Int) := by omega
                have q1 : (q : Int) < (s.size : Int) := by omega
                have hqi : decide ((q : Int) < (j : Int)) = true := by simp; omega
                have HVT := Lib.hid hvt
                by_cases hov : y < V
                · have hoi : decide ((y : Int) < (V : Int)) = true := by simp; omega
                  have hbig : ¬ Q.val 0 (s.data.toList.take j) ≤ 9223372036854775807 := by
                    have := val_mono s.data.toList (show q + 1 ≤ j by omega)
                    omega
                  have HRE : Hid (R = .err 14) := Lib.hid (by rw [HR2.out, if_neg hbig])
                  clear hvt hdg hsq hch hd hy hbig hql
                  go_wp2_with fail
                  go_ret3
                  refine ⟨?_, rfl⟩
                  rw [HRE.out]; rfl
                · have hoi : decide ((y : Int) < (V : Int)) = false := by simp; omega
                  have hnv : 10 * V + d ≤ 9223372036854775807 := by omega
                  clear hvt hdg hsq hch hd hy hql
                  go_wp2_with fail
                  go_round
                  case rel => exact ⟨q + 1, 10 * V + d, hlt2, by go_num, by go_num, hnv, Lib.hid HVT.out⟩
                  case measure => simp [intOf]; omega
              · obtain rfl : q = j := by omega
                have hqi : decide ((q : Int) < (q : Int)) = false := by simp
                have HRE : Hid (R = .ok 3 [] (V : Int) q) := Lib.hid (by rw [HR2.out, HV.out, if_pos hV])
                go_wp2_with fail
                go_ret3
                refine ⟨?_, rfl⟩
                rw [HRE.out]; rfl
      · omega
end Go.Proofs.YtffolfnaalijnaaDoor
