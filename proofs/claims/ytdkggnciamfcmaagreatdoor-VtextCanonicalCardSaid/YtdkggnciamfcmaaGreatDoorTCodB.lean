/-
  Layer 3: the code's parser: what must stand there, escapes, the bytes of a literal.
-/
import Derived.Test.YtdkggnciamfcmaaGreatDoorTCodA
import Derived.Laws.StandIn
import Derived.Lib.Bytealg
namespace Go.Proofs.YtdkggnciamfcmaaGreatDoor
set_option linter.unusedVariables false
open Go.RowKit
open M (V Res)

set_option maxHeartbeats 400000 in
theorem index_any (s : ByteArray) (c : Nat) (w : World) (hc : c < 256) :
    Calls Tryz.prog 72 #[.string s, .int .u8 (c : Int)] w fun e w' => e = .returned (.int .i64 (Lib.indexByte s.data.toList (UInt8.ofNat c))) ∧ w' = w := by
  have hk : ∀ w : World, (callFunc 112 #[.string s, .int .u8 (c : Int)]).run Tryz.prog w = .ok (.value (.int .i64 (Lib.indexByte s.data.toList (UInt8.ofNat c)))) w := fun w => by
    have h := Lib.run_indexByteString (P := Tryz.prog) s (c : Int) w
    rw [run_callFunc_indexByte Tryz.func112 (by kernel_rfl) (by kernel_rfl) (by kernel_rfl) (by kernel_rfl)]
    rw [h]
    rfl
  go_enter Tryz.func72, Tryz.ntmps72
  go_wp2
  go_ret
  exact ⟨rfl, rfl⟩

set_option maxHeartbeats 400000 in
theorem plain_any (c : Nat) (w : World) :
    Calls Tryz.prog 70 #[.int .u8 (c : Int)] w fun e w' => e = .returned (.bool (M.plain c)) ∧ w' = w := by
  by_cases h2 : (c : Int) ≤ 126
  all_goals (go_enter Tryz.func70, Tryz.ntmps70; go_wp2)
  all_goals go_ret
  all_goals (refine ⟨?_, rfl⟩; first | (rw [M.plain_yes (by omega)]; rfl) | (rw [M.plain_no (by omega)]; rfl))
set_option maxHeartbeats 400000 in
theorem digit_any (c : Nat) (w : World) :
    Calls Tryz.prog 83 #[.int .u8 (c : Int)] w fun e w' => e = .returned (.bool (M.digit c)) ∧ w' = w := by
  by_cases h2 : (c : Int) ≤ 57
  all_goals (go_enter Tryz.func83, Tryz.ntmps83; go_wp2)
  all_goals go_ret
  all_goals (refine ⟨?_, rfl⟩; first | (rw [M.digit_yes (by omega)]; rfl) | (rw [M.digit_no (by omega)]; rfl))

set_option maxHeartbeats 400000 in
theorem want_any {w : World} {g i b : Nat} {s : ByteArray} (x c : Nat) (h : Prs w g s i b) (h1 : 0 < i) :
    Calls Tryz.prog 74 #[.pointer (some ⟨g, 0, none⟩), .int .u8 (x : Int), .int .u8 (c : Int)] w (Ends g s isUnit (M.want x c i b) w) := by
  unfold M.want
  by_cases hc : c = x
  · subst hc
    rw [if_pos rfl]
    go_enter Tryz.func74, Tryz.ntmps74
    go_wp2_with fail
    go_end0
    exact ⟨grown_refl _ _, _, rfl, h, rfl⟩
  · rw [if_neg hc]
    have hb : ((c : Int) != (x : Int)) = true := by rw [bne_iff_ne]; omega
    have hb2 : ((c : Int) == (x : Int)) = false := by rw [beq_eq_false_iff_ne]; omega
    clear hc
    go_enter Tryz.func74, Tryz.ntmps74
    go_wp2_with fail
    refine (reject_any h h1).mono ?_
    rintro e w1 ⟨rfl, rfl⟩
    exact ⟨rfl, grown_refl _ _, rfl⟩

/-- A call whose fault is the caller's. -/
theorem Ends.fault {α : Type} {g : Nat} {s : ByteArray} {R : α → Value → World → Prop} {r : Res α} {w w' : World} {k : Nat} {er : Int} (hg : w.grownBy w' (some g)) (hr : r = .no k er) :
    Ends g s R r w (.panicked [{ v := faultV k er, recovered := false }]) w' := ⟨hg, by rw [hr]⟩
theorem Ends.good {α : Type} {g i b : Nat} {s : ByteArray} {R : α → Value → World → Prop} {r : Res α} {a : α} {w w' : World} {v : Value} (hg : w.grownBy w' (some g)) (hp : Prs w' g s i b) (hv : R a v w') (hr : r = .ok a i b) :
    Ends g s R r w (.returned v) w' := ⟨hg, by rw [hr]; exact ⟨v, rfl, hp, hv⟩⟩

set_option maxHeartbeats 1000000 in
theorem first_any {w : World} {g i b : Nat} {s : ByteArray} (cl : Nat) (h : Prs w g s i b) :
    Calls Tryz.prog 78 #[.pointer (some ⟨g, 0, none⟩), .int .u8 (cl : Int)] w (Ends g s isBool (M.first s cl i b) w) := by
  obtain ⟨r, hr⟩ : ∃ r, r = M.first s cl i b := ⟨_, rfl⟩
  rw [← hr]
  have HR := Lib.hid hr
  clear hr
  go_enter Tryz.func78, Tryz.ntmps78
  go_wp2_with fail
  refine (vis_any h).mono ?_
  rintro e w1 ⟨hg1, hm⟩
  obtain ⟨q, hq⟩ : ∃ q, q = M.vis s i b := ⟨_, rfl⟩
  rw [← hq] at hm
  have HR2 : Hid (r = q.then fun c j b => if c = cl then .ok false j b else .ok true (j - 1) b) := Lib.hid (by rw [HR.out, hq]; rfl)
  cases q with
  | no k er =>
    subst hm
    exact ⟨rfl, Ends.fault hg1 (by rw [HR2.out]; rfl)⟩
  | ok c j b' =>
    obtain ⟨v, rfl, hP, rfl⟩ := hm
    obtain ⟨q1, q2, q3, q4⟩ := M.vis_inv hq
    have hP' := hP
    obtain ⟨c0, c1, c2, f1, f2⟩ := hP.cells
    have hj : j ≤ s.size := hP.le
    have hfit := hP.fit
    obtain ⟨k, hk⟩ : ∃ k, k = j - 1 := ⟨_, rfl⟩
    have hki : (j : Int) - 1 = (k : Int) := by omega
    have HP := Lib.hid hP; have HG := Lib.hid hg1; have HK := Lib.hid hk
    have hjs : k ≤ s.size := by omega
    clear hP hP' hg1 hq q1 q2 q3 q4 hk h
    by_cases hc : c = cl
    · subst hc
      go_wp2_with fail
      go_ret
      exact Ends.good HG.out HP.out rfl (by rw [HR2.out]; show (if c = c then _ else _) = _; rw [if_pos rfl])
    · have hb2 : ((c : Int) == (cl : Int)) = false := by rw [beq_eq_false_iff_ne]; omega
      have HC := Lib.hid hc
      clear hc
      go_wp2_with fail
      go_ret
      exact Ends.good (HG.out.trans (grown_set _ _ _ _)) (HP.out.step hjs) rfl (by rw [HR2.out, HK.out]; show (if c = cl then _ else _) = _; rw [if_neg HC.out])

set_option maxHeartbeats 1000000 in
theorem next_any {w : World} {g i b : Nat} {s : ByteArray} (cl : Nat) (h : Prs w g s i b) :
    Calls Tryz.prog 79 #[.pointer (some ⟨g, 0, none⟩), .int .u8 (cl : Int)] w (Ends g s isBool (M.next s cl i b) w) := by
  obtain ⟨r, hr⟩ : ∃ r, r = M.next s cl i b := ⟨_, rfl⟩
  rw [← hr]
  have HR := Lib.hid hr
  clear hr
  go_enter Tryz.func79, Tryz.ntmps79
  go_wp2_with fail
  refine (vis_any h).mono ?_
  rintro e w1 ⟨hg1, hm⟩
  obtain ⟨q, hq⟩ : ∃ q, q = M.vis s i b := ⟨_, rfl⟩
  rw [← hq] at hm
  have HR2 : Hid (r = q.then fun c j b => if c = 44 then .ok true j b else if c = cl then .ok false j b else .no (j - 1) 3) := Lib.hid (by rw [HR.out, hq]; rfl)
  cases q with
  | no k er =>
    subst hm
    exact ⟨rfl, Ends.fault hg1 (by rw [HR2.out]; rfl)⟩
  | ok c j b' =>
    obtain ⟨v, rfl, hP, rfl⟩ := hm
    obtain ⟨q1, q2, q3, q4⟩ := M.vis_inv hq
    have hj0 : 0 < j := by omega
    have HP := Lib.hid hP; have HG := Lib.hid hg1
    clear hP hg1 hq q1 q2 q3 q4 h
    by_cases hc : c = 44
    · subst hc
      go_wp2_with fail
      go_ret
      exact Ends.good HG.out HP.out rfl (by rw [HR2.out]; rfl)
    · have hb2 : ((c : Int) == 44) = false := by rw [beq_eq_false_iff_ne]; omega
      have HC := Lib.hid hc
      clear hc
      go_wp2_with fail
      refine (want_any cl c HP.out hj0).mono ?_
      rintro e w2 ⟨hg2, hm⟩
      have hgg := HG.out.trans hg2
      unfold M.want at hm
      by_cases hd : c = cl
      · subst hd
        rw [if_pos rfl] at hm
        obtain ⟨v, rfl, hP2, rfl⟩ := hm
        have HP2 := Lib.hid hP2; have HGG := Lib.hid hgg
        clear hP2 hgg hg2
        go_wp2_with fail
        go_ret
        exact Ends.good HGG.out HP2.out rfl (by rw [HR2.out]; show (if c = 44 then _ else _) = _; rw [if_neg HC.out, if_pos rfl])
      · rw [if_neg hd] at hm
        subst hm
        exact ⟨rfl, Ends.fault hgg (by rw [HR2.out]; show (if c = 44 then _ else _) = _; rw [if_neg HC.out, if_neg hd])⟩
end Go.Proofs.YtdkggnciamfcmaaGreatDoor
