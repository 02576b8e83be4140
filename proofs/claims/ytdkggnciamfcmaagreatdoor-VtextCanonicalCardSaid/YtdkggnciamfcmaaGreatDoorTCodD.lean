/-
  Layer 3: the code's parser: the first byte of a value, words.
-/
import Derived.Test.YtdkggnciamfcmaaGreatDoorTCodC
import Derived.Deep.RegionHeld3
namespace Go.Proofs.YtdkggnciamfcmaaGreatDoor
set_option linter.unusedVariables false
open Go.RowKit
open M (V Res)

theorem startS_any (c : Nat) (w : World) (hc : c < 256) :
    Calls Tryz.prog 72 #[.string ⟨#[110, 116, 102, 34, 91, 123, 45, 48, 49, 50, 51, 52, 53, 54, 55, 56, 57]⟩, .int .u8 (c : Int)] w fun e w' => e = .returned (.int .i64 (Lib.indexByte [110, 116, 102, 34, 91, 123, 45, 48, 49, 50, 51, 52, 53, 54, 55, 56, 57] (UInt8.ofNat c))) ∧ w' = w :=
  index_any _ c w hc

set_option maxRecDepth 100000 in
set_option maxHeartbeats 2000000 in
theorem bgn_any {w : World} {g i b : Nat} {s : ByteArray} (depth : Nat) (h : Prs w g s i b) (hd : depth ≤ 100) :
    Calls Tryz.prog 43 #[.pointer (some ⟨g, 0, none⟩), .int .i64 (depth : Int)] w (Ends g s isByte (M.bgn s depth i b) w) := by
  obtain ⟨r, hr⟩ : ∃ r, r = M.bgn s depth i b := ⟨_, rfl⟩
  rw [← hr]
  have HR := Lib.hid hr
  clear hr
  go_enter Tryz.func43, Tryz.ntmps43
  go_wp2_with fail
  refine (vis_any h).mono ?_
  rintro e w1 ⟨hg1, hm⟩
  obtain ⟨q, hq⟩ : ∃ q, q = M.vis s i b := ⟨_, rfl⟩
  rw [← hq] at hm
  have HR2 : Hid (r = q.then fun c j b => if M.starts c = false then .no (j - 1) 3 else if 16 < depth then .no (j - 1) 7 else if b = 1000 then .no (j - 1) 6 else .ok c j (b + 1)) := Lib.hid (by rw [HR.out, hq]; rfl)
  cases q with
  | no k er =>
    subst hm
    exact ⟨rfl, Ends.fault hg1 (by rw [HR2.out]; rfl)⟩
  | ok c j b' =>
    obtain ⟨v, rfl, hP, rfl⟩ := hm
    obtain ⟨q1, q2, q3, q4⟩ := M.vis_inv hq
    have hj0 : 0 < j := by omega
    have hc : c < 256 := by rw [q2]; exact M.ch_lt s _
    obtain ⟨c0, c1, c2, f1, f2⟩ := hP.cells
    have hjs : j ≤ s.size := hP.le
    have hfit := hP.fit
    have hb' := hP.cnt
    obtain ⟨k, hk⟩ : ∃ k, k = j - 1 := ⟨_, rfl⟩
    have hki : (j : Int) - 1 = (k : Int) := by omega
    have HP := Lib.hid hP; have HG := Lib.hid hg1; have HK := Lib.hid hk
    have HR3 : Hid (r = if M.starts c = false then .no (j - 1) 3 else if 16 < depth then .no k 7 else if b' = 1000 then .no k 6 else .ok c j (b' + 1)) := Lib.hid (by rw [HR2.out, hk]; rfl)
    clear hP hg1 hq q1 q2 q3 q4 h hk HR2
    go_wp2_with fail
    refine (startS_any c w1 hc).mono ?_
    rintro e w1 ⟨rfl, rfl⟩
    obtain ⟨N, hN⟩ : ∃ N, N = Lib.indexByte [110, 116, 102, 34, 91, 123, 45, 48, 49, 50, 51, 52, 53, 54, 55, 56, 57] (UInt8.ofNat c) := ⟨_, rfl⟩
    rw [← hN]
    cases hs : M.starts c with
    | false =>
      have hneg := M.starts_index_no hc hs
      rw [← hN] at hneg
      have HS := Lib.hid hs
      clear hN hs
      go_wp2_with fail
      refine (reject_any HP.out hj0).mono ?_
      rintro e w2 ⟨rfl, rfl⟩
      exact ⟨rfl, Ends.fault HG.out (by rw [HR3.out, if_pos HS.out])⟩
    | true =>
      have hneg := M.starts_index_yes hc hs
      rw [← hN] at hneg
      have HR4 : Hid (r = if 16 < depth then .no k 7 else if b' = 1000 then .no k 6 else .ok c j (b' + 1)) := Lib.hid (by rw [HR3.out, if_neg (by rw [hs]; decide)])
      clear hN hs HR3
      by_cases hdp : 16 < depth
      · have HDP := Lib.hid hdp
        go_wp2_with fail
        refine (fail_any _ _ _).mono ?_
        rintro e w2 ⟨rfl, rfl⟩
        exact ⟨rfl, Ends.fault HG.out (by rw [HR4.out, if_pos HDP.out])⟩
      · have HR5 : Hid (r = if b' = 1000 then .no k 6 else .ok c j (b' + 1)) := Lib.hid (by rw [HR4.out, if_neg hdp])
        clear HR4
        by_cases hbb : b' = 1000
        · subst hbb
          go_wp2_with fail
          refine (fail_any _ _ _).mono ?_
          rintro e w2 ⟨rfl, rfl⟩
          exact ⟨rfl, Ends.fault HG.out (by rw [HR5.out]; rfl)⟩
        · have hbe : ((b' : Int) == 1000) = false := by rw [beq_eq_false_iff_ne]; omega
          have HR6 : Hid (r = .ok c j (b' + 1)) := Lib.hid (by rw [HR5.out, if_neg hbb])
          have hP2 : Prs (w1.setCell ⟨g, 2, none⟩ (.int .i64 ((b' : Int) + 1))) g s j (b' + 1) := HP.out.more (c := b' + 1) (by omega)
          have HP2 := Lib.hid hP2
          clear hbb HR5 hP2
          go_wp2_with fail
          go_ret
          exact Ends.good (HG.out.trans (grown_set _ _ _ _)) HP2.out rfl HR6.out

theorem word_step {s x : ByteArray} {k i b : Nat} (h : k < x.size) : M.word s (x.data.toList.drop k) i b = (M.take s i b).then fun d j b => (M.want (M.ch x k) d j b).then fun _ j b => M.word s (x.data.toList.drop (k + 1)) j b := by
  have hl : k < x.data.toList.length := by simpa using h
  rw [List.drop_eq_getElem_cons hl, M.word]
  have : x.data.toList[k].toNat = M.ch x k := by unfold M.ch; rw [List.getD, List.getElem?_eq_getElem hl]; rfl
  rw [this]

set_option maxRecDepth 100000 in
set_option maxHeartbeats 4000000 in
theorem rest_any {w : World} {g i b : Nat} {s : ByteArray} (x : ByteArray) (h : Prs w g s i b) (hx : x.size ≤ 100) :
    Calls Tryz.prog 44 #[.pointer (some ⟨g, 0, none⟩), .string x] w (Ends g s isUnit (M.word s x.data.toList i b) w) := by
  obtain ⟨r, hr⟩ : ∃ r, r = M.word s x.data.toList i b := ⟨_, rfl⟩
  rw [← hr]
  have HR := Lib.hid hr
  have HP0 := Lib.hid h
  clear hr h
  go_enter Tryz.func44, Tryz.ntmps44
  go_wp2_with fail
  go_loopw [7] (fun kv wr => ∃ (k j bj : Nat), kv = .int .i64 (k : Int) ∧ k ≤ x.size ∧ Hid (Prs wr g s j bj) ∧ Hid (w.grownBy wr (some g)) ∧ Hid (M.word s (x.data.toList.drop k) j bj = r)) (fun kv _ => x.size - (intOf kv).toNat)
  case atStart => exact ⟨0, i, b, rfl, Nat.zero_le _, HP0, Lib.hid (grown_refl _ _), Lib.hid HR.out.symm⟩
  case round =>
    clear HP0 HR
    obtain ⟨k, j, bj, rfl, hk, HP, HG, HL⟩ := hrel
    by_cases hlt : k < x.size
    · have hch := M.ch_at hlt
      have i0 : (0 : Int) ≤ (k : Int) := by omega
      have i1 : (k : Int) < (x.size : Int) := by omega
      have HL2 : Hid (r = (M.take s j bj).then fun d j b => (M.want (M.ch x k) d j b).then fun _ j b => M.word s (x.data.toList.drop (k + 1)) j b) := Lib.hid (by rw [← HL.out]; exact word_step hlt)
      clear HL
      go_wp2_with fail
      go_region_with
        (first
          | (go_at_call 75
             refine (take_any (show Prs wr.drew g s j bj from HP.out.kept rfl)).mono ?_
             rintro e w2 ⟨hg2, hm⟩
             obtain ⟨q, hq⟩ : ∃ q, q = M.take s j bj := ⟨_, rfl⟩
             rw [← hq] at hm HL2
             have HG2 : Hid (w.grownBy w2 (some g)) := Lib.hid ((HG.out.trans (grown_drewN wr 1 _)).trans hg2)
             rcases q with ⟨d, j2, b2⟩ | ⟨kk, er⟩
             rotate_left
             · subst hm
               exact ⟨rfl, Ends.fault HG2.out HL2.out⟩
             obtain ⟨v, rfl, hP2, rfl⟩ := hm
             have hj2 : 0 < j2 := by have := (M.take_inv hq).2.2.1; omega
             have HP2 := Lib.hid hP2
             have HL3 : Hid (r = (M.want (M.ch x k) d j2 b2).then fun _ j b => M.word s (x.data.toList.drop (k + 1)) j b) := Lib.hid HL2.out
             clear hq hP2 hg2)
          | (go_at_call 74
             refine (want_any _ d HP2.out hj2).mono ?_
             rintro e w3 ⟨hg3, hm⟩
             obtain ⟨q, hq⟩ : ∃ q, q = M.want (M.ch x k) d j2 b2 := ⟨_, rfl⟩
             rw [← hq] at hm HL3
             have HG3 : Hid (w.grownBy w3 (some g)) := Lib.hid (HG2.out.trans hg3)
             rcases q with ⟨u, j3, b3⟩ | ⟨kk, er⟩
             rotate_left
             · subst hm
               exact ⟨rfl, Ends.fault HG3.out HL3.out⟩
             obtain ⟨v, rfl, hP3, rfl⟩ := hm
             have HP3 := Lib.hid hP3
             have HL4 : Hid (M.word s (x.data.toList.drop (k + 1)) j3 b3 = r) := Lib.hid HL3.out.symm
             clear hq hP3 hg3))
      all_goals go_wp2_with fail
      all_goals exact ⟨⟨k + 1, j3, b3, by go_num, by omega, HP3, HG3, HL4⟩, by simp [intOf]; omega⟩
    · have HL2 : Hid (r = .ok () j bj) := Lib.hid (by rw [← HL.out, List.drop_eq_nil_of_le (by rw [Array.length_toList]; exact Nat.le_of_not_lt hlt)]; rfl)
      go_wp2_with fail
      go_end0
      exact Ends.good HG.out HP.out rfl HL2.out
end Go.Proofs.YtdkggnciamfcmaaGreatDoor
