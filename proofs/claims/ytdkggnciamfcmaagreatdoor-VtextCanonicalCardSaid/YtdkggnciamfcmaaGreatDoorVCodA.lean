/-
  Layer 2: the code's ascending, usesItsFields.
-/
import Derived.Test.YtdkggnciamfcmaaGreatDoorVRefB
import Derived.Test.YtdkggnciamfcmaaGreatDoorVal3
namespace Go.Proofs.YtdkggnciamfcmaaGreatDoor
set_option linter.unusedVariables false
open Go.RowKit
open M (V)

set_option maxRecDepth 100000 in
set_option maxHeartbeats 1000000 in
theorem ascending_any {A : Option Addr} {n c lo hi : Nat} {l : List ByteArray} {w : World} (h : KS w lo hi A n c l) (hhi : hi ≤ w.heap.size) :
    Calls Tryz.prog 92 #[.slice A n c] w fun e w' => e = .returned (.bool (M.rise l)) ∧ Below w.heap.size w w' := by
  have hcap := h.cap
  have hmost := h.most
  have HL := Lib.hid h.len
  have HK := Lib.hid h
  clear h
  go_enter Tryz.func92, Tryz.ntmps92
  go_wp2_with fail
  go_loopw [3] (fun y wr => ∃ (j : Nat), y = .int .i64 ((j : Int) + 1) ∧ j ≤ n ∧ Hid (∀ i, i < j → i + 1 < n → Go.Op.bytesLess (l.getD i ByteArray.empty).toList (l.getD (i + 1) ByteArray.empty).toList = true) ∧ Below w.heap.size w wr) (fun y _ => n - (intOf y).toNat)
  case atStart => exact ⟨0, rfl, by omega, Lib.hid (fun i h _ => absurd h (by omega)), Below.refl _ _⟩
  case round =>
    obtain ⟨i, rfl, hj, HN, hb⟩ := hrel
    by_cases hlt : i + 1 < n
    · obtain ⟨b, off, rfl, c0⟩ := HK.out.item hb hhi (j := i) (by omega)
      obtain ⟨b', off', e, c1⟩ := HK.out.item hb hhi (j := i + 1) hlt
      simp only [Option.some.injEq, Addr.mk.injEq] at e
      obtain ⟨rfl, rfl, _⟩ := e
      have hlt2 : ((i : Int) + 1) < (n : Int) := by omega
      have hw1 : IntKind.i64.wrap ((i : Int) + 1 - 1) = (i : Int) := by rw [IntWalk.i64_in _ (by omega)]; omega
      have ht : ((i : Int) + 1).toNat = i + 1 := by omega
      generalize hx : l.getD i ByteArray.empty = x at *
      generalize hy : l.getD (i + 1) ByteArray.empty = y at *
      have HX := Lib.hid hx; have HY := Lib.hid hy
      clear hx hy
      cases hq : Go.Op.bytesLess x.toList y.toList with
      | true =>
        have hq2 : (Go.Op.bytesLess y.toList x.toList || y.toList == x.toList) = false := M.less_flip hq
        go_wp2_with fail
        go_quiet (fail)
        go_wp2_with fail
        refine ⟨⟨i + 1, by go_num, by omega, Lib.hid (fun q h1 h2 => ?_), hb.trans ⟨rfl, rfl, rfl, Nat.le_refl _, fun _ _ => rfl⟩⟩, by simp [intOf]; omega⟩
        rcases Nat.lt_or_ge q i with h | h
        · exact HN.out q h h2
        · obtain rfl : q = i := by omega
          rw [HX.out, HY.out]; exact hq
      | false =>
        have hq2 : (Go.Op.bytesLess y.toList x.toList || y.toList == x.toList) = true := M.less_flip_no hq
        go_wp2_with fail
        go_quiet (fail)
        go_wp2_with fail
        go_ret
        exact ⟨ret_bool (M.rise_no (i := i) (by rw [HL.out]; exact hlt) (by rw [HX.out, HY.out]; exact hq)).symm, hb.trans ⟨rfl, rfl, rfl, Nat.le_refl _, fun _ _ => rfl⟩⟩
    · go_wp2_with fail
      go_ret
      exact ⟨ret_bool (M.rise_yes fun i h => HN.out i (by rw [HL.out] at h; omega) (by rw [HL.out] at h; exact h)).symm, hb⟩


theorem VB.cells {w : World} {lo hi d : Nat} {k i : Int} {s : ByteArray} {x y : Value} {t : V} (h : VB w lo hi d (.agg #[.int .i64 k, .int .i64 i, .string s, x, y]) t) : ∃ A n c B m e, x = .slice A n c ∧ y = .slice B m e := by
  match d, h with
  | 0, h => exact h.elim
  | d + 1, ⟨A, n, c, B, m, e, hv, _⟩ =>
    simp only [Value.agg.injEq, Array.mk.injEq, List.cons.injEq, and_true] at hv
    exact ⟨A, n, c, B, m, e, hv.2.2.2.1, hv.2.2.2.2⟩
theorem isBit_any (n : Int) (w : World) :
    Calls Tryz.prog 91 #[.int .i64 n] w fun e w' => e = .returned (.bool (n == 0 || n == 1)) ∧ w = w' := by
  go_enter Tryz.func91, Tryz.ntmps91
  go_wp2_with fail
  all_goals go_ret
  all_goals exact ⟨ret_bool (by simp [*]), rfl⟩

set_option maxRecDepth 100000 in
set_option maxHeartbeats 2000000 in
theorem uses_any {d : Nat} {v : Value} {t : V} {lo hi : Nat} {w : World} (h : VB w lo hi (d + 1) v t) (hhi : hi ≤ w.heap.size) :
    Calls Tryz.prog 65 #[v] w fun e w' => e = .returned (.bool t.top) ∧ Below w.heap.size w w' := by
  obtain ⟨k, n, s, its, ks⟩ := t
  obtain ⟨A, m, c, B, p, e, rfl, k1, k2, n1, n2, s1, hI, hK⟩ := h
  simp only [V.k, V.n, V.s, V.its, V.ks] at *
  have hcap := hI.cap
  have hmost := hI.most
  have hcap2 := hK.cap
  have hmost2 := hK.most
  have HL := Lib.hid hI.len
  have HL2 := Lib.hid hK.len
  have HI := Lib.hid hI
  have HK := Lib.hid hK
  have hb0 : ∀ o, Below w.heap.size w (w.alloc o) := fun o => (Below.refl _ _).alloc (Nat.le_refl _) o
  clear hI hK
  obtain ⟨b0, b1, b2, b3, b4⟩ := box5 (box_refl w (.cells #[.int .i64 k, .int .i64 n, .string s, .slice A m c, .slice B p e] 25))
  rcases (show k = 0 ∨ k = 1 ∨ k = 2 ∨ k = 3 ∨ k = 4 ∨ k = 5 ∨ k = 6 ∨ k < 0 ∨ 6 < k by omega) with rfl | rfl | rfl | rfl | rfl | rfl | rfl | hk | hk
  · go_enter Tryz.func65, Tryz.ntmps65
    go_wp2_with fail
    go_quiet (fail)
    go_wp2_with fail
    go_quiet (fail)
    go_wp2_with fail
    all_goals go_ret
    all_goals (refine ⟨ret_bool ?_, below_drewN (hb0 _) _⟩; rw [top_of HL.out HL2.out]; first | (simp [M.uses, *]; done) | (simp [M.uses, *]; omega))
  · go_enter Tryz.func65, Tryz.ntmps65
    go_wp2_with fail
    go_quiet (fail)
    go_wp2_with fail
    go_quiet (fail)
    go_wp2_with (go_at_call 91; refine (isBit_any _ _).mono ?_; rintro e w' ⟨rfl, rfl⟩)
    all_goals go_ret
    all_goals (refine ⟨ret_bool ?_, below_drewN (hb0 _) _⟩; rw [top_of HL.out HL2.out]; first | (simp [M.uses, *]; done) | (simp [M.uses, *]; omega))
  · go_enter Tryz.func65, Tryz.ntmps65
    go_wp2_with fail
    go_quiet (fail)
    go_wp2_with fail
    go_quiet (fail)
    go_wp2_with fail
    all_goals go_ret
    all_goals (refine ⟨ret_bool ?_, below_drewN (hb0 _) _⟩; rw [top_of HL.out HL2.out]; first | (simp [M.uses, *]; done) | (simp [M.uses, *]; omega))
  · go_enter Tryz.func65, Tryz.ntmps65
    go_wp2_with fail
    go_quiet (fail)
    go_wp2_with fail
    go_quiet (fail)
    go_wp2_with fail
    all_goals go_ret
    all_goals (refine ⟨ret_bool ?_, below_drewN (hb0 _) _⟩; rw [top_of HL.out HL2.out]; first | (simp [M.uses, *]; done) | (simp [M.uses, *]; omega))
  · go_enter Tryz.func65, Tryz.ntmps65
    go_wp2_with fail
    go_quiet (fail)
    go_wp2_with fail
    go_quiet (fail)
    go_wp2_with fail
    all_goals go_ret
    all_goals (refine ⟨ret_bool ?_, below_drewN (hb0 _) _⟩; rw [top_of HL.out HL2.out]; first | (simp [M.uses, *]; done) | (simp [M.uses, *]; omega))
  · go_enter Tryz.func65, Tryz.ntmps65
    go_wp2_with fail
    go_quiet (fail)
    go_wp2_with fail
    go_quiet (fail)
    go_wp2_with (go_at_call 92; refine (ascending_any (by exact HK.out.kept (Kept.of_below (below_drewN (hb0 _) _) hhi)) (by show hi ≤ (w.alloc _).heap.size; simp; omega)).mono ?_; rintro e w' ⟨rfl, hb'⟩)
    all_goals go_ret
    all_goals (refine ⟨ret_bool ?_, by first | exact below_drewN (hb0 _) _ | exact below_step (below_drewN (hb0 _) _) hb'⟩; rw [top_of HL.out HL2.out]; simp [M.uses, *])
  · go_enter Tryz.func65, Tryz.ntmps65
    go_wp2_with fail
    go_quiet (fail)
    go_wp2_with fail
    go_quiet (fail)
    go_wp2_with fail
    all_goals go_ret
    all_goals (refine ⟨ret_bool ?_, below_drewN (hb0 _) _⟩; rw [top_of HL.out HL2.out]; first | (simp [M.uses, *]; done) | (simp [M.uses, *]; omega))
  · go_enter Tryz.func65, Tryz.ntmps65
    go_wp2_with fail
    go_quiet (fail)
    go_wp2_with fail
    go_quiet (fail)
    go_wp2_with fail
    all_goals go_ret
    all_goals (refine ⟨ret_bool ?_, below_drewN (hb0 _) _⟩; rw [top_of HL.out HL2.out, M.uses, if_neg (by omega), if_neg (by omega), if_neg (by omega), if_neg (by omega), if_neg (by omega), if_neg (by omega), if_neg (by omega)])
  · go_enter Tryz.func65, Tryz.ntmps65
    go_wp2_with fail
    go_quiet (fail)
    go_wp2_with fail
    go_quiet (fail)
    go_wp2_with fail
    all_goals go_ret
    all_goals (refine ⟨ret_bool ?_, below_drewN (hb0 _) _⟩; rw [top_of HL.out HL2.out, M.uses, if_neg (by omega), if_neg (by omega), if_neg (by omega), if_neg (by omega), if_neg (by omega), if_neg (by omega), if_neg (by omega)])

end Go.Proofs.YtdkggnciamfcmaaGreatDoor
