/-
  Layer 3: Print, the code's.
-/
import Derived.Test.YtdkggnciamfcmaaGreatDoorTCodV
namespace Go.Proofs.YtdkggnciamfcmaaGreatDoor
set_option linter.unusedVariables false
open Go.RowKit
open M (V)

/-- What Print gives. -/
noncomputable def M.print (t : V) : ByteArray × Int := if t.right = true then (tstr (M.txt t), 0) else (ByteArray.empty, 2)

set_option maxRecDepth 100000 in
set_option maxHeartbeats 1000000 in
theorem print_any {v : Value} {t : V} {lo hi : Nat} {w : World} (h : VX w lo hi v t) (hhi : hi ≤ w.heap.size) (hlen : (M.txt t).length ≤ 140737488355000) (hT : TB w.heap.size w) :
    Calls Tryz.prog 11 #[v] w fun e w' => e = .returned (.tuple #[.string (M.print t).1, .int .i64 (M.print t).2]) ∧ Below w.heap.size w w' := by
  obtain ⟨A, m, c, B, p, e, rfl⟩ := h.form
  have hb0 := box_refl w (.cells #[.int .i64 t.k, .int .i64 t.n, .string t.s, .slice A m c, .slice B p e] 25)
  have hz := box_size hb0
  have h1 := h.later (box_below hb0) hhi
  have HH := Lib.hid h; have H1 := Lib.hid h1; have HT := Lib.hid hT; have HL := Lib.hid hlen
  clear h h1 hT hlen
  by_cases hr : t.right = true
  · have HP : Hid (M.print t = (tstr (M.txt t), 0)) := Lib.hid (by unfold M.print; rw [if_pos hr])
    rw [HP.out]
    have HW : Hid (t.wf = true) := Lib.hid (by unfold V.right at hr; simp at hr; exact hr.1.1)
    go_enter Tryz.func11, Tryz.ntmps11
    go_wp2_with fail
    refine (rightX H1.out (by omega)).mono ?_
    rintro e w1 ⟨rfl, hb1⟩
    rw [hr]
    have hbox := box_step hb0 hb1
    have hz1 := box_size hbox
    have hbw := box_below hbox
    obtain ⟨d, hd⟩ := HH.out.later hbw hhi
    have HD := Lib.hid hd
    clear hd
    obtain ⟨b0, b1, b2, b3, b4⟩ := box5 hbox
    go_wp2_with fail
    refine (text_at d _ [] w.heap.size _ t lo hi w1 (OB.empty _ _) HD.out hhi (by omega) HW.out (by rw [List.nil_append]; exact HL.out) (HT.out.on hbw)).mono ?_
    rintro e w2 ⟨v2, rfl, ho2, hg2, hn2⟩
    rw [List.nil_append] at ho2
    have hbel := hbw.trans (below_own (OB.empty w1 w.heap.size) (by omega) hg2)
    obtain ⟨A, n, c, rfl, hr2⟩ := ho2.form
    have hcv := run_tstr hr2
    clear hr2 ho2
    go_wp2_with fail
    go_ret2
    exact ⟨rfl, hbel⟩
  · have hr' : t.right = false := by simpa using hr
    have HP : Hid (M.print t = (ByteArray.empty, 2)) := Lib.hid (by unfold M.print; rw [if_neg hr])
    rw [HP.out]
    go_enter Tryz.func11, Tryz.ntmps11
    go_wp2_with fail
    refine (rightX H1.out (by omega)).mono ?_
    rintro e w1 ⟨rfl, hb1⟩
    rw [hr']
    have hbox := box_step hb0 hb1
    go_wp2_with fail
    go_ret2
    exact ⟨rfl, box_below hbox⟩
end Go.Proofs.YtdkggnciamfcmaaGreatDoor
