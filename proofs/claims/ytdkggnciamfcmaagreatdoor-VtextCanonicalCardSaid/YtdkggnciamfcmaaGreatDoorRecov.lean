/-
  A deferred closure that recovers: its operations by the usual walk, but for 'recover' itself.
-/
import Derived.Test.YtdkggnciamfcmaaGreatDoorProg
import Derived.Defers
import Derived.Recover
import Derived.WalkKit
namespace Go.Proofs.YtdkggnciamfcmaaGreatDoor
open Go.RowKit

section
variable {P : Program} {ops : Array Oper} {Q : Exit → Act → List Frame → World → Prop} {a : Act} {cs cs' : List Frame} {w : World}
theorem opsS_recover {i : Nat} {rest : List Nat} {o : Oper} {v : Value} (ho : ops[i]? = some o) (hw : Region.wanted o (yielded ops a.tmps) = true) (hr : (execOp a.eval o).run P w = .ok .recover w) (hrec : recoverD cs = some (v, cs'))
    (h : wpOpsS P ops Q rest (a.put o.dst v) cs' w) : wpOpsS P ops Q (i :: rest) a cs w := by
  simp only [wpOpsS, ho, hw, if_true, hr, hrec]
  exact h
theorem opsS_idle {i : Nat} {rest : List Nat} {o : Oper} (ho : ops[i]? = some o) (hw : Region.wanted o (yielded ops a.tmps) = true) (hr : (execOp a.eval o).run P w = .ok .recover w) (hrec : recoverD cs = none)
    (h : wpOpsS P ops Q rest (a.put o.dst .nilIface) cs w) : wpOpsS P ops Q (i :: rest) a cs w := by
  simp only [wpOpsS, ho, hw, if_true, hr, hrec]
  exact h
/-- The other operations: the walk's own goal. -/
theorem opsS_list (hno : ¬ LetsOut (fun e a' w' => Q e a' cs w')) : ∀ (l : List Oper) (k : Nat), (∀ j, l[j]? = ops[k + j]?) → ∀ (a : Act) (w : World),
    wpList P ops (fun e a' w' => Q e a' cs w') l a w → wpOpsS P ops Q (List.range' k l.length) a cs w
  | [], k, _, a, w, h => h
  | o :: l, k, hl, a, w, h => by
    have h0 : ops[k]? = some o := by simpa using (hl 0).symm
    have ih := opsS_list hno l (k + 1) (fun j => by have := hl (j + 1); simpa [Nat.add_assoc, Nat.add_comm 1 j] using this)
    rw [List.length_cons, List.range'_succ]
    simp only [wpOpsS, h0]
    simp only [wpList] at h
    by_cases hw : Region.wanted o (yielded ops a.tmps) = true
    · rw [if_pos hw] at h ⊢
      rcases h with h | h
      · have h2 := Oper.wp_mono ih h
        unfold Oper.wp at h2
        generalize hr : (execOp a.eval o).run P w = r at h2 ⊢
        cases r with
        | ok n w' =>
          cases n with
          | recover => exact h2.elim
          | _ => exact h2
        | _ => exact h2
      · exact absurd h.2 hno
    · rw [if_neg hw] at h ⊢
      exact ih _ _ h
theorem wpS_region_cut {id : Nat} {o : Oper} {l : List Oper} (h : wpOpsS P (o :: l).toArray Q (0 :: List.range' 1 l.length) a cs w) : (Code.region id (o :: l).toArray false).wpS P Q a cs w := by
  refine wpS_region ?_
  have e : List.range (o :: l).toArray.size = 0 :: List.range' 1 l.length := by
    rw [List.size_toArray, List.length_cons, List.range_eq_range', List.range'_succ]
  rw [e]
  exact h
/-- A region that begins with 'recover', which finds a panic. -/
theorem region_recover {id : Nat} {o : Oper} {l : List Oper} {v : Value} (hw : Region.wanted o (yielded (o :: l).toArray a.tmps) = true) (hr : (execOp a.eval o).run P w = .ok .recover w) (hrec : recoverD cs = some (v, cs'))
    (hno : ¬ LetsOut (fun e a' w' => Q e a' cs' w')) (h : wpList P (o :: l).toArray (fun e a' w' => Q e a' cs' w') l (a.put o.dst v) w) : (Code.region id (o :: l).toArray false).wpS P Q a cs w := by
  refine wpS_region_cut (opsS_recover (by simp) hw hr hrec (opsS_list hno l 1 (fun j => ?_) _ _ h))
  rw [Nat.add_comm]; simp
/-- .. and which finds none. -/
theorem region_idle {id : Nat} {o : Oper} {l : List Oper} (hw : Region.wanted o (yielded (o :: l).toArray a.tmps) = true) (hr : (execOp a.eval o).run P w = .ok .recover w) (hrec : recoverD cs = none)
    (hno : ¬ LetsOut (fun e a' w' => Q e a' cs w')) (h : wpList P (o :: l).toArray (fun e a' w' => Q e a' cs w') l (a.put o.dst .nilIface) w) : (Code.region id (o :: l).toArray false).wpS P Q a cs w := by
  refine wpS_region_cut (opsS_idle (by simp) hw hr hrec (opsS_list hno l 1 (fun j => ?_) _ _ h))
  rw [Nat.add_comm]; simp
end
end Go.Proofs.YtdkggnciamfcmaaGreatDoor
