/-
  Layer 7: two tokens compared.
-/
import Derived.Test.YtffolfnaalijnaaDoorSCodL
import Derived.Laws.StructEq
namespace Go.Proofs.YtffolfnaalijnaaDoor
open Go.RowKit
set_option linter.unusedVariables false

theorem tok_fields : (Tryd.prog.fieldsOf 30).toList.map (fun f => (f.name, f.type, f.offset)) = [("Kind", 3, 0), ("At", 3, 1), ("Text", 9, 2), ("Int", 3, 3)] := by kernel_rfl
theorem tok_guard (op : BinOp) (x y : Operand) (xs ys : Array Value) (w : World) : (eqGuard op 30 x y (.agg xs) (.agg ys)).run Tryd.prog w = .ok () w := run_eqGuard_agg (P := Tryd.prog) (w := w) op 30 x y xs ys (by kernel_rfl)
set_option maxRecDepth 100000 in
theorem tok_same (w : World) (k p v k' p' v' : Int) (t t' : ByteArray) : (Op.equalIn 10000 30 (.agg #[.int .i64 k, .int .i64 p, .string t, .int .i64 v]) (.agg #[.int .i64 k', .int .i64 p', .string t', .int .i64 v'])).run Tryd.prog w = .ok ((k == k') && ((p == p') && ((t.toList == t'.toList) && (v == v')))) w := by
  rw [run_equalIn_agg (P := Tryd.prog) (w := w) 9999 30 _ _ (by kernel_rfl) (by kernel_rfl)]
  have hf := tok_fields
  generalize (Tryd.prog.fieldsOf 30).toList = l at hf ⊢
  obtain ⟨f0, l1, rfl, e0, hf⟩ := List.map_eq_cons_iff.1 hf
  obtain ⟨f1, l2, rfl, e1, hf⟩ := List.map_eq_cons_iff.1 hf
  obtain ⟨f2, l3, rfl, e2, hf⟩ := List.map_eq_cons_iff.1 hf
  obtain ⟨f3, l4, rfl, e3, hf⟩ := List.map_eq_cons_iff.1 hf
  obtain rfl := List.map_eq_nil_iff.1 hf
  simp only [Prod.mk.injEq] at e0 e1 e2 e3
  obtain ⟨n0, t0, o0⟩ := e0
  obtain ⟨n1, t1, o1⟩ := e1
  obtain ⟨n2, t2, o2⟩ := e2
  obtain ⟨n3, t3, o3⟩ := e3
  simp [go_sem, n0, t0, o0, n1, t1, o1, n2, t2, o2, n3, t3, o3, Tryd.underlying3, Tryd.underlying9]
  by_cases h1 : k = k'
  all_goals by_cases h2 : p = p'
  all_goals by_cases h3 : t.toList = t'.toList
  all_goals by_cases h4 : v = v'
  all_goals simp [h1, h2, h3, h4]
theorem tok_neq (w : World) (k p v k' p' v' : Int) (t t' : ByteArray) : (binOp .neq 30 (.agg #[.int .i64 k, .int .i64 p, .string t, .int .i64 v]) (.agg #[.int .i64 k', .int .i64 p', .string t', .int .i64 v'])).run Tryd.prog w = .ok (.bool (!((k == k') && ((p == p') && ((t.toList == t'.toList) && (v == v')))))) w := by
  rw [run_neq_struct, tok_same]; rfl
theorem tok_eql (w : World) (k p v k' p' v' : Int) (t t' : ByteArray) : (binOp .eql 30 (.agg #[.int .i64 k, .int .i64 p, .string t, .int .i64 v]) (.agg #[.int .i64 k', .int .i64 p', .string t', .int .i64 v'])).run Tryd.prog w = .ok (.bool ((k == k') && ((p == p') && ((t.toList == t'.toList) && (v == v'))))) w := by
  rw [run_eql_struct, tok_same]; rfl
theorem tok_dec (a b : Z.Tok) : ((a.k == b.k) && ((a.pos == b.pos) && (((bS a.t).toList == (bS b.t).toList) && (a.v == b.v)))) = decide (a = b) := by
  obtain ⟨k, p, t, v⟩ := a
  obtain ⟨k', p', t', v'⟩ := b
  have h : (bS t).toList = t := by rw [ByteArray.toList_eq]; rfl
  have h' : (bS t').toList = t' := by rw [ByteArray.toList_eq]; rfl
  simp only [h, h']
  by_cases h1 : k = k'
  all_goals by_cases h2 : p = p'
  all_goals by_cases h3 : t = t'
  all_goals by_cases h4 : v = v'
  all_goals simp [h1, h2, h3, h4]
end Go.Proofs.YtffolfnaalijnaaDoor
