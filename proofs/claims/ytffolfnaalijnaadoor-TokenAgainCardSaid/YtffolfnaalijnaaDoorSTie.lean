/-
  Layer 7: what the rows' listed variables give the walks.
-/
import Derived.Test.YtffolfnaalijnaaDoorSGate
import Derived.Test.YtffolfnaalijnaaDoorRows
import Derived.Stop.LaidErr
import Derived.Lib.LaidTab
import Derived.LaidMore
import Derived.MakeChecks
namespace Go.Proofs.YtffolfnaalijnaaDoor
open Go.RowKit
set_option maxRecDepth 100000

theorem s_star : "*" ++ "errors.errorString" = "*errors.errorString" := by decide
theorem s_row (u : TypeId) (h : Tryd.prog.typeName? 3 u = some "*errors.errorString") : u = 116 :=
  typeName_ptr_named (nm := "errors.errorString") (by rw [s_star]; kernel_rfl) (by kernel_rfl) (by decide) u (by rw [s_star]; exact h)

/-- The rows' list. -/
def sLaid : List (String × DataW Unit) := [("math/bits.deBruijn32tab", Rows.laid_math_bits_deBruijn32tab), ("math/bits.deBruijn64tab", Rows.laid_math_bits_deBruijn64tab), ("internal/strconv.uint64pow10", Rows.laid_internal_strconv_uint64pow10), ("strconv.ErrRange", Rows.laid_strconv_ErrRange), ("strconv.ErrSyntax", Rows.laid_strconv_ErrSyntax)]

theorem gates_of {W : World} (h : laidMetH Tryd.prog sLaid W) : Gates W := by
  rw [MakeChecks.laidMetH_plain _ _ _ (by kernel_rfl)] at h
  have h2 := h.tail.tail
  have htab : Lib.TabIs Tryd.prog W "internal/strconv.uint64pow10" .u64 Lib.pow10Tab :=
    Lib.tabIs_of_head (rest := [("strconv.ErrRange", Rows.laid_strconv_ErrRange), ("strconv.ErrSyntax", Rows.laid_strconv_ErrSyntax)]) (g := 0) (by kernel_rfl) (by kernel_rfl) Tryd.underlying104 Tryd.underlying88 (by kernel_rfl) (by kernel_rfl) h2
  obtain ⟨a1, s1, hv1, -, -, -⟩ := laid_sentinel (g := 3) h2.tail (by kernel_rfl) (by kernel_rfl) Tryd.underlying52 s_row Tryd.underlying116 Tryd.underlying118 rfl rfl Tryd.underlying9 (by kernel_rfl) (by kernel_rfl)
  obtain ⟨a2, s2, hv2, -, -, -⟩ := laid_sentinel (g := 2) h2.tail.tail (by kernel_rfl) (by kernel_rfl) Tryd.underlying52 s_row Tryd.underlying116 Tryd.underlying118 rfl rfl Tryd.underlying9 (by kernel_rfl) (by kernel_rfl)
  exact ⟨⟨_, by have h0 := World.var?_cell (g := 2) (by kernel_rfl) hv2 0; simpa using h0, .inr ⟨_, _, rfl⟩⟩,
    ⟨_, by have h0 := World.var?_cell (g := 3) (by kernel_rfl) hv1 0; simpa using h0, .inr ⟨_, _, rfl⟩⟩, htab⟩
end Go.Proofs.YtffolfnaalijnaaDoor
