/-
  Layer 2: a part of a slice, of strings and of values.
-/
import Derived.Test.YtcamhcgafmmkdaaVMem3
namespace Go.Proofs.Ytcamhcgafmmkdaa
set_option linter.unusedVariables false
open Go.RowKit
open M (V)

section
variable {w : World} {lo hi n c k : Nat} {A A' : Option Addr} {R : Value → V → Prop} {l : List V} {ks : List ByteArray}
theorem addr_plus (b off k : Nat) : (⟨b, off, none⟩ : Addr).add k = ⟨b, off + k, none⟩ := by unfold Addr.add; split <;> simp_all
theorem KS.take (h : KS w lo hi A n c ks) (hk : k ≤ n) : KS w lo hi A k c (ks.take k) := by
  have hl := h.len
  have hg : ∀ j, j < k → (ks.take k).getD j ByteArray.empty = ks.getD j ByteArray.empty := fun j hj => by
    simp only [List.getD, List.getElem?_take]; rw [if_pos hj]
  refine ⟨by rw [List.length_take]; omega, Nat.le_trans hk h.cap, by have := h.most; omega, h.nil, fun j hj => by rw [hg j hj]; exact h.size j (by omega), fun h0 => ?_⟩
  obtain ⟨b, off, e, h1, h2, h3⟩ := h.at_ (by omega)
  exact ⟨b, off, e, h1, h2, fun j hj => by rw [hg j hj]; exact h3 j (by omega)⟩
theorem IS.take (h : IS w lo hi R A n c l) (hk : k ≤ n) : IS w lo hi R A k c (l.take k) := by
  have hl := h.len
  have hg : ∀ j, j < k → (l.take k).getD j default = l.getD j default := fun j hj => by
    simp only [List.getD, List.getElem?_take]; rw [if_pos hj]
  refine ⟨by rw [List.length_take]; omega, Nat.le_trans hk h.cap, by have := h.most; omega, h.nil, fun h0 => ?_⟩
  obtain ⟨b, off, e, h1, h2, h3⟩ := h.at_ (by omega)
  exact ⟨b, off, e, h1, h2, fun j hj => by rw [hg j hj]; exact h3 j (by omega)⟩
theorem KS.drop (h : KS w lo hi A n c ks) (hk : k ≤ n) (hA : ¬ c = k → A' = A.map (·.add k)) (hA0 : A' = none → c - k = 0) : KS w lo hi A' (n - k) (c - k) (ks.drop k) := by
  have hl := h.len
  have hc := h.cap
  have hg : ∀ j, (ks.drop k).getD j ByteArray.empty = ks.getD (k + j) ByteArray.empty := fun j => by
    simp only [List.getD, List.getElem?_drop]
  refine ⟨by rw [List.length_drop]; omega, by omega, by have := h.most; omega, hA0, fun j hj => by rw [hg j]; exact h.size _ (by omega), fun h0 => ?_⟩
  obtain ⟨b, off, e, h1, h2, h3⟩ := h.at_ (by omega)
  refine ⟨b, off + k, by rw [hA (by omega), e, Option.map_some, addr_plus], h1, h2, fun j hj => ?_⟩
  rw [hg j, show off + k + j = off + (k + j) by omega]
  exact h3 _ (by omega)
theorem IS.drop (h : IS w lo hi R A n c l) (hk : k ≤ n) (hA : ¬ c = k → A' = A.map (·.add (k * 5))) (hA0 : A' = none → c - k = 0) : IS w lo hi R A' (n - k) (c - k) (l.drop k) := by
  have hl := h.len
  have hc := h.cap
  have hg : ∀ j, (l.drop k).getD j default = l.getD (k + j) default := fun j => by
    simp only [List.getD, List.getElem?_drop]
  refine ⟨by rw [List.length_drop]; omega, by omega, by have := h.most; omega, hA0, fun h0 => ?_⟩
  obtain ⟨b, off, e, h1, h2, h3⟩ := h.at_ (by omega)
  refine ⟨b, off + k * 5, by rw [hA (by omega), e, Option.map_some, addr_plus], h1, h2, fun j hj => ?_⟩
  rw [hg j, show off + k * 5 + j * 5 = off + (k + j) * 5 by omega]
  exact h3 _ (by omega)
end
end Go.Proofs.Ytcamhcgafmmkdaa
