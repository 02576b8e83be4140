/-
  Plain mathematics of layer 1: what was appended is read back; what is read is its encoding.
-/
import Derived.Test.YtkodmhopollnpaaGreatMath
namespace Go.Proofs.YtkodmhopollnpaaGreat.M

theorem St.int_enc_out {s : St} (h : s.e = 0) {n : Int} {r : List UInt8} (hl : s.l = enc (zig n) ++ r) (h1 : -9223372036854775808 ≤ n) (h2 : n ≤ 9223372036854775807) {lo hi : Int} (hr : ¬ (lo ≤ n ∧ n ≤ hi)) :
    s.int lo hi = (0, ⟨[], 14⟩) := by
  have hc : cnt s.l = ((enc (zig n)).length, 0) := by rw [hl]; exact cnt_enc _ _ (zig_lt n h1 h2)
  have ht : zag (dec (s.l.take (enc (zig n)).length)) = n := by rw [hl, List.take_left, dec_enc, zag_zig]
  rw [St.int_range h hc (by rw [ht]; omega)]
theorem St.text_enc {t r : List UInt8} {y : Int} (hy : (t.length : Int) ≤ y) (h2 : (t.length : Int) ≤ 9223372036854775807) : (St.mk (enc (zig (t.length : Int)) ++ (t ++ r)) 0).text y = (t, ⟨r, 0⟩) := by
  have h := St.int_enc (s := St.mk (enc (zig (t.length : Int)) ++ (t ++ r)) 0) (lo := 0) (hi := y) rfl rfl (by omega) h2 ⟨by omega, hy⟩
  rw [St.text_yes (t := ⟨t ++ r, 0⟩) (N := (t.length : Int)) (by rw [h]) (by rw [h]) rfl (by simp), Int.toNat_natCast]
  simp
/-- Bytes that are read as an integer are its encoding. -/
theorem St.int_canon {l : List UInt8} {lo hi N : Int} {t : St} (h : (St.mk l 0).int lo hi = (N, t)) (ht : t.e = 0) : t.l.length ≤ l.length ∧ enc (zig N) = l.take (l.length - t.l.length) ∧ l = enc (zig N) ++ t.l ∧ -9223372036854775808 ≤ N ∧ N ≤ 9223372036854775807 := by
  obtain ⟨k, e, hc⟩ : ∃ k e, cnt l = (k, e) := ⟨_, _, rfl⟩
  by_cases he : e = 0
  · subst he
    by_cases hr : zag (dec (l.take k)) < lo ∨ hi < zag (dec (l.take k))
    · rw [St.int_range (s := St.mk l 0) rfl hc hr] at h
      injection h with h1 h2
      subst h2
      exact absurd ht (by simp)
    · rw [St.int_yes (s := St.mk l 0) rfl hc hr] at h
      injection h with h1 h2
      subst h1
      subst h2
      obtain ⟨hk0, hk10, hkl, henc, hd⟩ := cnt_ok hc
      refine ⟨by simp, ?_, ?_, zag_lo _ hd, zag_hi _ hd⟩
      · simp only [List.length_drop]
        rw [zig_zag, henc, show l.length - (l.length - k) = k by omega]
      · rw [zig_zag, henc, List.take_append_drop]
  · rw [St.int_bad (s := St.mk l 0) rfl hc he] at h
    injection h with h1 h2
    subst h2
    exact absurd ht he
theorem St.text_canon {l u : List UInt8} {y : Int} {t : St} (h : (St.mk l 0).text y = (u, t)) (ht : t.e = 0) : t.l.length ≤ l.length ∧ enc (zig (u.length : Int)) ++ u = l.take (l.length - t.l.length) := by
  obtain ⟨N, t1, h1⟩ : ∃ N t1, (St.mk l 0).int 0 y = (N, t1) := ⟨_, _, rfl⟩
  by_cases h0 : t1.e = 0
  · obtain ⟨ha, hb, hc, hd, he⟩ := St.int_canon h1 h0
    have hN : 0 ≤ N := by have := St.int_lo (St.mk l 0) y; rw [h1] at this; exact this
    obtain ⟨N, rfl⟩ := Int.eq_ofNat_of_zero_le hN
    by_cases hs : t1.l.length < N
    · rw [St.text_short (t := t1) (N := (N : Int)) (by rw [h1]) (by rw [h1]) h0 (by simpa using hs)] at h
      injection h with g1 g2
      subst g2
      exact absurd ht (by simp)
    · rw [St.text_yes (t := t1) (N := (N : Int)) (by rw [h1]) (by rw [h1]) h0 (by simpa using hs), Int.toNat_natCast] at h
      injection h with g1 g2
      subst g1
      subst g2
      have hlen : (t1.l.take N).length = N := by rw [List.length_take]; omega
      have hall : l = (enc (zig (N : Int)) ++ t1.l.take N) ++ t1.l.drop N := by
        rw [List.append_assoc, List.take_append_drop]; exact hc
      rw [hlen]
      refine ⟨by simp only [List.length_drop]; omega, ?_⟩
      have hL := congrArg List.length hall
      simp only [List.length_append, hlen] at hL
      have hcut : l.length - (t1.l.drop N).length = (enc (zig (N : Int)) ++ t1.l.take N).length := by
        simp only [List.length_append, hlen]; omega
      rw [hcut]
      conv => rhs; rw [hall]
      rw [List.take_left]
  · rw [St.text_dead (t := t1) (by rw [h1]) h0] at h
    injection h with g1 g2
    subst g2
    exact absurd ht h0
theorem St.bool_enc (b : Bool) (r : List UInt8) : (St.mk ((if b then 1 else 0) :: r) 0).bool = (b, ⟨r, 0⟩) := by cases b <;> rfl
theorem St.bool_canon {l : List UInt8} {b : Bool} {t : St} (h : (St.mk l 0).bool = (b, t)) (ht : t.e = 0) : t.l.length ≤ l.length ∧ [if b then 1 else 0] = l.take (l.length - t.l.length) := by
  cases l with
  | nil =>
    rw [St.bool_short] at h
    injection h with g1 g2
    subst g2
    exact absurd ht (by simp)
  | cons c r =>
    by_cases h1 : 1 < c.toNat
    · rw [St.bool_form h1] at h
      injection h with g1 g2
      subst g2
      exact absurd ht (by simp)
    · rw [St.bool_yes h1] at h
      injection h with g1 g2
      subst g1
      subst g2
      refine ⟨by simp, ?_⟩
      have hc : c = 0 ∨ c = 1 := by
        rcases (show c.toNat = 0 ∨ c.toNat = 1 by omega) with e | e
        · exact .inl (UInt8.toNat.inj e)
        · exact .inr (UInt8.toNat.inj e)
      rcases hc with rfl | rfl <;> simp

end Go.Proofs.YtkodmhopollnpaaGreat.M
