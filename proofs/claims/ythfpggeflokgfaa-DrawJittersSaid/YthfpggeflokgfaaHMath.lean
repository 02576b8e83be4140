/-
  Plain mathematics of layer 4 (no program): the two checksums on lists of bytes.
-/
namespace Go.Proofs.Ythfpggeflokgfaa.M

/-- One byte of FNV-1a. -/
def fb (h c : Nat) : Nat := ((h ^^^ c) * 16777619) % 4294967296
def fnvF (h : Nat) (l : List UInt8) : Nat := l.foldl (fun h c => fb h c.toNat) h
def fnv (l : List UInt8) : Nat := fnvF 2166136261 l

/-- One bit, one byte of CRC-32. -/
def cbit (r : Nat) : Nat := if r % 2 = 1 then (r / 2) ^^^ 3988292384 else r / 2
def cbits : Nat → Nat → Nat
  | 0, r => r
  | k + 1, r => cbit (cbits k r)
def cb (r c : Nat) : Nat := cbits 8 (r ^^^ c)
def crcF (r : Nat) (l : List UInt8) : Nat := l.foldl (fun r c => cb r c.toNat) r
def crcR (l : List UInt8) : Nat := crcF 4294967295 l
def crc (l : List UInt8) : Nat := crcR l ^^^ 4294967295

theorem u8_lt (c : UInt8) : c.toNat < 256 := c.toNat_lt
theorem xor_lt {a b : Nat} (ha : a < 4294967296) (hb : b < 4294967296) : a ^^^ b < 4294967296 :=
  Nat.xor_lt_two_pow (n := 32) ha hb
theorem xor_r {a b p : Nat} (h : a ^^^ p = b ^^^ p) : a = b := by
  have h2 : (a ^^^ p) ^^^ p = (b ^^^ p) ^^^ p := by rw [h]
  rwa [Nat.xor_assoc, Nat.xor_assoc, Nat.xor_self, Nat.xor_zero, Nat.xor_zero] at h2
theorem xor_l {a b p : Nat} (h : p ^^^ a = p ^^^ b) : a = b := by
  rw [Nat.xor_comm p a, Nat.xor_comm p b] at h; exact xor_r h

theorem fb_lt (h c : Nat) : fb h c < 4294967296 := Nat.mod_lt _ (by decide)
theorem fnvF_lt {h : Nat} (hh : h < 4294967296) (l : List UInt8) : fnvF h l < 4294967296 := by
  induction l generalizing h with
  | nil => exact hh
  | cons c l ih => exact ih (fb_lt h c.toNat)
theorem fnv_lt (l : List UInt8) : fnv l < 4294967296 := by unfold fnv; exact fnvF_lt (by omega) l
theorem fnvF_snoc (h : Nat) (l : List UInt8) (c : UInt8) : fnvF h (l ++ [c]) = fb (fnvF h l) c.toNat := by unfold fnvF; rw [List.foldl_append, List.foldl_cons, List.foldl_nil]
theorem fnv_snoc (l : List UInt8) (c : UInt8) : fnv (l ++ [c]) = fb (fnv l) c.toNat := by unfold fnv; exact fnvF_snoc _ l c
theorem fnvF_app (h : Nat) (l m : List UInt8) : fnvF h (l ++ m) = fnvF (fnvF h l) m := by unfold fnvF; rw [List.foldl_append]
theorem mul_back (a : Nat) : (a * 16777619 % 4294967296) * 899433627 % 4294967296 = a % 4294967296 := by
  rw [Nat.mod_mul_mod, Nat.mul_assoc, show 16777619 * 899433627 = 4294967296 * 3513497 + 1 from rfl, Nat.mul_add, Nat.mul_one, Nat.mul_left_comm, Nat.mul_add_mod]
theorem mul_inj {a b : Nat} (ha : a < 4294967296) (hb : b < 4294967296) (h : a * 16777619 % 4294967296 = b * 16777619 % 4294967296) : a = b := by
  have h1 := mul_back a
  rw [h, mul_back b, Nat.mod_eq_of_lt ha, Nat.mod_eq_of_lt hb] at h1
  exact h1.symm
theorem fb_inj {h : Nat} {x y : UInt8} (hh : h < 4294967296) (e : fb h x.toNat = fb h y.toNat) : x = y := by
  have hx := u8_lt x
  have hy := u8_lt y
  have h1 := mul_inj (xor_lt hh (by omega)) (xor_lt hh (by omega)) e
  exact UInt8.toNat_inj.1 (xor_l h1)

theorem cbit_lt {r : Nat} (h : r < 4294967296) : cbit r < 4294967296 := by
  unfold cbit
  split
  · exact xor_lt (by omega) (by omega)
  · omega
theorem cbits_lt {r : Nat} (h : r < 4294967296) (k : Nat) : cbits k r < 4294967296 := by
  induction k with
  | zero => exact h
  | succ k ih => exact cbit_lt ih
theorem cb_lt {r c : Nat} (h : r < 4294967296) (hc : c < 256) : cb r c < 4294967296 := cbits_lt (xor_lt h (by omega)) 8
theorem crcF_lt {r : Nat} (h : r < 4294967296) (l : List UInt8) : crcF r l < 4294967296 := by
  induction l generalizing r with
  | nil => exact h
  | cons c l ih => exact ih (cb_lt h (u8_lt c))
theorem crcR_lt (l : List UInt8) : crcR l < 4294967296 := by unfold crcR; exact crcF_lt (by omega) l
theorem crc_lt (l : List UInt8) : crc l < 4294967296 := by unfold crc; exact xor_lt (crcR_lt l) (by omega)
theorem crcR_snoc (l : List UInt8) (c : UInt8) : crcR (l ++ [c]) = cb (crcR l) c.toNat := by unfold crcR crcF; rw [List.foldl_append, List.foldl_cons, List.foldl_nil]
theorem hi_set {a : Nat} (h : a < 2147483648) : 2147483648 ≤ a ^^^ 3988292384 := by
  have h1 : (a ^^^ 3988292384).testBit 31 = true := by
    rw [Nat.testBit_xor, Nat.testBit_lt_two_pow (x := a) (i := 31) h]; decide
  exact Nat.ge_two_pow_of_testBit h1
theorem cbit_inj {a b : Nat} (ha : a < 4294967296) (hb : b < 4294967296) (h : cbit a = cbit b) : a = b := by
  unfold cbit at h
  split at h <;> split at h
  · have := xor_r h; omega
  · have := hi_set (a := a / 2) (by omega); omega
  · have := hi_set (a := b / 2) (by omega); omega
  · omega
theorem cbits_inj {a b : Nat} (ha : a < 4294967296) (hb : b < 4294967296) (k : Nat) (h : cbits k a = cbits k b) : a = b := by
  induction k with
  | zero => exact h
  | succ k ih => exact ih (cbit_inj (cbits_lt ha k) (cbits_lt hb k) h)
theorem crcF_inj {r s : Nat} (hr : r < 4294967296) (hs : s < 4294967296) (l : List UInt8) (h : crcF r l = crcF s l) : r = s := by
  induction l generalizing r s with
  | nil => exact h
  | cons c l ih =>
    have hc := u8_lt c
    have h1 := ih (cb_lt hr hc) (cb_lt hs hc) h
    exact xor_r (cbits_inj (xor_lt hr (by omega)) (xor_lt hs (by omega)) 8 h1)
theorem crc_inj {l m : List UInt8} (h : crc l = crc m) : crcR l = crcR m := xor_r h
theorem crcR_app (l m : List UInt8) : crcR (l ++ m) = crcF (crcR l) m := by unfold crcR crcF; rw [List.foldl_append]
/-- One byte changed: the checksums are the same only if the bytes are. -/
theorem crc_set (l : List UInt8) (k : Nat) (x : UInt8) (hk : k < l.length) : crc l = crc (l.set k x) ↔ l[k] = x := by
  constructor
  · intro h
    have h1 := crc_inj h
    have e1 : l = l.take k ++ (l[k] :: l.drop (k + 1)) := by rw [List.getElem_cons_drop, List.take_append_drop]
    have e2 : l.set k x = l.take k ++ (x :: l.drop (k + 1)) := List.set_eq_take_append_cons_drop .. |>.trans (if_pos hk)
    rw [e2] at h1
    conv at h1 => lhs; rw [e1]
    rw [crcR_app, crcR_app] at h1
    have hl := crcR_lt (l.take k)
    have ha := u8_lt l[k]
    have hb := u8_lt x
    have h2 := crcF_inj (cb_lt hl ha) (cb_lt hl hb) (l.drop (k + 1)) h1
    have h3 := cbits_inj (xor_lt hl (by omega)) (xor_lt hl (by omega)) 8 h2
    exact UInt8.toNat_inj.1 (xor_l h3)
  · intro h
    rw [← h, List.set_getElem_self]

/-- The bytes of an integer, the most significant one first. -/
def e8 (n : Int) (i : Nat) : Nat := (n / 2 ^ (56 - 8 * i) % 256).toNat
def eight (n : Int) : List UInt8 := (List.range 8).map fun i => UInt8.ofNat (e8 n i)
theorem e8_lt (n : Int) (i : Nat) : e8 n i < 256 := by
  unfold e8
  have h1 := Int.emod_nonneg (n / 2 ^ (56 - 8 * i)) (show (256 : Int) ≠ 0 by omega)
  have h2 := Int.emod_lt_of_pos (n / 2 ^ (56 - 8 * i)) (show (0 : Int) < 256 by omega)
  omega
theorem e8_byte (n : Int) (i : Nat) : (UInt8.ofNat (e8 n i)).toNat = e8 n i := by rw [UInt8.toNat_ofNat']; exact Nat.mod_eq_of_lt (e8_lt n i)
theorem fnvF_nil (h : Nat) : fnvF h [] = h := by unfold fnvF; rw [List.foldl_nil]
theorem fnvF_cons (h : Nat) (c : UInt8) (l : List UInt8) : fnvF h (c :: l) = fnvF (fb h c.toNat) l := by unfold fnvF; rw [List.foldl_cons]
theorem eight_list (n : Int) : eight n = [UInt8.ofNat (e8 n 0), UInt8.ofNat (e8 n 1), UInt8.ofNat (e8 n 2), UInt8.ofNat (e8 n 3), UInt8.ofNat (e8 n 4), UInt8.ofNat (e8 n 5), UInt8.ofNat (e8 n 6), UInt8.ofNat (e8 n 7)] := by
  unfold eight
  rw [show List.range 8 = [0, 1, 2, 3, 4, 5, 6, 7] from rfl, List.map_cons, List.map_cons, List.map_cons, List.map_cons, List.map_cons, List.map_cons, List.map_cons, List.map_cons, List.map_nil]
theorem fnvF_eight (h : Nat) (n : Int) : fnvF h (eight n) = fb (fb (fb (fb (fb (fb (fb (fb h (e8 n 0)) (e8 n 1)) (e8 n 2)) (e8 n 3)) (e8 n 4)) (e8 n 5)) (e8 n 6)) (e8 n 7) := by
  rw [eight_list, fnvF_cons, fnvF_cons, fnvF_cons, fnvF_cons, fnvF_cons, fnvF_cons, fnvF_cons, fnvF_cons, fnvF_nil, e8_byte, e8_byte, e8_byte, e8_byte, e8_byte, e8_byte, e8_byte, e8_byte]
def mix (a b : Int) : Nat := fnv (eight a ++ eight b) % 2147483648
theorem mix_two (a b : Int) : fnvF (fnvF 2166136261 (eight a)) (eight b) % 2147483648 = mix a b := by unfold mix fnv; rw [fnvF_app]
theorem mix_lt (a b : Int) : mix a b < 2147483648 := Nat.mod_lt _ (by decide)
end Go.Proofs.Ythfpggeflokgfaa.M
