/-
  Layer 4: the law HashExtends.
-/
import Derived.Test.YtcokifdeecnpdaaHLawB
import Derived.Deep.DeepCutAuto
namespace Go.Proofs.Ytcokifdeecnpdaa
open Go.RowKit

def one (c : UInt8) : ByteArray := ⟨#[c]⟩
theorem conv1 (c : UInt8) {W : World} {b : Nat} (h : W.heap[b]? = some (.cells #[.int .u8 (c.toNat : Int)] 5)) :
    (convert 25 9 (.slice (some ⟨b, 0, none⟩) 1 1)).run Try.prog W = .ok (.string (one c)) W := by
  have hr : RB W b (b + 1) (some ⟨b, 0, none⟩) 1 1 [c] := by
    refine ⟨rfl, Nat.le_refl _, (by unfold maxLen; omega), (fun e => by cases e), fun _ => ⟨b, 0, rfl, Nat.le_refl _, by omega, fun j hj => ?_⟩⟩
    obtain rfl : j = 0 := by omega
    rw [heap_cell h]
    rfl
  exact run_conv hr
theorem one_size (c : UInt8) : (one c).size = 1 := rfl
theorem app_one (s : ByteArray) (c : UInt8) : (s ++ one c).data.toList = s.data.toList ++ [c] := by simp [one]
theorem app_size (s : ByteArray) (c : UInt8) : (s ++ one c).size = s.size + 1 := by rw [ByteArray.size_append, one_size]

theorem two_new (w : World) (a b : Obj) : Below w.heap.size w ((w.alloc a).alloc b).drew := (((Below.refl _ _).alloc (Nat.le_refl _) a).alloc (by simp) b).trans ⟨rfl, rfl, rfl, Nat.le_refl _, fun _ _ => rfl⟩

set_option maxHeartbeats 2000000 in
set_option maxRecDepth 100000 in
theorem hashExtendsW (s : ByteArray) (x y : UInt8) (w : World) (hs : s.size ≤ maxLen) :
    Calls Try.prog 8 #[.string s, .int .u8 (x.toNat : Int), .int .u8 (y.toNat : Int)] w fun e w' => e = .returned (.bool true) ∧ Below w.heap.size w w' := by
  have hm := hs
  unfold maxLen at hm
  by_cases h : 1000 < s.size
  · go_enter Try.func8, Try.ntmps8
    go_wp2_with fail
    refine (works_any _).mono ?_
    rintro e w1 ⟨rfl, hb⟩
    go_wp2_with fail
    go_ret
    exact ⟨rfl, hb⟩
  · have c1 := fun (c : UInt8) => conv1 c (W := (w.alloc (.cells #[.int .u8 (c.toNat : Int)] 5)).drew) (b := w.heap.size) (heap_alloc_new w _)
    have c2 := fun (c : UInt8) (o : Obj) => conv1 c (W := ((w.alloc (.cells #[.int .u8 (c.toNat : Int)] 5)).alloc o).drew) (b := w.heap.size) ((Below.heap_alloc _ o _ (by simp)).trans (heap_alloc_new w _))
    have c3 := fun (c : UInt8) (o : Obj) => conv1 c (W := ((w.alloc o).alloc (.cells #[.int .u8 (c.toNat : Int)] 5)).drew) (b := w.heap.size + 1) (by have := heap_alloc_new (w.alloc o) (.cells #[.int .u8 (c.toNat : Int)] 5); rw [World.size_alloc] at this; exact this)
    have z1 := one_size
    have hfits : ∀ c, (s ++ one c).size ≤ maxLen := fun c => by rw [app_size]; unfold maxLen; omega
    have HF := Lib.hid hfits
    clear hfits
    go_enter Try.func8, Try.ntmps8
    go_upto_region 3 with fail
    go_cut [7, 8] (fun s7 s8 wx => s7 = .int .i64 (M.fnv (s ++ one x).data.toList) ∧ s8 = .int .i64 (M.fnv (s ++ one y).data.toList) ∧ Below w.heap.size w wx)
    case first =>
      go_region_with (go_at_call 10; ((with_reducible refine (fnv_any _ _ (HF.out _)).mono ?_)); rintro e w' ⟨rfl, rfl⟩)
      all_goals (go_wp2_with fail; go_meet; exact ⟨rfl, rfl, two_new _ _ _⟩)
    case rest =>
      obtain ⟨rfl, rfl, hb⟩ := hcut
      clear c1 c2 c3 z1
      have hl := M.fnv_lt s.data.toList
      rw [app_one, app_one, M.fnv_snoc, M.fnv_snoc]
      have hx := xor_n hl (show x.toNat < 4294967296 by have := M.u8_lt x; omega)
      have hfx := fb_eq (M.fnv s.data.toList) x.toNat
      have hl1 := M.fb_lt (M.fnv s.data.toList) x.toNat
      have hl2 := M.fb_lt (M.fnv s.data.toList) y.toNat
      have hinj : M.fb (M.fnv s.data.toList) x.toNat = M.fb (M.fnv s.data.toList) y.toNat → x = y := M.fb_inj hl
      obtain ⟨F, hF⟩ : ∃ F, F = M.fnv s.data.toList := ⟨_, rfl⟩
      rw [← hF] at hl hx hfx hl1 hl2 hinj ⊢
      have H1 := Lib.hid hF
      clear hF
      obtain ⟨P, hP⟩ : ∃ P, P = M.fb F x.toNat := ⟨_, rfl⟩
      obtain ⟨Q, hQ⟩ : ∃ Q, Q = M.fb F y.toNat := ⟨_, rfl⟩
      rw [← hP] at hfx hl1 hinj ⊢
      rw [← hQ] at hl2 hinj ⊢
      have hx8 := M.u8_lt x
      by_cases hxy : x = y
      · subst hxy
        obtain rfl : P = Q := by rw [hP, hQ]
        clear hP hQ hinj hl2
        go_wp2_with fail
        refine (fnv_any _ _ hs).mono ?_
        rintro e w' ⟨rfl, rfl⟩
        rw [← H1.out]
        go_wp2_with fail
        refine (works_any _).mono ?_
        rintro e w1 ⟨rfl, hb2⟩
        go_wp2_with fail
        go_ret
        exact ⟨rfl, hb.trans (hb2.mono hb.size)⟩
      · have hne : P ≠ Q := fun e => hxy (hinj e)
        clear hP hQ hinj
        obtain ⟨P', hP⟩ : ∃ P' : Int, P' = (P : Int) := ⟨_, rfl⟩
        obtain ⟨Q', hQ⟩ : ∃ Q' : Int, Q' = (Q : Int) := ⟨_, rfl⟩
        have e1 : (P' == Q') = false := by rw [beq_eq_false_iff_ne, hP, hQ]; omega
        obtain ⟨X, hX⟩ : ∃ X : Int, X = (x.toNat : Int) := ⟨_, rfl⟩
        obtain ⟨Y, hY⟩ : ∃ Y : Int, Y = (y.toNat : Int) := ⟨_, rfl⟩
        have e2 : (X == Y) = false := by
          rw [beq_eq_false_iff_ne, hX, hY]; intro e; exact hxy (UInt8.toNat_inj.1 (Int.ofNat_inj.1 e))
        have b1 : 0 ≤ P' := by omega
        have b2 : P' < 4294967296 := by omega
        have x1 : 0 ≤ X := by omega
        have x2 : X < 256 := by have := M.u8_lt x; omega
        rw [← hX] at hx
        rw [← hP] at hfx
        rw [← hP, ← hQ, ← hX, ← hY]
        clear hP hQ hX hY hne hxy hl1 hl2
        go_wp2_with fail
        refine (fnv_any _ _ hs).mono ?_
        rintro e w' ⟨rfl, rfl⟩
        rw [← H1.out]
        go_wp2_with fail
        refine (works_any _).mono ?_
        rintro e w1 ⟨rfl, hb2⟩
        go_wp2_with fail
        go_ret
        exact ⟨rfl, hb.trans (hb2.mono hb.size)⟩

theorem hashExtendsI (s : ByteArray) (a b : Int) (ha : (Lit.int .u8 a).wf = true) (hb : (Lit.int .u8 b).wf = true) (w : World) (hs : s.size ≤ maxLen) :
    Calls Try.prog 8 #[.string s, .int .u8 a, .int .u8 b] w fun e w' => e = .returned (.bool true) ∧ Below w.heap.size w w' := by
  obtain ⟨x, rfl⟩ := u8_of ha
  obtain ⟨y, rfl⟩ := u8_of hb
  exact hashExtendsW s x y w hs
end Go.Proofs.Ytcokifdeecnpdaa
