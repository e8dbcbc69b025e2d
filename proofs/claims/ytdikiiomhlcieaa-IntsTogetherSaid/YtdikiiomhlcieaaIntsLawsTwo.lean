/-
  More walks of laws of the layer ints: for every input the law returns true, and the world is as it was.
-/
import Derived.Test.YtdikiiomhlcieaaIntsLaws
namespace Go.Proofs.Ytdikiiomhlcieaa
open Go.RowKit
open IP (wr sg rotN)
set_option linter.unusedVariables false

namespace IL
open IC
theorem rotI_rotI (v a b : Int) (h3 : 0 ≤ v) (h4 : v ≤ 4294967295) : rotI (rotI v a) b = rotI v (a + b) := by
  unfold rotI
  rw [Int.toNat_natCast, IP.rot_rot v.toNat _ _ (by omega) (by omega) (by omega)]
  congr 2; omega
theorem rotI_zero (v : Int) (h3 : 0 ≤ v) (h4 : v ≤ 4294967295) : rotI v 0 = v := by
  unfold rotI
  show ((rotN v.toNat 0 : Nat) : Int) = v
  rw [IP.rot_zero v.toNat (by omega)]; omega
theorem rotI_32 (v : Int) (h3 : 0 ≤ v) (h4 : v ≤ 4294967295) : rotI v 32 = v := rotI_zero v h3 h4

theorem tmod1000 (a : Int) : -999 ≤ a.tmod 1000 ∧ a.tmod 1000 ≤ 999 := by
  by_cases h : 0 ≤ a
  · rw [Int.tmod_eq_emod_of_nonneg h]; omega
  · obtain ⟨m, rfl⟩ : ∃ m, a = -m := ⟨-a, by omega⟩
    rw [Int.neg_tmod, Int.tmod_eq_emod_of_nonneg (by omega)]; omega

theorem together (a0 : Int) (a1 : Int) (a2 : Int) (w0 : (Lit.int .u32 a0).wf = true) (w1 : (Lit.int .i64 a1).wf = true) (w2 : (Lit.int .i64 a2).wf = true) (w : World) :
    Calls Try.prog 6 #[.int .u32 a0, .int .i64 a1, .int .i64 a2] w fun e w' => e = .returned (.bool true) ∧ w = w' := by
  obtain ⟨b1, b2⟩ := bounds_u32 w0
  obtain ⟨b3, b4⟩ := bounds_i64 w1
  obtain ⟨b5, b6⟩ := bounds_i64 w2
  obtain ⟨hA1, hA2⟩ := tmod1000 a1
  obtain ⟨hB1, hB2⟩ := tmod1000 a2
  obtain ⟨A, hA⟩ : ∃ A : Int, a1.tmod 1000 = A := ⟨_, rfl⟩
  obtain ⟨B, hB⟩ : ∃ B : Int, a2.tmod 1000 = B := ⟨_, rfl⟩
  rw [hA] at hA1 hA2
  rw [hB] at hB1 hB2
  obtain ⟨x1, x2⟩ := rotI_lt a0 A b1 b2
  have e1 := rotI_rotI a0 A B b1 b2
  have e2 := rotI_rotI a0 A (-A) b1 b2
  rw [show A + -A = 0 by omega, rotI_zero a0 b1 b2] at e2
  have e3 := rotI_zero a0 b1 b2
  have e4 := rotI_32 a0 b1 b2
  generalize hX : rotI a0 A = X at *
  generalize hY : rotI a0 (A + B) = Y at *
  have HX := Lib.hid hX; have HY := Lib.hid hY; have E1 := Lib.hid e1; have E2 := Lib.hid e2; have E3 := Lib.hid e3; have E4 := Lib.hid e4
  clear hX hY e1 e2 e3 e4
  go_enter Try.func6, Try.ntmps6
  go_wp2_with fail
  refine (works_yes _).mono ?_; rintro e w' ⟨rfl, rfl⟩
  go_wp2_with fail
  refine (Rotate_any _ _ _ (by omega) (by omega) b1 b2).mono ?_; rw [HX.out]; rintro e w' ⟨rfl, rfl⟩
  go_wp2_with fail
  refine (Rotate_any _ _ _ (by omega) (by omega) x1 x2).mono ?_; rw [E1.out]; rintro e w' ⟨rfl, rfl⟩
  go_wp2_with fail
  refine (Rotate_any _ _ _ (by omega) (by omega) b1 b2).mono ?_; rw [HY.out]; rintro e w' ⟨rfl, rfl⟩
  go_wp2_with fail
  refine (Rotate_any _ _ _ (by omega) (by omega) b1 b2).mono ?_; rw [E3.out]; rintro e w' ⟨rfl, rfl⟩
  go_wp2_with fail
  refine (Rotate_any _ _ _ (by omega) (by omega) b1 b2).mono ?_; rw [E4.out]; rintro e w' ⟨rfl, rfl⟩
  go_wp2_with fail
  refine (Rotate_any _ _ _ (by omega) (by omega) b1 b2).mono ?_; rw [HX.out]; rintro e w' ⟨rfl, rfl⟩
  go_wp2_with fail
  refine (Rotate_any _ _ _ (by omega) (by omega) x1 x2).mono ?_; rw [E2.out]; rintro e w' ⟨rfl, rfl⟩
  go_wp2_with fail
  go_ret
  exact ⟨rfl, rfl⟩

theorem wr_add (a b n : Int) (h : n ≤ 64) : wr (IntKind.u64.wrap (wr a n + wr b n)) n = wr (IntKind.u64.wrap (a + b)) n := by
  rw [wr_u64 _ _ h, wr_u64 _ _ h]; unfold wr; exact (Int.add_emod _ _ _).symm
theorem wr_mul (a b n : Int) (h : n ≤ 64) : wr (IntKind.u64.wrap (wr a n * wr b n)) n = wr (IntKind.u64.wrap (a * b)) n := by
  rw [wr_u64 _ _ h, wr_u64 _ _ h]; unfold wr; exact (Int.mul_emod _ _ _).symm

theorem sums (a0 : Int) (a1 : Int) (a2 : Int) (w0 : (Lit.int .u64 a0).wf = true) (w1 : (Lit.int .u64 a1).wf = true) (w2 : (Lit.int .i64 a2).wf = true) (w : World) :
    Calls Try.prog 8 #[.int .u64 a0, .int .u64 a1, .int .i64 a2] w fun e w' => e = .returned (.bool true) ∧ w = w' := by
  obtain ⟨b1, b2⟩ := bounds_u64 w0
  obtain ⟨b3, b4⟩ := bounds_u64 w1
  obtain ⟨b5, b6⟩ := bounds_i64 w2
  obtain ⟨u, hu⟩ : ∃ u : Int, IntKind.u64.wrap a2 = u := ⟨_, rfl⟩
  obtain ⟨r, hr⟩ : ∃ r : Int, u % 64 = r := ⟨_, rfl⟩
  have hu1 : 0 ≤ u := by rw [← hu]; exact (u64_bd a2).1
  have hr1 : 0 ≤ r := by omega
  have hr2 : r < 64 := by omega
  have m1 : 1 ≤ 1 + r := by omega
  have m2 : 1 + r ≤ 64 := by omega
  have s1 := wr_add a0 a1 (1 + r) m2
  have s2 := wr_mul a0 a1 (1 + r) m2
  generalize hX : wr a0 (1 + r) = X at *
  generalize hY : wr a1 (1 + r) = Y at *
  obtain ⟨p1, hp1⟩ : ∃ p : Int, IntKind.u64.wrap (X + Y) = p := ⟨_, rfl⟩
  obtain ⟨p2, hp2⟩ : ∃ p : Int, IntKind.u64.wrap (a0 + a1) = p := ⟨_, rfl⟩
  obtain ⟨p3, hp3⟩ : ∃ p : Int, IntKind.u64.wrap (X * Y) = p := ⟨_, rfl⟩
  obtain ⟨p4, hp4⟩ : ∃ p : Int, IntKind.u64.wrap (a0 * a1) = p := ⟨_, rfl⟩
  obtain ⟨g1, g2⟩ := u64_bd (X + Y)
  obtain ⟨g3, g4⟩ := u64_bd (a0 + a1)
  obtain ⟨g5, g6⟩ := u64_bd (X * Y)
  obtain ⟨g7, g8⟩ := u64_bd (a0 * a1)
  rw [hp1] at g1 g2
  rw [hp2] at g3 g4
  rw [hp3] at g5 g6
  rw [hp4] at g7 g8
  rw [hp1, hp2] at s1
  rw [hp3, hp4] at s2
  generalize hQ : wr p2 (1 + r) = Q at *
  generalize hR : wr p4 (1 + r) = R at *
  have HX := Lib.hid hX; have HY := Lib.hid hY; have HQ := Lib.hid hQ; have HR := Lib.hid hR; have S1 := Lib.hid s1; have S2 := Lib.hid s2
  clear hX hY hQ hR s1 s2
  go_enter Try.func8, Try.ntmps8
  go_wp2_with fail
  refine (works_yes _).mono ?_; rintro e w' ⟨rfl, rfl⟩
  go_wp2_with fail
  refine (Wrap_yes _ _ _ m1 m2 b1 b2).mono ?_; rw [HX.out]; rintro e w' ⟨rfl, rfl⟩
  go_wp2_with fail
  refine (Wrap_yes _ _ _ m1 m2 b3 b4).mono ?_; rw [HY.out]; rintro e w' ⟨rfl, rfl⟩
  go_wp2_with fail
  refine (Wrap_yes _ _ _ m1 m2 g1 g2).mono ?_; rw [S1.out]; rintro e w' ⟨rfl, rfl⟩
  go_wp2_with fail
  refine (Wrap_yes _ _ _ m1 m2 g3 g4).mono ?_; rw [HQ.out]; rintro e w' ⟨rfl, rfl⟩
  go_wp2_with fail
  refine (Wrap_yes _ _ _ m1 m2 g5 g6).mono ?_; rw [S2.out]; rintro e w' ⟨rfl, rfl⟩
  go_wp2_with fail
  refine (Wrap_yes _ _ _ m1 m2 g7 g8).mono ?_; rw [HR.out]; rintro e w' ⟨rfl, rfl⟩
  go_wp2_with fail
  go_ret
  exact ⟨rfl, rfl⟩

theorem shI_bd (v b : Int) (h3 : 0 ≤ v) (h4 : v ≤ 18446744073709551615) : 0 ≤ shI v b ∧ shI v b ≤ 18446744073709551615 := by
  unfold shI
  split
  · split
    · have p : (0 : Int) < 2 ^ (-b).toNat := IP.pow_pos' _
      have q : 0 ≤ v / 2 ^ (-b).toNat := Int.ediv_nonneg h3 (Int.le_of_lt p)
      have r : v / 2 ^ (-b).toNat ≤ v := Int.ediv_le_self _ h3
      omega
    · omega
  · omega
theorem shI_zero (v : Int) (h3 : 0 ≤ v) (h4 : v ≤ 18446744073709551615) : shI v 0 = v := by
  unfold shI
  rw [if_pos (by omega), if_neg (by omega)]
  show v * 1 % 18446744073709551616 = v
  omega
theorem shI_left (v : Int) (a b : Nat) (ha : a < 64) (hb : b < 64) : shI (shI v a) b = shI v ((a : Int) + b) := by
  unfold shI
  rw [if_pos (by omega), if_neg (by omega), if_pos (by omega), if_neg (by omega), Int.toNat_natCast, Int.toNat_natCast]
  have e : v * 2 ^ a % 18446744073709551616 * 2 ^ b % 18446744073709551616 = v * 2 ^ (a + b) % 18446744073709551616 := by
    rw [Int.mul_emod, Int.emod_emod_of_dvd _ (Int.dvd_refl _), ← Int.mul_emod, Int.mul_assoc, ← Int.pow_add]
  rw [e]
  by_cases h : a + b < 64
  · rw [if_pos (by omega), if_neg (by omega), show ((a : Int) + b).toNat = a + b by omega]
  · rw [if_neg (by omega), IP.pow_split (a + b) 64 (by omega), ← Int.mul_assoc]
    exact Int.mul_emod_left _ _
theorem shI_neg (v : Int) (a : Nat) (ha : a < 64) (h3 : 0 ≤ v) (h4 : v ≤ 18446744073709551615) : shI v (-(a : Int)) = v / 2 ^ a := by
  by_cases h : a = 0
  · subst h; rw [Int.pow_zero, Int.ediv_one]; exact shI_zero v h3 h4
  · unfold shI
    rw [if_pos (by omega), if_pos (by omega), Int.neg_neg, Int.toNat_natCast]
theorem shI_right (v : Int) (a b : Nat) (ha : a < 64) (hb : b < 64) (h3 : 0 ≤ v) (h4 : v ≤ 18446744073709551615) : shI (shI v (-(a : Int))) (-(b : Int)) = shI v (-(a : Int) + -(b : Int)) := by
  obtain ⟨c1, c2⟩ := shI_bd v (-(a : Int)) h3 h4
  rw [shI_neg _ b hb c1 c2, shI_neg v a ha h3 h4, Int.ediv_ediv_of_nonneg (Int.le_of_lt (IP.pow_pos' _)), ← Int.pow_add]
  by_cases h : a + b < 64
  · have e : -(a : Int) + -(b : Int) = -((a + b : Nat) : Int) := by omega
    rw [e, shI_neg v (a + b) h h3 h4]
  · unfold shI
    rw [if_neg (by omega)]
    refine Int.ediv_eq_zero_of_lt h3 ?_
    rw [IP.pow_cast]
    have := Nat.pow_le_pow_right (n := 2) (by decide) (show 64 ≤ a + b by omega)
    omega

theorem shifts (a0 : Int) (a1 : Int) (a2 : Int) (a3 : Bool) (w0 : (Lit.int .u64 a0).wf = true) (w1 : (Lit.int .i64 a1).wf = true) (w2 : (Lit.int .i64 a2).wf = true) (w : World) :
    Calls Try.prog 10 #[.int .u64 a0, .int .i64 a1, .int .i64 a2, .bool a3] w fun e w' => e = .returned (.bool true) ∧ w = w' := by
  obtain ⟨b1, b2⟩ := bounds_u64 w0
  obtain ⟨b3, b4⟩ := bounds_i64 w1
  obtain ⟨b5, b6⟩ := bounds_i64 w2
  obtain ⟨u, hu⟩ : ∃ u : Int, IntKind.u64.wrap a1 = u := ⟨_, rfl⟩
  have hu1 : 0 ≤ u := by rw [← hu]; exact (u64_bd a1).1
  obtain ⟨A, hA⟩ : ∃ A : Nat, u % 64 = A := Int.eq_ofNat_of_zero_le (by omega)
  obtain ⟨t, ht⟩ : ∃ t : Int, IntKind.u64.wrap a2 = t := ⟨_, rfl⟩
  have ht1 : 0 ≤ t := by rw [← ht]; exact (u64_bd a2).1
  obtain ⟨B, hB⟩ : ∃ B : Nat, t % 64 = B := Int.eq_ofNat_of_zero_le (by omega)
  have hA2 : A < 64 := by omega
  have hB2 : B < 64 := by omega
  have z1 := Lib.hid (shI_zero a0 b1 b2)
  have z2 := Lib.hid (show shI a0 64 = 0 by unfold shI; rw [if_neg (by omega)])
  have z3 := Lib.hid (show shI a0 (-64) = 0 by unfold shI; rw [if_neg (by omega)])
  cases a3 with
  | true =>
    have e := shI_left a0 A B hA2 hB2
    obtain ⟨x1, x2⟩ := shI_bd a0 A b1 b2
    generalize hX : shI a0 (A : Int) = X at *
    generalize hY : shI a0 ((A : Int) + (B : Int)) = Y at *
    have HX := Lib.hid hX; have HY := Lib.hid hY; have E := Lib.hid e
    clear hX hY e
    go_enter Try.func10, Try.ntmps10
    go_wp2_with fail
    refine (works_yes _).mono ?_; rintro e w' ⟨rfl, rfl⟩
    go_wp2_with fail
    refine (Shift_any _ _ _ (by omega) (by omega) b1 b2).mono ?_; rw [HX.out]; rintro e w' ⟨rfl, rfl⟩
    go_wp2_with fail
    refine (Shift_any _ _ _ (by omega) (by omega) x1 x2).mono ?_; rw [E.out]; rintro e w' ⟨rfl, rfl⟩
    go_wp2_with fail
    refine (Shift_any _ _ _ (by omega) (by omega) b1 b2).mono ?_; rw [HY.out]; rintro e w' ⟨rfl, rfl⟩
    go_wp2_with fail
    refine (Shift_any _ _ _ (by omega) (by omega) b1 b2).mono ?_; rw [z1.out]; rintro e w' ⟨rfl, rfl⟩
    go_wp2_with fail
    refine (Shift_any _ _ _ (by omega) (by omega) b1 b2).mono ?_; rw [z2.out]; rintro e w' ⟨rfl, rfl⟩
    go_wp2_with fail
    refine (Shift_any _ _ _ (by omega) (by omega) b1 b2).mono ?_; rw [z3.out]; rintro e w' ⟨rfl, rfl⟩
    go_wp2_with fail
    go_ret
    exact ⟨rfl, rfl⟩
  | false =>
    have e := shI_right a0 A B hA2 hB2 b1 b2
    obtain ⟨x1, x2⟩ := shI_bd a0 (-(A : Int)) b1 b2
    generalize hX : shI a0 (-(A : Int)) = X at *
    generalize hY : shI a0 (-(A : Int) + -(B : Int)) = Y at *
    have HX := Lib.hid hX; have HY := Lib.hid hY; have E := Lib.hid e
    clear hX hY e
    go_enter Try.func10, Try.ntmps10
    go_wp2_with fail
    refine (works_yes _).mono ?_; rintro e w' ⟨rfl, rfl⟩
    go_wp2_with fail
    refine (Shift_any _ _ _ (by omega) (by omega) b1 b2).mono ?_; rw [HX.out]; rintro e w' ⟨rfl, rfl⟩
    go_wp2_with fail
    refine (Shift_any _ _ _ (by omega) (by omega) x1 x2).mono ?_; rw [E.out]; rintro e w' ⟨rfl, rfl⟩
    go_wp2_with fail
    refine (Shift_any _ _ _ (by omega) (by omega) b1 b2).mono ?_; rw [HY.out]; rintro e w' ⟨rfl, rfl⟩
    go_wp2_with fail
    refine (Shift_any _ _ _ (by omega) (by omega) b1 b2).mono ?_; rw [z1.out]; rintro e w' ⟨rfl, rfl⟩
    go_wp2_with fail
    refine (Shift_any _ _ _ (by omega) (by omega) b1 b2).mono ?_; rw [z2.out]; rintro e w' ⟨rfl, rfl⟩
    go_wp2_with fail
    refine (Shift_any _ _ _ (by omega) (by omega) b1 b2).mono ?_; rw [z3.out]; rintro e w' ⟨rfl, rfl⟩
    go_wp2_with fail
    go_ret
    exact ⟨rfl, rfl⟩
end IL
end Go.Proofs.Ytdikiiomhlcieaa
