/-
  The walks of the laws of the layer ints: for every input the law returns true, and the world is as it was.
-/
import Derived.Test.YtdikiiomhlcieaaIntsCallsTwo
import Derived.ProofKit
import Derived.OpenShut
namespace Go.Proofs.Ytdikiiomhlcieaa
open Go.RowKit
open IP (wr sg rotN)
set_option linter.unusedVariables false

namespace IL
open IC
theorem i64_bd (v : Int) : -9223372036854775808 ≤ IntKind.i64.wrap v ∧ IntKind.i64.wrap v ≤ 9223372036854775807 := by rw [IntKind.wrap_i64]; omega
theorem w64_bd (v : Int) : -9223372036854775808 ≤ wrap64 v ∧ wrap64 v ≤ 9223372036854775807 := by unfold wrap64; omega

theorem sizes (a0 : Int) (a1 : Int) (w0 : (Lit.int .u64 a0).wf = true) (w1 : (Lit.int .i64 a1).wf = true) (w : World) :
    Calls Try.prog 3 #[.int .u64 a0, .int .i64 a1] w fun e w' => e = .returned (.bool true) ∧ w = w' := by
  obtain ⟨b1, b2⟩ := bounds_u64 w0
  obtain ⟨b3, b4⟩ := bounds_i64 w1
  obtain ⟨s, hs⟩ : ∃ s : Int, wrap64 a0 = s := ⟨_, rfl⟩
  have hs1 : -9223372036854775808 ≤ s := by rw [← hs]; exact (w64_bd a0).1
  have hs2 : s ≤ 9223372036854775807 := by rw [← hs]; exact (w64_bd a0).2
  go_enter Try.func3, Try.ntmps3
  go_wp2_with fail
  refine (Wrap_any _ _ _ b1 b2).mono ?_; rintro e w' ⟨rfl, rfl⟩
  go_wp2_with fail
  refine (RWrap_any _ _ _ b1 b2).mono ?_; rintro e w' ⟨rfl, rfl⟩
  go_wp2_with fail
  refine (Sign_any _ _ _ b1 b2).mono ?_; rintro e w' ⟨rfl, rfl⟩
  go_wp2_with fail
  refine (RSign_any _ _ _ b1 b2).mono ?_; rintro e w' ⟨rfl, rfl⟩
  go_wp2_with fail
  refine (Bits_any _ _ _ hs1 hs2).mono ?_; rintro e w' ⟨rfl, rfl⟩
  go_wp2_with fail
  refine (RBits_any _ _ _ hs1 hs2).mono ?_; rintro e w' ⟨rfl, rfl⟩
  go_wp2_with fail
  go_ret
  exact ⟨rfl, rfl⟩

theorem turns (a0 : Int) (a1 : Int) (w0 : (Lit.int .u64 a0).wf = true) (w1 : (Lit.int .i64 a1).wf = true) (w : World) :
    Calls Try.prog 4 #[.int .u64 a0, .int .i64 a1] w fun e w' => e = .returned (.bool true) ∧ w = w' := by
  obtain ⟨b1, b2⟩ := bounds_u64 w0
  obtain ⟨b3, b4⟩ := bounds_i64 w1
  obtain ⟨s, hs⟩ : ∃ s : Int, wrap64 a0 = s := ⟨_, rfl⟩
  have hs1 : -9223372036854775808 ≤ s := by rw [← hs]; exact (w64_bd a0).1
  have hs2 : s ≤ 9223372036854775807 := by rw [← hs]; exact (w64_bd a0).2
  obtain ⟨u, hu⟩ : ∃ u : Int, a0 % 4294967296 = u := ⟨_, rfl⟩
  have hu1 : 0 ≤ u := by omega
  have hu2 : u ≤ 4294967295 := by omega
  go_enter Try.func4, Try.ntmps4
  go_wp2_with fail
  refine (Narrow_any _ _ hs1 hs2).mono ?_; rintro e w' ⟨rfl, rfl⟩
  go_wp2_with fail
  refine (RNarrow_any _ _ hs1 hs2).mono ?_; rintro e w' ⟨rfl, rfl⟩
  go_wp2_with fail
  refine (Rotate_any _ _ _ b3 b4 hu1 hu2).mono ?_; rintro e w' ⟨rfl, rfl⟩
  go_wp2_with fail
  refine (RRotate_any _ _ _ b3 b4 hu1 hu2).mono ?_; rintro e w' ⟨rfl, rfl⟩
  go_wp2_with fail
  refine (Shift_any _ _ _ b3 b4 b1 b2).mono ?_; rintro e w' ⟨rfl, rfl⟩
  go_wp2_with fail
  refine (RShift_any _ _ _ b3 b4 b1 b2).mono ?_; rintro e w' ⟨rfl, rfl⟩
  go_wp2_with fail
  go_ret
  exact ⟨rfl, rfl⟩

theorem half (n : Int) (h : 1 ≤ n) : (2 : Int) ^ n.toNat = 2 * 2 ^ (n.toNat - 1) := by
  rw [show n.toNat = (n.toNat - 1) + 1 by omega, Int.pow_succ, Int.mul_comm]; congr 2
theorem wr_wr (v n : Int) : wr (wr v n) n = wr v n := Int.emod_emod_of_dvd _ (Int.dvd_refl _)
theorem fits_sg (v n : Int) (h : 1 ≤ n) : fits (sg v n) n = true := by
  have p := IP.wr_bd v n
  have q := IP.wr_lt v n
  rw [half n h] at q
  have hh := half n h
  unfold wr at p q
  unfold fits sg
  rw [hh] at p q ⊢
  generalize v % (2 * 2 ^ (n.toNat - 1)) = m at *
  generalize (2 : Int) ^ (n.toNat - 1) = P at *
  split <;> simp <;> omega
theorem sg_mod (v n : Int) : ∃ q : Int, sg v n = v + q * 2 ^ n.toNat := by
  unfold sg
  have e := Int.emod_add_mul_ediv v (2 ^ n.toNat)
  split
  · exact ⟨-(v / 2 ^ n.toNat), by rw [Int.neg_mul, Int.mul_comm]; omega⟩
  · exact ⟨-(v / 2 ^ n.toNat) - 1, by rw [Int.sub_mul, Int.neg_mul, Int.mul_comm (v / 2 ^ n.toNat)]; omega⟩
theorem wr_sg (v n : Int) : wr (sg v n) n = wr v n := by
  obtain ⟨q, hq⟩ := sg_mod v n
  rw [hq]; unfold wr; exact Int.add_mul_emod_self_right _ _ _
theorem sg_wr (v n : Int) : sg (wr v n) n = sg v n := by
  unfold sg
  rw [show wr v n % 2 ^ n.toNat = v % 2 ^ n.toNat from wr_wr v n]
theorem sg_fits (v n : Int) (h : 1 ≤ n) (hf : fits v n = true) : sg v n = v := by
  have hh := half n h
  unfold fits at hf
  unfold sg
  have p : (0 : Int) < 2 ^ (n.toNat - 1) := IP.pow_pos' _
  rw [hh]
  generalize (2 : Int) ^ (n.toNat - 1) = P at *
  simp at hf
  by_cases h0 : 0 ≤ v
  · rw [Int.emod_eq_of_lt h0 (by omega), if_pos hf.2]
  · have e : v % (2 * P) = v + 2 * P := by
      rw [← Int.add_emod_right, Int.emod_eq_of_lt (by omega) (by omega)]
    rw [e, if_neg (by omega)]; omega
theorem fits_bd (v n : Int) (h : n ≤ 64) (hf : fits v n = true) : -9223372036854775808 ≤ v ∧ v ≤ 9223372036854775807 := by
  have p := IP.pow_le63 (n - 1) (by omega)
  rw [show (n - 1).toNat = n.toNat - 1 by omega] at p
  unfold fits at hf; simp at hf; omega
theorem fits_64 (v : Int) (h1 : -9223372036854775808 ≤ v) (h2 : v ≤ 9223372036854775807) : fits v 64 = true := by
  unfold fits; simp; omega
theorem wr_64 (v n : Int) (h : n ≤ 64) : 0 ≤ wr v n ∧ wr v n ≤ 18446744073709551615 := by
  have p := IP.wr_bd v n
  have q := IP.wr_lt v n
  have r := IP.pow_le64 n h
  omega

theorem back (a0 : Int) (a1 : Int) (w0 : (Lit.int .u64 a0).wf = true) (w1 : (Lit.int .i64 a1).wf = true) (w : World) :
    Calls Try.prog 5 #[.int .u64 a0, .int .i64 a1] w fun e w' => e = .returned (.bool true) ∧ w = w' := by
  obtain ⟨b1, b2⟩ := bounds_u64 w0
  obtain ⟨b3, b4⟩ := bounds_i64 w1
  obtain ⟨u, hu⟩ : ∃ u : Int, IntKind.u64.wrap a1 = u := ⟨_, rfl⟩
  obtain ⟨r, hr⟩ : ∃ r : Int, u % 64 = r := ⟨_, rfl⟩
  have hu1 : 0 ≤ u := by rw [← hu]; exact (u64_bd a1).1
  have hr1 : 0 ≤ r := by omega
  have hr2 : r < 64 := by omega
  obtain ⟨s, hs⟩ : ∃ s : Int, wrap64 a0 = s := ⟨_, rfl⟩
  have hs1 : -9223372036854775808 ≤ s := by rw [← hs]; exact (w64_bd a0).1
  have hs2 : s ≤ 9223372036854775807 := by rw [← hs]; exact (w64_bd a0).2
  have m1 : 1 ≤ 1 + r := by omega
  have m2 : 1 + r ≤ 64 := by omega
  have q1 := wr_64 a0 (1 + r) m2
  have f1 := fits_sg (wr a0 (1 + r)) (1 + r) m1
  have q2 := fits_bd _ _ m2 f1
  have f2 := wr_sg (wr a0 (1 + r)) (1 + r)
  rw [wr_wr] at f2
  generalize hW : wr a0 (1 + r) = W at *
  generalize hS : sg W (1 + r) = S at *
  obtain ⟨q11, q12⟩ := q1
  obtain ⟨q21, q22⟩ := q2
  have W1 := Lib.hid hW; have S1 := Lib.hid hS; have F1 := Lib.hid f1; have F2 := Lib.hid f2
  clear hW hS f1 f2
  by_cases hf : fits s (1 + r) = true
  · have q3 := wr_64 s (1 + r) m2
    have f3 := sg_fits s (1 + r) m1 hf
    rw [← sg_wr] at f3
    generalize hX : wr s (1 + r) = X at *
    obtain ⟨q31, q32⟩ := q3
    have X1 := Lib.hid hX; have F3 := Lib.hid f3; have HF := Lib.hid hf
    clear hX f3 hf
    go_enter Try.func5, Try.ntmps5
    go_wp2_with fail
    refine (works_yes _).mono ?_; rintro e w' ⟨rfl, rfl⟩
    go_wp2_with fail
    refine (Wrap_yes _ _ _ m1 m2 b1 b2).mono ?_; rw [W1.out]; rintro e w' ⟨rfl, rfl⟩
    go_wp2_with fail
    refine (Sign_yes _ _ _ m1 m2 q11 q12).mono ?_; rw [S1.out]; rintro e w' ⟨rfl, rfl⟩
    go_wp2_with fail
    refine (Bits_yes _ _ _ m1 m2 q21 q22 F1.out).mono ?_; rw [F2.out]; rintro e w' ⟨rfl, rfl⟩
    go_wp2_with fail
    refine (Bits_yes _ _ _ m1 m2 hs1 hs2 HF.out).mono ?_; rw [X1.out]; rintro e w' ⟨rfl, rfl⟩
    go_wp2_with fail
    refine (Sign_yes _ _ _ m1 m2 q31 q32).mono ?_; rw [F3.out]; rintro e w' ⟨rfl, rfl⟩
    go_wp2_with fail
    go_ret
    exact ⟨rfl, rfl⟩
  · have hlt : 1 + r < 64 := by
      by_cases h64 : 1 + r = 64
      · rw [h64] at hf; exact absurd (fits_64 s hs1 hs2) hf
      · omega
    have hd : decide (1 + r < 64) = true := by simp; omega
    have HF := Lib.hid (show fits s (1 + r) = false by simpa using hf)
    clear hf
    go_enter Try.func5, Try.ntmps5
    go_wp2_with fail
    refine (works_yes _).mono ?_; rintro e w' ⟨rfl, rfl⟩
    go_wp2_with fail
    refine (Wrap_yes _ _ _ m1 m2 b1 b2).mono ?_; rw [W1.out]; rintro e w' ⟨rfl, rfl⟩
    go_wp2_with fail
    refine (Sign_yes _ _ _ m1 m2 q11 q12).mono ?_; rw [S1.out]; rintro e w' ⟨rfl, rfl⟩
    go_wp2_with fail
    refine (Bits_yes _ _ _ m1 m2 q21 q22 F1.out).mono ?_; rw [F2.out]; rintro e w' ⟨rfl, rfl⟩
    go_wp2_with fail
    refine (Bits_field _ _ _ m1 m2 hs1 hs2 HF.out).mono ?_; rintro e w' ⟨rfl, rfl⟩
    go_wp2_with fail
    go_ret
    exact ⟨rfl, rfl⟩

end IL
end Go.Proofs.Ytdikiiomhlcieaa
