/-
  Plain facts on whole numbers for the layer ints (powers of two, remainders, turning 32 bits). No Go in sight.
-/
import Derived.WalkKit
namespace Go.Proofs.Ytkhneijleeocpaa.IP
open Go.RowKit (wrap64 wrap32)
def wr (v n : Int) : Int := v % 2 ^ n.toNat
def sg (v n : Int) : Int := if v % 2 ^ n.toNat < 2 ^ (n.toNat - 1) then v % 2 ^ n.toNat else v % 2 ^ n.toNat - 2 ^ n.toNat

theorem wrap_u64 (x : Int) : IntKind.u64.wrap x = x % 2 ^ 64 := by
  simp [IntKind.wrap, IntKind.bits, IntKind.signed]

theorem pow_pos' (k : Nat) : (0 : Int) < 2 ^ k := Int.pow_pos (by decide)

theorem pow_split (m n : Nat) (h : n ≤ m) : (2 : Int) ^ m = 2 ^ (m - n) * 2 ^ n := by
  rw [← Int.pow_add]; congr 1; omega

theorem low_nat (v : Int) (n : Nat) (h : n ≤ 64) : v * 2 ^ (64 - n) % 2 ^ 64 = v % 2 ^ n * 2 ^ (64 - n) := by
  rw [pow_split 64 n h, Int.mul_comm v, Int.mul_emod_mul_of_pos _ _ (pow_pos' _), Int.mul_comm]

theorem low_eq (v n : Int) (h1 : 1 ≤ n) (h2 : n ≤ 64) : IntKind.u64.wrap (v * 2 ^ (64 - n).toNat) / 2 ^ (64 - n).toNat = wr v n := by
  have e : (64 - n).toNat = 64 - n.toNat := by omega
  rw [wrap_u64, e, low_nat _ _ (by omega), Int.mul_ediv_cancel _ (Int.ne_of_gt (pow_pos' _))]; rfl

theorem wrap64_of (x : Int) (h0 : 0 ≤ x) (h : x < 2 ^ 64) : wrap64 x = if x < 2 ^ 63 then x else x - 2 ^ 64 := by
  unfold wrap64
  split <;> omega

/-- the sign's bit at the top, and the shift back -/
theorem sign_eq (v n : Int) (h1 : 1 ≤ n) (h2 : n ≤ 64) : wrap64 (IntKind.u64.wrap (v * 2 ^ (64 - n).toNat)) / 2 ^ (64 - n).toNat = sg v n := by
  have e : (64 - n).toNat = 64 - n.toNat := by omega
  obtain ⟨k, hk⟩ : ∃ k, k = n.toNat := ⟨_, rfl⟩
  have hk1 : 1 ≤ k := by omega
  have hk2 : k ≤ 64 := by omega
  unfold sg
  rw [wrap_u64, e, ← hk, low_nat _ _ hk2]
  have p := pow_pos' (64 - k)
  have hm0 : 0 ≤ v % 2 ^ k := Int.emod_nonneg _ (Int.ne_of_gt (pow_pos' _))
  have hm1 : v % 2 ^ k < 2 ^ k := Int.emod_lt_of_pos _ (pow_pos' _)
  generalize v % 2 ^ k = m at *
  have s1 : (2 : Int) ^ 64 = 2 ^ k * 2 ^ (64 - k) := by rw [← Int.pow_add]; congr 1; omega
  have s2 : (2 : Int) ^ 63 = 2 ^ (k - 1) * 2 ^ (64 - k) := by rw [← Int.pow_add]; congr 1; omega
  have hlt : m * 2 ^ (64 - k) < 2 ^ 64 := by rw [s1]; exact Int.mul_lt_mul_of_pos_right hm1 p
  rw [wrap64_of _ (Int.mul_nonneg hm0 (Int.le_of_lt p)) hlt]
  by_cases hc : m < 2 ^ (k - 1)
  · have : m * 2 ^ (64 - k) < 2 ^ 63 := by rw [s2]; exact Int.mul_lt_mul_of_pos_right hc p
    rw [if_pos this, if_pos hc, Int.mul_ediv_cancel _ (Int.ne_of_gt p)]
  · have : ¬ m * 2 ^ (64 - k) < 2 ^ 63 := by
      rw [s2]; exact Int.not_lt.2 (Int.mul_le_mul_of_nonneg_right (Int.not_lt.1 hc) (Int.le_of_lt p))
    rw [if_neg this, if_neg hc, s1, ← Int.sub_mul, Int.mul_ediv_cancel _ (Int.ne_of_gt p)]

theorem wr_bd (v n : Int) : 0 ≤ wr v n := Int.emod_nonneg _ (Int.ne_of_gt (pow_pos' _))
theorem wr_lt (v n : Int) : wr v n < 2 ^ n.toNat := Int.emod_lt_of_pos _ (pow_pos' _)
theorem pow_cast (k : Nat) : (2 : Int) ^ k = ((2 ^ k : Nat) : Int) := by simp
theorem pow_le64 (n : Int) (h : n ≤ 64) : (2 : Int) ^ n.toNat ≤ 18446744073709551616 := by
  have := Nat.pow_le_pow_right (n := 2) (by decide) (show n.toNat ≤ 64 by omega)
  rw [pow_cast]; omega
theorem pow_le63 (n : Int) (h : n ≤ 63) : (2 : Int) ^ n.toNat ≤ 9223372036854775808 := by
  have := Nat.pow_le_pow_right (n := 2) (by decide) (show n.toNat ≤ 63 by omega)
  rw [pow_cast]; omega

def rotN (v k : Nat) : Nat := v * 2 ^ k % 2 ^ 32 + v / 2 ^ (32 - k)

theorem rot_or (v k : Nat) (hv : v < 2 ^ 32) (hk : k ≤ 32) : (v * 2 ^ k % 2 ^ 32) ||| (v / 2 ^ (32 - k)) = rotN v k := by
  unfold rotN
  apply nat_join k
  · have e : (2 : Nat) ^ 32 = 2 ^ (32 - k) * 2 ^ k := by rw [← Nat.pow_add]; congr 1; omega
    rw [e, Nat.mul_mod_mul_right, Nat.mul_mod_left]
  · rw [Nat.div_lt_iff_lt_mul (Nat.two_pow_pos _), ← Nat.pow_add]
    have : k + (32 - k) = 32 := by omega
    rw [this]; exact hv

theorem rot_bit (v k j : Nat) (hv : v < 2 ^ 32) (hk : k < 32) : (rotN v k).testBit j = (decide (j < 32) && if k ≤ j then v.testBit (j - k) else v.testBit (j + 32 - k)) := by
  rw [← rot_or v k hv (by omega), Nat.testBit_or, Nat.testBit_mod_two_pow, Nat.testBit_mul_two_pow, Nat.testBit_div_two_pow]
  have big : ∀ i, 32 ≤ i → v.testBit i = false := fun i hi => Nat.testBit_lt_two_pow (Nat.lt_of_lt_of_le hv (Nat.pow_le_pow_right (by decide) hi))
  by_cases h : k ≤ j
  · rw [if_pos h, big (j + (32 - k)) (by omega)]
    simp [h]
  · have e : j + (32 - k) = j + 32 - k := by omega
    rw [if_neg h, e]
    have hj : j < 32 := by omega
    simp [h, hj]

theorem rot_lt (v k : Nat) (hv : v < 2 ^ 32) (hk : k < 32) : rotN v k < 2 ^ 32 := by
  apply Nat.lt_pow_two_of_testBit
  intro i hi
  rw [rot_bit v k i hv hk]
  have : ¬ i < 32 := by omega
  simp [this]

theorem rot_rot (v a b : Nat) (hv : v < 2 ^ 32) (ha : a < 32) (hb : b < 32) : rotN (rotN v a) b = rotN v ((a + b) % 32) := by
  apply Nat.eq_of_testBit_eq
  intro j
  rw [rot_bit _ b j (rot_lt v a hv ha) hb, rot_bit v _ j hv (Nat.mod_lt _ (by decide))]
  have hc : (a + b) % 32 = a + b ∨ (a + b) % 32 + 32 = a + b := by omega
  have hcl : (a + b) % 32 < 32 := Nat.mod_lt _ (by decide)
  generalize (a + b) % 32 = c at *
  by_cases hj : j < 32
  · simp only [hj, decide_true, Bool.true_and]
    by_cases h1 : b ≤ j
    · rw [if_pos h1, rot_bit v a _ hv ha]
      have : j - b < 32 := by omega
      simp only [this, decide_true, Bool.true_and]
      by_cases h2 : a ≤ j - b
      · rw [if_pos h2]
        by_cases h3 : c ≤ j
        · rw [if_pos h3]; exact congrArg _ (by omega)
        · omega
      · rw [if_neg h2]
        by_cases h3 : c ≤ j
        · rw [if_pos h3]; exact congrArg _ (by omega)
        · rw [if_neg h3]; exact congrArg _ (by omega)
    · rw [if_neg h1, rot_bit v a _ hv ha]
      have : j + 32 - b < 32 := by omega
      simp only [this, decide_true, Bool.true_and]
      by_cases h2 : a ≤ j + 32 - b
      · rw [if_pos h2]
        by_cases h3 : c ≤ j
        · rw [if_pos h3]; exact congrArg _ (by omega)
        · rw [if_neg h3]; exact congrArg _ (by omega)
      · rw [if_neg h2]
        by_cases h3 : c ≤ j
        · omega
        · rw [if_neg h3]; exact congrArg _ (by omega)
  · simp [hj]

theorem rot_zero (v : Nat) (hv : v < 2 ^ 32) : rotN v 0 = v := by
  unfold rotN
  rw [Nat.pow_zero, Nat.mul_one, Nat.sub_zero, Nat.mod_eq_of_lt hv, Nat.div_eq_of_lt hv]; rfl

theorem rot_step (v k i : Nat) (hk : k < 32) (hi : i < 32) (hb : v / 2 ^ i % 2 = 1) : rotN (v % 2 ^ (i + 1)) k = rotN (v % 2 ^ i) k + 2 ^ ((i + k) % 32) := by
  have hm : v % 2 ^ (i + 1) = v % 2 ^ i + 2 ^ i := by rw [Nat.mod_pow_succ, hb, Nat.mul_one]
  have hlt : v % 2 ^ i < 2 ^ i := Nat.mod_lt _ (Nat.two_pow_pos _)
  rw [hm]
  generalize v % 2 ^ i = m at *
  unfold rotN
  by_cases h : i + k < 32
  · have e1 : (i + k) % 32 = i + k := Nat.mod_eq_of_lt h
    have p1 : m + 2 ^ i < 2 ^ (i + 1) := by rw [Nat.pow_succ]; omega
    have p2 : (m + 2 ^ i) * 2 ^ k < 2 ^ 32 := by
      refine Nat.lt_of_lt_of_le (Nat.mul_lt_mul_of_pos_right p1 (Nat.two_pow_pos _)) ?_
      rw [← Nat.pow_add]; exact Nat.pow_le_pow_right (by decide) (by omega)
    have p3 : m * 2 ^ k < 2 ^ 32 := Nat.lt_of_le_of_lt (Nat.mul_le_mul_right _ (by omega)) p2
    have p4 : m + 2 ^ i < 2 ^ (32 - k) := Nat.lt_of_lt_of_le p1 (Nat.pow_le_pow_right (by decide) (by omega))
    rw [Nat.mod_eq_of_lt p2, Nat.mod_eq_of_lt p3, Nat.div_eq_of_lt p4, Nat.div_eq_of_lt (by omega), e1, Nat.add_mul, ← Nat.pow_add]
    omega
  · have e1 : (i + k) % 32 = i + k - 32 := by omega
    have e2 : (2 : Nat) ^ i = 2 ^ (32 - k) * 2 ^ (i + k - 32) := by rw [← Nat.pow_add]; congr 1; omega
    have e3 : (m + 2 ^ i) * 2 ^ k = m * 2 ^ k + 2 ^ 32 * 2 ^ (i + k - 32) := by
      rw [Nat.add_mul, ← Nat.pow_add, ← Nat.pow_add]; congr 2; omega
    rw [e3, Nat.add_mul_mod_self_left, e1, e2, Nat.add_mul_div_left _ _ (Nat.two_pow_pos _)]
    omega

theorem rot_skip (v k i : Nat) (hb : v / 2 ^ i % 2 = 0) : rotN (v % 2 ^ (i + 1)) k = rotN (v % 2 ^ i) k := by
  rw [Nat.mod_pow_succ, hb]; rfl
end Go.Proofs.Ytkhneijleeocpaa.IP
