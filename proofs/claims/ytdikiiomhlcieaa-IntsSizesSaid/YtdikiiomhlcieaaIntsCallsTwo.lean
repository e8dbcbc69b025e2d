/-
  What the plain twin of Rotate, both Shifts and the examples return, for any world.
-/
import Derived.Test.YtdikiiomhlcieaaIntsCalls
namespace Go.Proofs.Ytdikiiomhlcieaa
open Go.RowKit
open IP (wr sg rotN)
set_option linter.unusedVariables false

namespace IC
theorem rotp_lt (V K i : Nat) (hV : V < 4294967296) (hK : K < 32) : rotN (V % 2 ^ i) K < 4294967296 :=
  IP.rot_lt _ _ (Nat.lt_of_le_of_lt (Nat.mod_le _ _) hV) hK
theorem rotp_up (V K i : Nat) (hV : V < 4294967296) (hK : K < 32) (hi : i < 32) (hb : V / 2 ^ i % 2 = 1) : rotN (V % 2 ^ i) K + 2 ^ ((i + K) % 32) = rotN (V % 2 ^ (i + 1)) K :=
  (IP.rot_step V K i hK hi hb).symm
theorem and1 (V i : Nat) (hV : V < 4294967296) : bits .and .u32 ((V : Int) / 2 ^ i) 1 = ((V / 2 ^ i % 2 : Nat) : Int) := by
  have e2 : (V : Int) / 2 ^ i = ((V / 2 ^ i : Nat) : Int) := by simp
  have hd : V / 2 ^ i < 4294967296 := Nat.lt_of_le_of_lt (Nat.div_le_self _ _) hV
  rw [e2]
  have := u32_and_nat (V / 2 ^ i) 1 hd (by decide)
  rw [nat_mask1] at this
  exact this

theorem tmod32 (n : Int) : (0 ≤ n.tmod 32 ∧ n.tmod 32 = n % 32) ∨ (n.tmod 32 < 0 ∧ n.tmod 32 + 32 = n % 32) := by
  by_cases h : 0 ≤ n
  · rw [Int.tmod_eq_emod_of_nonneg h]; omega
  · obtain ⟨m, rfl⟩ : ∃ m, n = -m := ⟨-n, by omega⟩
    rw [Int.neg_tmod, Int.tmod_eq_emod_of_nonneg (by omega)]; omega

theorem RRotate_any (v n : Int) (w : World) (h1 : -9223372036854775808 ≤ n) (h2 : n ≤ 9223372036854775807) (h3 : 0 ≤ v) (h4 : v ≤ 4294967295) :
    Calls Try.prog 20 #[.int .u32 v, .int .i64 n] w fun e w' => e = .returned (.int .u32 (rotI v n)) ∧ w = w' := by
  obtain ⟨V, rfl⟩ := Int.eq_ofNat_of_zero_le h3
  obtain ⟨K, hK⟩ : ∃ K : Nat, n % 32 = K := Int.eq_ofNat_of_zero_le (by omega)
  have hK2 : K < 32 := by omega
  obtain ⟨r, hr⟩ : ∃ r : Int, n.tmod 32 = r := ⟨_, rfl⟩
  have hrk : (0 ≤ r ∧ r = K) ∨ (r < 0 ∧ r + 32 = K) := by
    have := tmod32 n
    rw [← hr, ← hK]; exact this
  have F := Lib.hid (show (rotN (V % 2 ^ 32) K : Nat) = rotI V n by
    unfold rotI; rw [hK, Nat.mod_eq_of_lt (by omega)]; simp)
  have H := Lib.hid hK; clear hK
  rcases hrk with ⟨hr0, rfl⟩ | ⟨hr0, hrK⟩
  all_goals
    first
      | have hrd : decide (r < 0) = true := by simp; omega
      | have hrd : decide ((K : Int) < 0) = false := by simp
    go_enter Try.func20, Try.ntmps20
    go_wp2
    go_loop [6, 7] (fun o i => ∃ j : Nat, j ≤ 32 ∧ i = .int .i64 j ∧ o = .int .u32 (rotN (V % 2 ^ j) K : Nat)) (fun _ i => 32 - (intOf i).toNat)
    case atStart => exact ⟨0, by omega, rfl, by rw [Nat.pow_zero, Nat.mod_one]; simp [rotN]⟩
    case round =>
      obtain ⟨j, hj, rfl, rfl⟩ := hrel
      have hR := rotp_lt V K j (by omega) hK2
      by_cases hlt : j < 32
      · have ha := and1 V j (by omega)
        rcases Nat.mod_two_eq_zero_or_one (V / 2 ^ j) with hb | hb
        · have hs := IP.rot_skip V K j hb
          rw [hb] at ha
          rw [← hs] at hR ⊢
          generalize hg : rotN (V % 2 ^ (j + 1)) K = R at *
          have HG := Lib.hid hg; clear hg
          clear hs hb
          go_wp2
          go_round
          case rel => exact ⟨j + 1, by omega, by go_num, by rw [HG.out]⟩
          case measure => simp [intOf]; omega
        · have hs := rotp_up V K j (by omega) hK2 hlt hb
          have hR' := rotp_lt V K (j + 1) (by omega) hK2
          rw [hb] at ha
          rw [← hs] at hR'
          obtain ⟨c, hc⟩ : ∃ c : Nat, (j + K) % 32 = c := ⟨_, rfl⟩
          have hcc : ((j : Int) + (K : Int)) % 32 = (c : Int) := by omega
          have hc32 : c < 32 := by omega
          rw [hc] at hs hR'
          obtain ⟨Q, hQ⟩ : ∃ Q : Nat, (2 : Nat) ^ c = Q := ⟨_, rfl⟩
          have hQ1 : Q ≤ 2147483648 := by
            rw [← hQ]; exact Nat.pow_le_pow_right (n := 2) (by decide) (show c ≤ 31 by omega)
          have hQi : (2 : Int) ^ c = (Q : Int) := by rw [← hQ]; simp
          rw [hQ] at hs hR'
          generalize hg : rotN (V % 2 ^ j) K = R at *
          have hR2 : (R : Int) + (Q : Int) ≤ 4294967295 := by omega
          have HG := Lib.hid hs; clear hs hQ hg hb hc hR'
          go_wp2
          go_round
          case rel => exact ⟨j + 1, by omega, by go_num, by rw [← HG.out]; simp⟩
          case measure => simp [intOf]; omega
      · obtain rfl : j = 32 := by omega
        go_wp2
        go_ret
        exact ⟨one1 F.out, rfl⟩

theorem Shift_any (v n : Int) (w : World) (h1 : -9223372036854775808 ≤ n) (h2 : n ≤ 9223372036854775807) (h3 : 0 ≤ v) (h4 : v ≤ 18446744073709551615) :
    Calls Try.prog 21 #[.int .u64 v, .int .i64 n] w fun e w' => e = .returned (.int .u64 (shI v n)) ∧ w = w' := by
  by_cases ha : n ≤ -64
  · have F := Lib.hid (show shI v n = 0 by unfold shI; rw [if_neg (by omega)])
    go_enter Try.func21, Try.ntmps21
    go_wp2
    go_ret
    exact ⟨one1 F.out.symm, rfl⟩
  by_cases hb : 64 ≤ n
  · have F := Lib.hid (show shI v n = 0 by unfold shI; rw [if_neg (by omega)])
    have g1 : decide (n ≤ -64) = false := by simp; omega
    go_enter Try.func21, Try.ntmps21
    go_wp2
    go_ret
    exact ⟨one1 F.out.symm, rfl⟩
  have g1 : decide (n ≤ -64) = false := by simp; omega
  have g2 : decide (64 ≤ n) = false := by simp; omega
  by_cases hc : n < 0
  · have F := Lib.hid (show shI v n = v / 2 ^ (-n).toNat by unfold shI; rw [if_pos (by omega), if_pos hc])
    go_enter Try.func21, Try.ntmps21
    go_wp2
    go_ret
    exact ⟨one1 F.out.symm, rfl⟩
  · have F := Lib.hid (show shI v n = IntKind.u64.wrap (v * 2 ^ n.toNat) by unfold shI; rw [if_pos (by omega), if_neg hc, IntKind.wrap_u64])
    have g3 : decide (n < 0) = false := by simp; omega
    go_enter Try.func21, Try.ntmps21
    go_wp2
    go_ret
    exact ⟨one1 F.out.symm, rfl⟩

def shl (V j : Nat) : Nat := V * 2 ^ j % 18446744073709551616
theorem shl_lt (V j : Nat) : shl V j < 18446744073709551616 := Nat.mod_lt _ (by decide)
theorem shl_up (V j : Nat) : IntKind.u64.wrap ((shl V j : Nat) * 2 : Int) = (shl V (j + 1) : Nat) := by
  unfold shl; rw [IntKind.wrap_u64, Nat.pow_succ, ← Nat.mul_assoc]; omega
theorem shl_zero (V : Nat) (h : V < 18446744073709551616) : shl V 0 = V := by
  unfold shl; rw [Nat.pow_zero, Nat.mul_one, Nat.mod_eq_of_lt h]

theorem RShift_any (v n : Int) (w : World) (h1 : -9223372036854775808 ≤ n) (h2 : n ≤ 9223372036854775807) (h3 : 0 ≤ v) (h4 : v ≤ 18446744073709551615) :
    Calls Try.prog 22 #[.int .u64 v, .int .i64 n] w fun e w' => e = .returned (.int .u64 (shI v n)) ∧ w = w' := by
  by_cases ha : n < -63
  · have F := Lib.hid (show shI v n = 0 by unfold shI; rw [if_neg (by omega)])
    have g1 : decide (n < -63) = true := by simp; omega
    go_enter Try.func22, Try.ntmps22
    go_wp2
    go_ret
    exact ⟨one1 F.out.symm, rfl⟩
  by_cases hb : 63 < n
  · have F := Lib.hid (show shI v n = 0 by unfold shI; rw [if_neg (by omega)])
    have g1 : decide (n < -63) = false := by simp; omega
    have g2 : decide (63 < n) = true := by simp; omega
    go_enter Try.func22, Try.ntmps22
    go_wp2
    go_ret
    exact ⟨one1 F.out.symm, rfl⟩
  have g1 : decide (n < -63) = false := by simp; omega
  have g2 : decide (63 < n) = false := by simp; omega
  obtain ⟨V, rfl⟩ := Int.eq_ofNat_of_zero_le h3
  by_cases hc : n < 0
  · obtain ⟨N, rfl⟩ : ∃ N : Nat, n = -(N : Int) := ⟨(-n).toNat, by omega⟩
    have F := Lib.hid (show shI V (-(N : Int)) = ((V / 2 ^ N : Nat) : Int) by unfold shI; rw [if_pos (by omega), if_pos hc, Int.neg_neg, Int.toNat_natCast]; simp)
    go_enter Try.func22, Try.ntmps22
    go_wp2
    go_loop [0, 5] (fun o i => i = .int .i64 0 ∧ o = .int .u64 V) (fun _ i => 0)
    case atStart => exact ⟨rfl, rfl⟩
    case round =>
      obtain ⟨rfl, rfl⟩ := hrel
      go_wp2
      go_loop [0, 6] (fun o i => ∃ j : Nat, j ≤ N ∧ i = .int .i64 (-(j : Int)) ∧ o = .int .u64 (V / 2 ^ j : Nat)) (fun _ i => N - (-(intOf i)).toNat)
      case atStart => exact ⟨0, by omega, rfl, by simp⟩
      case round =>
        obtain ⟨j, hj, rfl, rfl⟩ := hrel
        by_cases hlt : j < N
        · have hl : V / 2 ^ j ≤ V := Nat.div_le_self _ _
          have hn : V / 2 ^ j / 2 = V / 2 ^ (j + 1) := by rw [Nat.div_div_eq_div_mul, Nat.pow_succ]
          generalize hx : V / 2 ^ j = x at *
          have hq : (x : Int) / 2 = ((V / 2 ^ (j + 1) : Nat) : Int) := by rw [← hn]; simp
          generalize hy : V / 2 ^ (j + 1) = y at *
          have HY := Lib.hid hy; clear hy hx hn
          go_wp2
          go_round
          case rel => exact ⟨j + 1, by omega, by go_num, by rw [HY.out]⟩
          case measure => simp [intOf]; omega
        · obtain rfl : j = N := by omega
          generalize hx : V / 2 ^ j = x at *
          clear hx
          go_wp2
          go_ret
          exact ⟨one1 F.out.symm, rfl⟩
  · obtain ⟨N, rfl⟩ := Int.eq_ofNat_of_zero_le (show 0 ≤ n by omega)
    have F := Lib.hid (show shI V N = (shl V N : Nat) by unfold shI shl; rw [if_pos (by omega), if_neg hc, Int.toNat_natCast]; simp)
    have z := Lib.hid (shl_zero V (by omega))
    go_enter Try.func22, Try.ntmps22
    go_wp2
    go_loop [0, 5] (fun o i => ∃ j : Nat, j ≤ N ∧ i = .int .i64 j ∧ o = .int .u64 (shl V j : Nat)) (fun _ i => N - (intOf i).toNat)
    case atStart => exact ⟨0, by omega, rfl, by rw [z.out]⟩
    case round =>
      obtain ⟨j, hj, rfl, rfl⟩ := hrel
      by_cases hlt : j < N
      · have hu := shl_up V j
        have hl := shl_lt V j
        generalize hx : shl V j = x at *
        generalize hy : shl V (j + 1) = y at *
        have HY := Lib.hid hy; clear hy hx
        go_wp2
        go_round
        case rel => exact ⟨j + 1, by omega, by go_num, by rw [HY.out]⟩
        case measure => simp [intOf]; omega
      · obtain rfl : j = N := by omega
        have hl := shl_lt V j
        generalize hx : shl V j = x at *
        clear hx
        go_wp2
        go_loop [0, 6] (fun o i => i = .int .i64 0 ∧ o = .int .u64 x) (fun _ i => 0)
        case atStart => exact ⟨rfl, rfl⟩
        case round =>
          obtain ⟨rfl, rfl⟩ := hrel
          go_wp2
          go_ret
          exact ⟨one1 F.out.symm, rfl⟩

theorem works_yes (w : World) : Calls Try.prog 23 #[] w fun e w' => e = .returned (.bool true) ∧ w = w' := by
  have e1 : wr 300 8 = 44 := by decide
  have e2 : sg 200 8 = -56 := by decide
  have e3 : wr (-56) 8 = 200 := by decide
  have e4 : fits (-56) 8 = true := by decide
  have e5 : fits 128 8 = false := by decide
  have e6 : rotI 1 (-1) = 2147483648 := by decide
  have e7 : shI 5 2 = 20 := by decide
  have e8 : shI 5 (-1) = 2 := by decide
  have n1 : IntKind.i8.wrap (-1) = -1 := by decide
  have n2 : IntKind.i16.wrap (-1) = -1 := by decide
  have n3 : IntKind.u16.wrap (-1) = 65535 := by decide
  have n4 : wrap32 (-1) = -1 := by unfold wrap32; decide
  have c1 := fun w => Wrap_yes 300 8 w (by decide) (by decide) (by decide) (by decide)
  have c2 := fun w => Sign_yes 200 8 w (by decide) (by decide) (by decide) (by decide)
  have c3 := fun w => Bits_yes (-56) 8 w (by decide) (by decide) (by decide) (by decide) e4
  have c4 := fun w => Bits_field 128 8 w (by decide) (by decide) (by decide) (by decide) e5
  have c5 := fun w => Narrow_any (-1) w (by decide) (by decide)
  have c6 := fun w => Rotate_any 1 (-1) w (by decide) (by decide) (by decide) (by decide)
  have c7 := fun w => Shift_any 5 2 w (by decide) (by decide) (by decide) (by decide)
  have c8 := fun w => Shift_any 5 (-1) w (by decide) (by decide) (by decide) (by decide)
  rw [e1] at c1; rw [e2] at c2; rw [e3] at c3; rw [n1, n2, n3, n4] at c5; rw [e6] at c6; rw [e7] at c7; rw [e8] at c8
  have H1 := Lib.hid c1; have H2 := Lib.hid c2; have H3 := Lib.hid c3; have H4 := Lib.hid c4
  have H5 := Lib.hid c5; have H6 := Lib.hid c6; have H7 := Lib.hid c7; have H8 := Lib.hid c8
  clear c1 c2 c3 c4 c5 c6 c7 c8 e1 e2 e3 e4 e5 e6 e7 e8 n1 n2 n3 n4
  go_enter Try.func23, Try.ntmps23
  go_wp2_with fail
  refine (H1.out _).mono ?_; rintro e w' ⟨rfl, rfl⟩
  go_wp2_with fail
  refine (H2.out _).mono ?_; rintro e w' ⟨rfl, rfl⟩
  go_wp2_with fail
  refine (H3.out _).mono ?_; rintro e w' ⟨rfl, rfl⟩
  go_wp2_with fail
  refine (H4.out _).mono ?_; rintro e w' ⟨rfl, rfl⟩
  go_wp2_with fail
  refine (H5.out _).mono ?_; rintro e w' ⟨rfl, rfl⟩
  go_wp2_with fail
  refine (H6.out _).mono ?_; rintro e w' ⟨rfl, rfl⟩
  go_wp2_with fail
  refine (H7.out _).mono ?_; rintro e w' ⟨rfl, rfl⟩
  go_wp2_with fail
  refine (H8.out _).mono ?_; rintro e w' ⟨rfl, rfl⟩
  go_wp2_with fail
  go_ret
  exact ⟨rfl, rfl⟩
end IC
end Go.Proofs.Ytdikiiomhlcieaa
