/-
  The examples, and the walks of the laws FnvParts, FnvGrows and FnvAll.
-/
import Derived.Test.YtekkjimcfdmlhaaFnvCallsTwo
namespace Go.Proofs.Ytekkjimcfdmlhaa
open Go.RowKit
open FP
set_option linter.unusedVariables false

namespace FC
theorem c0 : more 2166136261 [] = 2166136261 := more_nil _
theorem c1 : more 2166136261 [97] = 3826002220 := by rw [more_one]; decide +kernel
theorem k1 : keyB [107, 101, 121] = true := by decide +kernel
theorem k2 : keyB [97, 32, 98] = false := by decide +kernel
theorem k3 : keyB [] = false := by decide +kernel
theorem S0 (w : World) : Calls Try.prog 10 #[.string ⟨#[]⟩] w fun e w' => e = .returned (.int .u32 2166136261) ∧ w = w' := by
  have h := Sum_any ⟨#[]⟩ w (by decide +kernel)
  have e : (ByteArray.mk #[]).data.toList = [] := rfl
  rw [e, c0] at h; exact h
theorem S1 (w : World) : Calls Try.prog 10 #[.string ⟨#[97]⟩] w fun e w' => e = .returned (.int .u32 3826002220) ∧ w = w' := by
  have h := Sum_any ⟨#[97]⟩ w (by decide +kernel)
  have e : (ByteArray.mk #[97]).data.toList = [97] := rfl
  rw [e, c1] at h; exact h
theorem K1 (w : World) : Calls Try.prog 14 #[.string ⟨#[107, 101, 121]⟩] w fun e w' => e = .returned (.bool true) ∧ w = w' := by
  have h := Key_any ⟨#[107, 101, 121]⟩ w (by decide +kernel)
  have e : (ByteArray.mk #[107, 101, 121]).data.toList = [107, 101, 121] := rfl
  rw [e, k1] at h; exact h
theorem K2 (w : World) : Calls Try.prog 14 #[.string ⟨#[97, 32, 98]⟩] w fun e w' => e = .returned (.bool false) ∧ w = w' := by
  have h := Key_any ⟨#[97, 32, 98]⟩ w (by decide +kernel)
  have e : (ByteArray.mk #[97, 32, 98]).data.toList = [97, 32, 98] := rfl
  rw [e, k2] at h; exact h
theorem K3 (w : World) : Calls Try.prog 14 #[.string ⟨#[]⟩] w fun e w' => e = .returned (.bool false) ∧ w = w' := by
  have h := Key_any ⟨#[]⟩ w (by decide +kernel)
  have e : (ByteArray.mk #[]).data.toList = [] := rfl
  rw [e, k3] at h; exact h
theorem B1 (w : World) : Calls Try.prog 16 #[.int .u32 13, .int .i64 8] w fun e w' => e = .returned (.tuple #[.int .i64 5, .int .i64 0]) ∧ w = w' := Bucket_yes 13 8 w (by decide) rfl
theorem B2 (w : World) : Calls Try.prog 16 #[.int .u32 13, .int .i64 12] w fun e w' => e = .returned (.tuple #[.int .i64 0, .int .i64 1]) ∧ w = w' := Bucket_no 13 12 w (by decide) rfl
theorem St1 (w : World) : Calls Try.prog 18 #[.int .u32 327680] w fun e w' => e = .returned (.int .i64 1) ∧ w = w' := Stripe_any 327680 w (by decide)
theorem works (w : World) : Calls Try.prog 20 #[] w fun e w' => e = .returned (.bool true) ∧ w = w' := by
  go_enter Try.func20, Try.ntmps20
  go_wp2_with (first
    | (go_at_call 16; ((with_reducible refine (B1 _).mono ?_); rintro e w' ⟨rfl, rfl⟩))
    | (go_at_call 16; ((with_reducible refine (B2 _).mono ?_); rintro e w' ⟨rfl, rfl⟩))
    | (go_at_call 10; ((with_reducible refine (S0 _).mono ?_); rintro e w' ⟨rfl, rfl⟩))
    | (go_at_call 10; ((with_reducible refine (S1 _).mono ?_); rintro e w' ⟨rfl, rfl⟩))
    | (go_at_call 14; ((with_reducible refine (K1 _).mono ?_); rintro e w' ⟨rfl, rfl⟩))
    | (go_at_call 14; ((with_reducible refine (K2 _).mono ?_); rintro e w' ⟨rfl, rfl⟩))
    | (go_at_call 14; ((with_reducible refine (K3 _).mono ?_); rintro e w' ⟨rfl, rfl⟩))
    | (go_at_call 18; ((with_reducible refine (St1 _).mono ?_); rintro e w' ⟨rfl, rfl⟩)))
  go_ret
  exact ⟨rfl, rfl⟩
theorem M0 (w : World) : Calls Try.prog 12 #[.int .u32 7, .string ⟨#[]⟩] w fun e w' => e = .returned (.int .u32 7) ∧ w = w' := by
  have h := More_any 7 (by decide) ⟨#[]⟩ w (by decide +kernel)
  have e : (ByteArray.mk #[]).data.toList = [] := rfl
  rw [e, more_nil] at h; exact h
theorem parts (a b : ByteArray) (w : World) (ha : a.size ≤ 140737488351232) (hb : b.size ≤ 140737488351232) :
    Calls Try.prog 5 #[.string a, .string b] w fun e w' => e = .returned (.bool true) ∧ Below w.heap.size w w' := by
  by_cases h1 : 5000 < a.size
  · go_enter Try.func5, Try.ntmps5
    go_wp2_with (go_at_call 20; refine (works _).mono ?_; rintro e w' ⟨rfl, rfl⟩)
    go_ret
    exact ⟨rfl, Below.refl _ _⟩
  · have h1' : a.size ≤ 5000 := by omega
    by_cases h2 : 5000 < b.size
    · have d : decide (5000 < (b.size : Int)) = true := decide_eq_true (by omega)
      go_enter Try.func5, Try.ntmps5
      go_wp2_with (go_at_call 20; refine (works _).mono ?_; rintro e w' ⟨rfl, rfl⟩)
      go_ret
      exact ⟨rfl, Below.refl _ _⟩
    · have h2' : b.size ≤ 5000 := by omega
      have d : decide (5000 < (b.size : Int)) = false := decide_eq_false (by omega)
      have hd : (a ++ b).data.toList = a.data.toList ++ b.data.toList := by rw [ByteArray.data_append, Array.toList_append]
      have hz : (a ++ b).size ≤ 140737488351232 := by rw [ByteArray.size_append]; omega
      have g1 := fun w => Sum_any (a ++ b) w hz
      rw [hd, more_app] at g1
      have g2 := fun w => Sum_any a w ha
      have l1 := more_lt 2166136261 a.data.toList (by decide)
      have l2 := more_lt _ b.data.toList l1
      have g3 := fun w => More_any _ l1 b w hb
      clear hd
      generalize more (more 2166136261 a.data.toList) b.data.toList = X at *
      generalize more 2166136261 a.data.toList = Y at *
      have e1 := beq_self (X : Int)
      go_enter Try.func5, Try.ntmps5
      go_wp2_with (first
        | (go_at_call 20; refine (works _).mono ?_; rintro e w' ⟨rfl, rfl⟩)
        | (go_at_call 10; ((with_reducible refine (g1 _).mono ?_); rintro e w' ⟨rfl, rfl⟩))
        | (go_at_call 10; ((with_reducible refine (g2 _).mono ?_); rintro e w' ⟨rfl, rfl⟩))
        | (go_at_call 12; ((with_reducible refine (g3 _).mono ?_); rintro e w' ⟨rfl, rfl⟩))
        | (go_at_call 12; ((with_reducible refine (M0 _).mono ?_); rintro e w' ⟨rfl, rfl⟩)))
      go_ret
      exact ⟨rfl, Below.refl _ _⟩
theorem grow_law (s : Nat) (j : Nat) : (s : Int) % ((2 ^ (j + 1) : Nat) : Int) = (s : Int) % ((2 ^ j : Nat) : Int) ∨ (s : Int) % ((2 ^ (j + 1) : Nat) : Int) = (s : Int) % ((2 ^ j : Nat) : Int) + ((2 ^ j : Nat) : Int) := by
  rw [← Int.natCast_emod, ← Int.natCast_emod, Nat.mod_pow_succ]
  have : s / 2 ^ j % 2 = 0 ∨ s / 2 ^ j % 2 = 1 := by omega
  rcases this with h | h
  · left; rw [h, Nat.mul_zero]; rfl
  · right; rw [h, Nat.mul_one]; rfl
theorem pw2 (j : Nat) (hj : j ≤ 6) : pw ((2 ^ j : Nat) : Int) = true := by
  have : ∀ j : Fin 7, pw ((2 ^ j.val : Nat) : Int) = true := by decide +kernel
  exact this ⟨j, by omega⟩
theorem grows (a k : Int) (w : World) (w1 : (Lit.int .u32 a).wf = true) (w2 : (Lit.int .i64 k).wf = true) :
    Calls Try.prog 6 #[.int .u32 a, .int .i64 k] w fun e w' => e = .returned (.bool true) ∧ Below w.heap.size w w' := by
  obtain ⟨b1, b2⟩ := bounds_u32 w1
  obtain ⟨s, rfl⟩ : ∃ u : Nat, a = (u : Int) := ⟨a.toNat, by omega⟩
  have hv : s < 4294967296 := by omega
  clear w1
  obtain ⟨u, hu⟩ : ∃ u : Int, IntKind.u64.wrap k = u := ⟨_, rfl⟩
  have hu1 : 0 ≤ u := by rw [← hu, IntKind.wrap_u64]; omega
  have hu2 : u ≤ 18446744073709551615 := by rw [← hu, IntKind.wrap_u64]; omega
  obtain ⟨j, hj⟩ : ∃ j : Nat, u % 6 = (j : Int) := ⟨(u % 6).toNat, by omega⟩
  have hj6 : j < 6 := by omega
  have g1 := fun w => Bucket_yes s ((2 ^ j : Nat) : Int) w hv (pw2 j (by omega))
  have g2 := fun w => Bucket_yes s ((2 ^ (j + 1) : Nat) : Int) w hv (pw2 (j + 1) (by omega))
  have gl := grow_law s j
  have e2 : (2 ^ (j + 1) : Nat) = 2 * 2 ^ j := by rw [Nat.pow_succ]; omega
  rw [e2] at g2 gl
  have p1 := pow_le6 j (by omega)
  have p0 := (pow_range j (by omega)).1
  have r0 : 0 ≤ (s : Int) % ((2 ^ j : Nat) : Int) := Int.emod_nonneg _ (by omega)
  have r1 : (s : Int) % ((2 ^ j : Nat) : Int) < ((2 ^ j : Nat) : Int) := Int.emod_lt_of_pos _ (by omega)
  have HW := Lib.hid (show wrap64 ((2 : Int) ^ j) = ((2 ^ j : Nat) : Int) by
    have : ((2 : Int) ^ j) = ((2 ^ j : Nat) : Int) := by simp
    rw [this]; unfold wrap64; omega)
  clear e2
  generalize (2 ^ j : Nat) = P at *
  generalize (s : Int) % (P : Int) = R at *
  have e3 : ((2 * P : Nat) : Int) = 2 * (P : Int) := by omega
  rw [e3] at g2 gl
  generalize (s : Int) % (2 * (P : Int)) = T at *
  clear e3
  rcases gl with rfl | rfl
  · have q1 := beq_self T
    go_enter Try.func6, Try.ntmps6
    go_wp2_with (go_at_call 20; refine (works _).mono ?_; rintro e w' ⟨rfl, rfl⟩)
    rw [HW.out]
    go_wp2_with (first
      | (go_at_call 16; ((with_reducible refine (g1 _).mono ?_); rintro e w' ⟨rfl, rfl⟩))
      | (go_at_call 16; ((with_reducible refine (g2 _).mono ?_); rintro e w' ⟨rfl, rfl⟩)))
    go_ret
    exact ⟨rfl, Below.refl _ _⟩
  · have q1 : (R + (P : Int) == R) = false := by simp; omega
    have q2 := beq_self (R + (P : Int))
    go_enter Try.func6, Try.ntmps6
    go_wp2_with (go_at_call 20; refine (works _).mono ?_; rintro e w' ⟨rfl, rfl⟩)
    rw [HW.out]
    go_wp2_with (first
      | (go_at_call 16; ((with_reducible refine (g1 _).mono ?_); rintro e w' ⟨rfl, rfl⟩))
      | (go_at_call 16; ((with_reducible refine (g2 _).mono ?_); rintro e w' ⟨rfl, rfl⟩)))
    go_ret
    exact ⟨rfl, Below.refl _ _⟩
theorem alls (a k b : Int) (w : World) (w1 : (Lit.int .u32 a).wf = true) (w2 : (Lit.int .i64 k).wf = true) (w3 : (Lit.int .i64 b).wf = true) :
    Calls Try.prog 9 #[.int .u32 a, .int .i64 k, .int .i64 b] w fun e w' => e = .returned (.bool true) ∧ Below w.heap.size w w' := by
  obtain ⟨b1, b2⟩ := bounds_u32 w1
  obtain ⟨s, rfl⟩ : ∃ u : Nat, a = (u : Int) := ⟨a.toNat, by omega⟩
  have hv : s < 4294967296 := by omega
  clear w1
  obtain ⟨u, hu⟩ : ∃ u : Int, IntKind.u64.wrap k = u := ⟨_, rfl⟩
  have hu1 : 0 ≤ u := by rw [← hu, IntKind.wrap_u64]; omega
  have hu2 : u ≤ 18446744073709551615 := by rw [← hu, IntKind.wrap_u64]; omega
  obtain ⟨v, hvv⟩ : ∃ v : Int, IntKind.u64.wrap b = v := ⟨_, rfl⟩
  have hv1 : 0 ≤ v := by rw [← hvv, IntKind.wrap_u64]; omega
  have hv2 : v ≤ 18446744073709551615 := by rw [← hvv, IntKind.wrap_u64]; omega
  obtain ⟨j, hj⟩ : ∃ j : Nat, u % 7 = (j : Int) := ⟨(u % 7).toNat, by omega⟩
  have hj6 : j < 7 := by omega
  have p1 := pow_le6 j (by omega)
  have p0 := (pow_range j (by omega)).1
  obtain ⟨t, ht⟩ : ∃ t : Nat, v % ((2 ^ j : Nat) : Int) = (t : Int) := ⟨(v % ((2 ^ j : Nat) : Int)).toNat, by have := Int.emod_nonneg v (show ((2 ^ j : Nat) : Int) ≠ 0 by omega); omega⟩
  have ht1 : (t : Int) < ((2 ^ j : Nat) : Int) := by rw [← ht]; exact Int.emod_lt_of_pos _ (by omega)
  have g1 := fun w => Bucket_yes t ((2 ^ j : Nat) : Int) w (by omega) (pw2 j (by omega))
  rw [Int.emod_eq_of_lt (by omega) ht1] at g1
  have g2 := fun w => Bucket_yes s ((2 ^ j : Nat) : Int) w hv (pw2 j (by omega))
  have g3 := fun w => Stripe_any s w hv
  have hs4 : s / 65536 % 4 < 4 := Nat.mod_lt _ (by decide)
  have d4 : decide (((s / 65536 % 4 : Nat) : Int) < 4) = true := decide_eq_true (by omega)
  have r0 : 0 ≤ (s : Int) % ((2 ^ j : Nat) : Int) := Int.emod_nonneg _ (by omega)
  have r1 : (s : Int) % ((2 ^ j : Nat) : Int) < ((2 ^ j : Nat) : Int) := Int.emod_lt_of_pos _ (by omega)
  have hW : (2 : Int) ^ j = ((2 ^ j : Nat) : Int) := by simp
  generalize (2 ^ j : Nat) = P at *
  generalize (s : Int) % (P : Int) = R at *
  generalize s / 65536 % 4 = C at *
  have q0 : ((P : Int) == 0) = false := by simp; omega
  have q1 := beq_self (t : Int)
  go_enter Try.func9, Try.ntmps9
  go_wp2_with (first
      | (go_at_call 20; refine (works _).mono ?_; rintro e w' ⟨rfl, rfl⟩)
      | (go_at_call 16; ((with_reducible refine (g1 _).mono ?_); rintro e w' ⟨rfl, rfl⟩))
      | (go_at_call 16; ((with_reducible refine (g2 _).mono ?_); rintro e w' ⟨rfl, rfl⟩))
      | (go_at_call 18; ((with_reducible refine (g3 _).mono ?_); rintro e w' ⟨rfl, rfl⟩)))
  go_ret
  exact ⟨rfl, Below.refl _ _⟩
end FC
end Go.Proofs.Ytekkjimcfdmlhaa
