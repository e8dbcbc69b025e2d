/-
  What Bucket and Stripe, and their plain twins, return, for any world; and the walks of the laws FnvSums and FnvBuckets.
-/
import Derived.Test.YtekkjimcfdmlhaaFnvCalls
namespace Go.Proofs.Ytekkjimcfdmlhaa
open Go.RowKit
open FP
set_option linter.unusedVariables false

namespace FC
theorem isB_any (n : Int) (w : World) :
    Calls Try.prog 21 #[.int .i64 n] w fun e w' => e = .returned (.bool (pw n)) ∧ w = w' := by
  by_cases h1 : n < 1
  · rw [pw_low (.inl h1)]
    go_enter Try.func21, Try.ntmps21
    go_wp2
    go_ret
    exact ⟨rfl, rfl⟩
  · have h2 : 1 ≤ n := by omega
    by_cases h3 : n ≤ 64
    · have d1 : decide (n ≤ 64) = true := decide_eq_true h3
      have hA := and_of n h2 h3
      generalize pw n = P at *
      have HA := Lib.hid hA
      clear h1 hA
      go_enter Try.func21, Try.ntmps21
      go_wp2
      go_ret
      exact ⟨congrArg (fun b => Ending.returned (.bool b)) HA.out, rfl⟩
    · have d1 : decide (n ≤ 64) = false := decide_eq_false h3
      rw [pw_low (.inr (by omega))]
      clear h1
      go_enter Try.func21, Try.ntmps21
      go_wp2
      go_ret
      exact ⟨rfl, rfl⟩
theorem lowest (v : Nat) (n : Int) (w : World) (hv : v < 4294967296) (h : pw n = true) :
    Calls Try.prog 22 #[.int .u32 v, .int .i64 n] w fun e w' => e = .returned (.int .u32 ((v : Int) % n)) ∧ w = w' := by
  have hA := and_low v n hv h
  have hn : 1 ≤ n ∧ n ≤ 64 := by have := pw_cases h; omega
  obtain ⟨n1, n2⟩ := hn
  clear h
  generalize (v : Int) % n = R at *
  go_enter Try.func22, Try.ntmps22
  go_wp2
  go_ret
  exact ⟨rfl, rfl⟩
theorem Bucket_yes (s : Nat) (n : Int) (w : World) (hs : s < 4294967296) (h : pw n = true) :
    Calls Try.prog 16 #[.int .u32 s, .int .i64 n] w fun e w' => e = .returned (.tuple #[.int .i64 ((s : Int) % n), .int .i64 0]) ∧ w = w' := by
  have hL := fun w => lowest s n w hs h
  have hB := isB_any n
  rw [h] at hB
  have hn : 1 ≤ n ∧ n ≤ 64 := by have := pw_cases h; omega
  have r0 : 0 ≤ (s : Int) % n := Int.emod_nonneg _ (by omega)
  have r1 : (s : Int) % n < 64 := Int.lt_of_lt_of_le (Int.emod_lt_of_pos _ (by omega)) hn.2
  clear h hn
  generalize (s : Int) % n = R at *
  go_enter Try.func16, Try.ntmps16
  go_wp2_with (first | (go_at_call 21; refine (hB _).mono ?_; rintro e w' ⟨rfl, rfl⟩) | (go_at_call 22; refine (hL _).mono ?_; rintro e w' ⟨rfl, rfl⟩))
  go_ret2
  exact ⟨rfl, rfl⟩
theorem Bucket_no (s : Nat) (n : Int) (w : World) (hs : s < 4294967296) (h : pw n = false) :
    Calls Try.prog 16 #[.int .u32 s, .int .i64 n] w fun e w' => e = .returned (.tuple #[.int .i64 0, .int .i64 1]) ∧ w = w' := by
  have hB := isB_any n
  rw [h] at hB
  clear h
  go_enter Try.func16, Try.ntmps16
  go_wp2_with (first | (go_at_call 21; refine (hB _).mono ?_; rintro e w' ⟨rfl, rfl⟩))
  go_ret2
  exact ⟨rfl, rfl⟩
theorem Bucket_any (s : Nat) (n : Int) (w : World) (hs : s < 4294967296) :
    Calls Try.prog 16 #[.int .u32 s, .int .i64 n] w fun e w' => e = .returned (.tuple #[.int .i64 (bV s n), .int .i64 (bE n)]) ∧ w = w' := by
  cases h : pw n with
  | true => rw [bV_yes h, bE_yes h]; exact Bucket_yes s n w hs h
  | false => rw [bV_no h, bE_no h]; exact Bucket_no s n w hs h
theorem pow7 (n : Int) (j : Nat) (hj : j ≤ 6) (h : pw n = false) : ((2 ^ j : Nat) : Int) ≠ n := by
  rintro rfl
  have : ∀ j : Fin 7, pw ((2 ^ j.val : Nat) : Int) = true := by decide +kernel
  have := this ⟨j, by omega⟩
  simp only at this
  rw [this] at h; cases h
theorem pow_range (j : Nat) (hj : j ≤ 7) : 1 ≤ 2 ^ j ∧ 2 ^ j ≤ 128 := ⟨Nat.one_le_two_pow, Nat.pow_le_pow_right (n := 2) (by decide) hj⟩
theorem pow_le6 (j : Nat) (hj : j ≤ 6) : 2 ^ j ≤ 64 := Nat.pow_le_pow_right (n := 2) (by decide) hj
theorem pw_pow {n : Int} (h : pw n = true) : ∃ t : Nat, t ≤ 6 ∧ n = ((2 ^ t : Nat) : Int) := by
  rcases pw_cases h with h | h | h | h | h | h | h
  · exact ⟨0, by omega, h⟩
  · exact ⟨1, by omega, h⟩
  · exact ⟨2, by omega, h⟩
  · exact ⟨3, by omega, h⟩
  · exact ⟨4, by omega, h⟩
  · exact ⟨5, by omega, h⟩
  · exact ⟨6, by omega, h⟩
theorem RBucket_no (s : Nat) (n : Int) (w : World) (hs : s < 4294967296) (h : pw n = false) :
    Calls Try.prog 17 #[.int .u32 s, .int .i64 n] w fun e w' => e = .returned (.tuple #[.int .i64 0, .int .i64 1]) ∧ w = w' := by
  have H := Lib.hid h; clear h
  go_enter Try.func17, Try.ntmps17
  go_wp2
  go_loop [6] (fun i => ∃ j : Nat, j ≤ 7 ∧ i = .int .i64 ((2 ^ j : Nat) : Int)) (fun i => 128 - (intOf i).toNat)
  case atStart => exact ⟨0, by omega, rfl⟩
  case round =>
    obtain ⟨j, hj, rfl⟩ := hrel
    obtain ⟨p0, p1⟩ := pow_range j hj
    by_cases hj6 : j ≤ 6
    · have p2 := pow_le6 j hj6
      have hne := pow7 n j hj6 H.out
      have HS := Lib.hid (show 2 * 2 ^ j = 2 ^ (j + 1) by rw [Nat.pow_succ]; omega)
      generalize 2 ^ j = P at *
      have d1 : ((P : Int) == n) = false := by simpa using hne
      clear hne
      go_wp2
      go_round
      case rel => exact ⟨j + 1, by omega, by rw [← HS.out]; go_num⟩
      case measure => simp [intOf]; omega
    · obtain rfl : j = 7 := by omega
      go_wp2
      go_ret2
      exact ⟨rfl, rfl⟩
theorem RBucket_yes (s : Nat) (n : Int) (w : World) (hs : s < 4294967296) (h : pw n = true) :
    Calls Try.prog 17 #[.int .u32 s, .int .i64 n] w fun e w' => e = .returned (.tuple #[.int .i64 ((s : Int) % n), .int .i64 0]) ∧ w = w' := by
  obtain ⟨t, ht, rfl⟩ := pw_pow h
  clear h
  have q1 := pow_le6 t ht
  have q0 := (pow_range t (by omega)).1
  go_enter Try.func17, Try.ntmps17
  go_wp2
  go_loop [6] (fun i => ∃ j : Nat, j ≤ t ∧ i = .int .i64 ((2 ^ j : Nat) : Int)) (fun i => 128 - (intOf i).toNat)
  case atStart => exact ⟨0, by omega, rfl⟩
  case round =>
    obtain ⟨j, hj, rfl⟩ := hrel
    obtain ⟨p0, p1⟩ := pow_range j (by omega)
    have p2 := pow_le6 j (by omega)
    by_cases hjt : j = t
    · subst hjt
      generalize hP : 2 ^ j = P at *
      have HP := Lib.hid hP
      clear hP
      have d1 : ((P : Int) == (P : Int)) = true := by simp
      have d0 : ((P : Int) == 0) = false := by simp; omega
      have r0 : 0 ≤ (s : Int) % (P : Int) := Int.emod_nonneg _ (by omega)
      have r1 : (s : Int) % (P : Int) < 64 := Int.lt_of_lt_of_le (Int.emod_lt_of_pos _ (by omega)) (by omega)
      go_wp2
      go_ret2
      exact ⟨tup2 (by rw [← HP.out, Int.natCast_pow]; rfl) rfl, rfl⟩
    · have hne : (2 ^ j : Nat) < 2 ^ t := Nat.pow_lt_pow_right (by decide) (by omega)
      have HS := Lib.hid (show 2 * 2 ^ j = 2 ^ (j + 1) by rw [Nat.pow_succ]; omega)
      generalize 2 ^ j = P at *
      generalize 2 ^ t = T at *
      have d1 : ((P : Int) == (T : Int)) = false := by simp; omega
      clear hne
      go_wp2
      go_round
      case rel => exact ⟨j + 1, by omega, by rw [← HS.out]; go_num⟩
      case measure => simp [intOf]; omega
theorem RBucket_any (s : Nat) (n : Int) (w : World) (hs : s < 4294967296) :
    Calls Try.prog 17 #[.int .u32 s, .int .i64 n] w fun e w' => e = .returned (.tuple #[.int .i64 (bV s n), .int .i64 (bE n)]) ∧ w = w' := by
  cases h : pw n with
  | true => rw [bV_yes h, bE_yes h]; exact RBucket_yes s n w hs h
  | false => rw [bV_no h, bE_no h]; exact RBucket_no s n w hs h
theorem Stripe_any (s : Nat) (w : World) (hs : s < 4294967296) :
    Calls Try.prog 18 #[.int .u32 s] w fun e w' => e = .returned (.int .i64 ((s / 65536 % 4 : Nat) : Int)) ∧ w = w' := by
  have hL := fun w => lowest (s / 65536) 4 w (by omega) rfl
  have hr : s / 65536 % 4 < 4 := Nat.mod_lt _ (by decide)
  have hd : s / 65536 < 65536 := by omega
  have e1 : ((s / 65536 : Nat) : Int) % 4 = ((s / 65536 % 4 : Nat) : Int) := by omega
  have e2 : (s : Int) / 65536 = ((s / 65536 : Nat) : Int) := by omega
  rw [e1] at hL
  clear e1
  generalize s / 65536 % 4 = R at *
  generalize s / 65536 = D at *
  go_enter Try.func18, Try.ntmps18
  go_wp2_with (first | (go_at_call 22; refine (hL _).mono ?_; rintro e w' ⟨rfl, rfl⟩))
  go_ret
  exact ⟨rfl, rfl⟩
theorem RStripe_any (s : Nat) (w : World) (hs : s < 4294967296) :
    Calls Try.prog 19 #[.int .u32 s] w fun e w' => e = .returned (.int .i64 ((s / 65536 % 4 : Nat) : Int)) ∧ w = w' := by
  go_enter Try.func19, Try.ntmps19
  go_wp2
  go_ret
  exact ⟨one1 (by omega), rfl⟩
theorem bV_bd (s : Nat) (n : Int) : 0 ≤ bV s n ∧ bV s n < 64 := by
  cases h : pw n with
  | true =>
    rw [bV_yes h]
    have := pw_cases h
    exact ⟨Int.emod_nonneg _ (by omega), Int.lt_of_lt_of_le (Int.emod_lt_of_pos _ (by omega)) (by omega)⟩
  | false => rw [bV_no h]; omega
theorem bE_bd (n : Int) : 0 ≤ bE n ∧ bE n ≤ 1 := by unfold bE; split <;> omega
theorem beq_self (x : Int) : (x == x) = true := by simp
theorem sums (s : ByteArray) (a : Int) (w : World) (hs : s.size ≤ 140737488351232) (w1 : (Lit.int .u32 a).wf = true) :
    Calls Try.prog 3 #[.string s, .int .u32 a] w fun e w' => e = .returned (.bool true) ∧ Below w.heap.size w w' := by
  obtain ⟨b1, b2⟩ := bounds_u32 w1
  obtain ⟨v, rfl⟩ : ∃ u : Nat, a = (u : Int) := ⟨a.toNat, by omega⟩
  have hv : v < 4294967296 := by omega
  clear w1
  by_cases hl : 10000 < s.size
  · go_enter Try.func3, Try.ntmps3
    go_wp2
    go_ret
    exact ⟨rfl, Below.refl _ _⟩
  · have hl' : s.size ≤ 10000 := by omega
    have h1 := fun w => Sum_any s w hs
    have h2 := fun w => RSum_any s w hs
    have h3 := fun w => More_any v hv s w hs
    have h4 := fun w => RMore_any v hv s w hs
    have h5 := fun w => Key_any s w hs
    have h6 := fun w => RKey_any s w hs
    generalize ((more 2166136261 s.data.toList : Nat) : Int) = A at *
    generalize ((more v s.data.toList : Nat) : Int) = B at *
    generalize keyB s.data.toList = C at *
    have e1 := beq_self A
    have e2 := beq_self B
    have e3 : (C == C) = true := by cases C <;> rfl
    go_enter Try.func3, Try.ntmps3
    go_wp2_with (first | (go_at_call 10; refine (h1 _).mono ?_; rintro e w' ⟨rfl, rfl⟩) | (go_at_call 11; refine (h2 _).mono ?_; rintro e w' ⟨rfl, rfl⟩) | (go_at_call 12; refine (h3 _).mono ?_; rintro e w' ⟨rfl, rfl⟩) | (go_at_call 13; refine (h4 _).mono ?_; rintro e w' ⟨rfl, rfl⟩) | (go_at_call 14; refine (h5 _).mono ?_; rintro e w' ⟨rfl, rfl⟩) | (go_at_call 15; refine (h6 _).mono ?_; rintro e w' ⟨rfl, rfl⟩))
    go_ret
    exact ⟨rfl, Below.refl _ _⟩
theorem buckets (a n : Int) (w : World) (w1 : (Lit.int .u32 a).wf = true) (w2 : (Lit.int .i64 n).wf = true) :
    Calls Try.prog 4 #[.int .u32 a, .int .i64 n] w fun e w' => e = .returned (.bool true) ∧ Below w.heap.size w w' := by
  obtain ⟨b1, b2⟩ := bounds_u32 w1
  obtain ⟨v, rfl⟩ : ∃ u : Nat, a = (u : Int) := ⟨a.toNat, by omega⟩
  have hv : v < 4294967296 := by omega
  clear w1
  have h1 := fun w => Bucket_any v n w hv
  have h2 := fun w => RBucket_any v n w hv
  have h3 := fun w => Stripe_any v w hv
  have h4 := fun w => RStripe_any v w hv
  generalize bV v n = A at *
  generalize bE n = B at *
  generalize ((v / 65536 % 4 : Nat) : Int) = C at *
  have e1 := beq_self A
  have e2 := beq_self B
  have e3 := beq_self C
  go_enter Try.func4, Try.ntmps4
  go_wp2_with (first | (go_at_call 16; refine (h1 _).mono ?_; rintro e w' ⟨rfl, rfl⟩) | (go_at_call 17; refine (h2 _).mono ?_; rintro e w' ⟨rfl, rfl⟩) | (go_at_call 18; refine (h3 _).mono ?_; rintro e w' ⟨rfl, rfl⟩) | (go_at_call 19; refine (h4 _).mono ?_; rintro e w' ⟨rfl, rfl⟩))
  go_ret
  exact ⟨rfl, Below.refl _ _⟩
end FC
end Go.Proofs.Ytekkjimcfdmlhaa
