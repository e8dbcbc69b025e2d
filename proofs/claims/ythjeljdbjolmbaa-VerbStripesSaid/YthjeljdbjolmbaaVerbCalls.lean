/-
  What the functions of the layer verb, and their plain twins, return, for any world: those of a kind alone.
-/
import Derived.Test.YthjeljdbjolmbaaVerbPlain
import Derived.Test.YthjeljdbjolmbaaClassMore
import Derived.Test.YthjeljdbjolmbaaStrFrames
namespace Go.Proofs.Ythjeljdbjolmbaa
open Go.RowKit
open VP
set_option linter.unusedVariables false
namespace VC
theorem b1 {a c : Bool} (h : a = c) : Ending.returned (.bool a) = .returned (.bool c) := by rw [h]
theorem isKind_any (k : Int) (w : World) : Calls Try.prog 25 #[.int .i64 k] w fun e w' => e = .returned (.bool (isK k)) ∧ w = w' := by
  by_cases h1 : 1 ≤ k
  all_goals
    go_enter Try.func25, Try.ntmps25
    go_wp2
    go_ret
    exact ⟨b1 (by simp [isK, h1] <;> omega), rfl⟩
theorem reads_any (k : Int) (w : World) : Calls Try.prog 38 #[.int .i64 k] w fun e w' => e = .returned (.bool (rdK k)) ∧ w = w' := by
  by_cases h1 : 1 ≤ k
  all_goals
    go_enter Try.func38, Try.ntmps38
    go_wp2
    go_ret
    exact ⟨b1 (by simp [rdK, h1] <;> omega), rfl⟩
theorem RReads_any (k : Int) (w : World) : Calls Try.prog 24 #[.int .i64 k] w fun e w' => e = .returned (.bool (rdK k)) ∧ w = w' := by
  by_cases h1 : 1 ≤ k
  all_goals
    go_enter Try.func24, Try.ntmps24
    go_wp2
    go_ret
    exact ⟨b1 (by simp [rdK, h1] <;> omega), rfl⟩
theorem Stores_any (k : Int) (w : World) : Calls Try.prog 19 #[.int .i64 k] w fun e w' => e = .returned (.bool (stK k)) ∧ w = w' := by
  by_cases h1 : 5 ≤ k
  all_goals
    go_enter Try.func19, Try.ntmps19
    go_wp2
    go_ret
    exact ⟨b1 (by simp [stK, h1] <;> omega), rfl⟩
theorem RStores_any (k : Int) (w : World) : Calls Try.prog 20 #[.int .i64 k] w fun e w' => e = .returned (.bool (stK k)) ∧ w = w' := by
  by_cases h1 : 5 ≤ k
  all_goals
    go_enter Try.func20, Try.ntmps20
    go_wp2
    go_ret
    exact ⟨b1 (by simp [stK, h1] <;> omega), rfl⟩
theorem Shows_any (k : Int) (w : World) : Calls Try.prog 21 #[.int .i64 k] w fun e w' => e = .returned (.bool (shK k)) ∧ w = w' := by
  cases h1 : (k == 2)
  all_goals
    go_enter Try.func21, Try.ntmps21
    go_wp2
    go_ret
    exact ⟨b1 (by simp [shK, h1]), rfl⟩
theorem RShows_any (k : Int) (w : World) : Calls Try.prog 22 #[.int .i64 k] w fun e w' => e = .returned (.bool (shK k)) ∧ w = w' := by
  cases h1 : (k == 2)
  all_goals
    go_enter Try.func22, Try.ntmps22
    go_wp2
    go_ret
    exact ⟨b1 (by simp [shK, h1]), rfl⟩
theorem counts_any (k : Int) (w : World) : Calls Try.prog 37 #[.int .i64 k] w fun e w' => e = .returned (.bool (coK k)) ∧ w = w' := by
  cases h1 : (k == 12)
  all_goals
    go_enter Try.func37, Try.ntmps37
    go_wp2
    go_ret
    exact ⟨b1 (by simp [coK, h1]), rfl⟩
theorem setsEnd_any (k : Int) (w : World) : Calls Try.prog 36 #[.int .i64 k] w fun e w' => e = .returned (.bool (enK k)) ∧ w = w' := by
  cases h1 : (k == 3) <;> cases h2 : (k == 4)
  all_goals
    go_enter Try.func36, Try.ntmps36
    go_wp2
    go_ret
    exact ⟨b1 (by simp [enK, h1, h2]), rfl⟩
theorem laysAnew_any (k : Int) (w : World) : Calls Try.prog 35 #[.int .i64 k] w fun e w' => e = .returned (.bool (whK k)) ∧ w = w' := by
  have hS := Stores_any k
  cases h1 : stK k <;> cases h2 : (k != 8)
  all_goals
    rw [h1] at hS
    go_enter Try.func35, Try.ntmps35
    go_wp2_with (first | (go_at_call 19; refine (hS _).mono ?_; rintro e w' ⟨rfl, rfl⟩))
    go_ret
    exact ⟨b1 (by simp [whK, h1, h2]), rfl⟩
theorem keysOf_any (k : Int) (w : World) : Calls Try.prog 33 #[.int .i64 k] w fun e w' => e = .returned (.tuple #[.int .i64 (lo k), .int .i64 (hi k)]) ∧ w = w' := by
  have hR := reads_any k
  cases h1 : rdK k <;> cases h2 : (k == 15)
  all_goals
    rw [h1] at hR
    go_enter Try.func33, Try.ntmps33
    go_wp2_with (first | (go_at_call 38; refine (hR _).mono ?_; rintro e w' ⟨rfl, rfl⟩))
    go_ret2
    exact ⟨CK.tup2 (by simp [lo, h1, h2]) (by simp [hi, h1, h2]), rfl⟩
end VC
end Go.Proofs.Ythjeljdbjolmbaa
