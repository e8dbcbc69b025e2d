/-
  What the functions of the layer verb, and their plain twins, return, for any world: those of a kind alone.
-/
import Derived.Test.YtpnpjebhopohhaaDoorVerbPlain
import Derived.Test.YtpnpjebhopohhaaDoorClassMore
import Derived.Test.YtpnpjebhopohhaaDoorStrFrames
namespace Go.Proofs.YtpnpjebhopohhaaDoor
open Go.RowKit
open VP
set_option linter.unusedVariables false
namespace VC
theorem b1 {a c : Bool} (h : a = c) : Ending.returned (.bool a) = .returned (.bool c) := by rw [h]
theorem isKind_any (k : Int) (w : World) : Calls Tryd.prog 32 #[.int .i64 k] w fun e w' => e = .returned (.bool (isK k)) ∧ w = w' := by
  by_cases h1 : 1 ≤ k
  all_goals
    go_enter Tryd.func32, Tryd.ntmps32
    go_wp2
    go_ret
    exact ⟨b1 (by simp [isK, h1] <;> omega), rfl⟩
theorem reads_any (k : Int) (w : World) : Calls Tryd.prog 50 #[.int .i64 k] w fun e w' => e = .returned (.bool (rdK k)) ∧ w = w' := by
  by_cases h1 : 1 ≤ k
  all_goals
    go_enter Tryd.func50, Tryd.ntmps50
    go_wp2
    go_ret
    exact ⟨b1 (by simp [rdK, h1] <;> omega), rfl⟩
theorem RReads_any (k : Int) (w : World) : Calls Tryd.prog 30 #[.int .i64 k] w fun e w' => e = .returned (.bool (rdK k)) ∧ w = w' := by
  by_cases h1 : 1 ≤ k
  all_goals
    go_enter Tryd.func30, Tryd.ntmps30
    go_wp2
    go_ret
    exact ⟨b1 (by simp [rdK, h1] <;> omega), rfl⟩
theorem Stores_any (k : Int) (w : World) : Calls Tryd.prog 28 #[.int .i64 k] w fun e w' => e = .returned (.bool (stK k)) ∧ w = w' := by
  by_cases h1 : 5 ≤ k
  all_goals
    go_enter Tryd.func28, Tryd.ntmps28
    go_wp2
    go_ret
    exact ⟨b1 (by simp [stK, h1] <;> omega), rfl⟩
theorem RStores_any (k : Int) (w : World) : Calls Tryd.prog 13 #[.int .i64 k] w fun e w' => e = .returned (.bool (stK k)) ∧ w = w' := by
  by_cases h1 : 5 ≤ k
  all_goals
    go_enter Tryd.func13, Tryd.ntmps13
    go_wp2
    go_ret
    exact ⟨b1 (by simp [stK, h1] <;> omega), rfl⟩
theorem counts_any (k : Int) (w : World) : Calls Tryd.prog 49 #[.int .i64 k] w fun e w' => e = .returned (.bool (coK k)) ∧ w = w' := by
  cases h1 : (k == 12)
  all_goals
    go_enter Tryd.func49, Tryd.ntmps49
    go_wp2
    go_ret
    exact ⟨b1 (by simp [coK, h1]), rfl⟩
theorem setsEnd_any (k : Int) (w : World) : Calls Tryd.prog 48 #[.int .i64 k] w fun e w' => e = .returned (.bool (enK k)) ∧ w = w' := by
  cases h1 : (k == 3) <;> cases h2 : (k == 4)
  all_goals
    go_enter Tryd.func48, Tryd.ntmps48
    go_wp2
    go_ret
    exact ⟨b1 (by simp [enK, h1, h2]), rfl⟩
theorem laysAnew_any (k : Int) (w : World) : Calls Tryd.prog 47 #[.int .i64 k] w fun e w' => e = .returned (.bool (whK k)) ∧ w = w' := by
  have hS := Stores_any k
  cases h1 : stK k <;> cases h2 : (k != 8)
  all_goals
    rw [h1] at hS
    go_enter Tryd.func47, Tryd.ntmps47
    go_wp2_with (first | (go_at_call 28; refine (hS _).mono ?_; rintro e w' ⟨rfl, rfl⟩))
    go_ret
    exact ⟨b1 (by simp [whK, h1, h2]), rfl⟩
theorem keysOf_any (k : Int) (w : World) : Calls Tryd.prog 45 #[.int .i64 k] w fun e w' => e = .returned (.tuple #[.int .i64 (lo k), .int .i64 (hi k)]) ∧ w = w' := by
  have hR := reads_any k
  cases h1 : rdK k <;> cases h2 : (k == 15)
  all_goals
    rw [h1] at hR
    go_enter Tryd.func45, Tryd.ntmps45
    go_wp2_with (first | (go_at_call 50; refine (hR _).mono ?_; rintro e w' ⟨rfl, rfl⟩))
    go_ret2
    exact ⟨CK.tup2 (by simp [lo, h1, h2]) (by simp [hi, h1, h2]), rfl⟩
end VC
end Go.Proofs.YtpnpjebhopohhaaDoor
