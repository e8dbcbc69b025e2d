/-
  What the functions of the layer verb, and their plain twins, return, for any world: those of a kind alone.
-/
import Derived.Test.YtpaiagjaekkcgaaDoorVerbPlain
import Derived.Test.YtpaiagjaekkcgaaDoorClassMore
import Derived.Test.YtpaiagjaekkcgaaDoorStrFrames
namespace Go.Proofs.YtpaiagjaekkcgaaDoor
open Go.RowKit
open VP
set_option linter.unusedVariables false
namespace VC
theorem b1 {a c : Bool} (h : a = c) : Ending.returned (.bool a) = .returned (.bool c) := by rw [h]
theorem isKind_any (k : Int) (w : World) : Calls Tryd.prog 27 #[.int .i64 k] w fun e w' => e = .returned (.bool (isK k)) ∧ w = w' := by
  by_cases h1 : 1 ≤ k
  all_goals
    go_enter Tryd.func27, Tryd.ntmps27
    go_wp2
    go_ret
    exact ⟨b1 (by simp [isK, h1] <;> omega), rfl⟩
theorem reads_any (k : Int) (w : World) : Calls Tryd.prog 44 #[.int .i64 k] w fun e w' => e = .returned (.bool (rdK k)) ∧ w = w' := by
  by_cases h1 : 1 ≤ k
  all_goals
    go_enter Tryd.func44, Tryd.ntmps44
    go_wp2
    go_ret
    exact ⟨b1 (by simp [rdK, h1] <;> omega), rfl⟩
theorem Stores_any (k : Int) (w : World) : Calls Tryd.prog 40 #[.int .i64 k] w fun e w' => e = .returned (.bool (stK k)) ∧ w = w' := by
  by_cases h1 : 5 ≤ k
  all_goals
    go_enter Tryd.func40, Tryd.ntmps40
    go_wp2
    go_ret
    exact ⟨b1 (by simp [stK, h1] <;> omega), rfl⟩
theorem counts_any (k : Int) (w : World) : Calls Tryd.prog 43 #[.int .i64 k] w fun e w' => e = .returned (.bool (coK k)) ∧ w = w' := by
  cases h1 : (k == 12)
  all_goals
    go_enter Tryd.func43, Tryd.ntmps43
    go_wp2
    go_ret
    exact ⟨b1 (by simp [coK, h1]), rfl⟩
theorem setsEnd_any (k : Int) (w : World) : Calls Tryd.prog 42 #[.int .i64 k] w fun e w' => e = .returned (.bool (enK k)) ∧ w = w' := by
  cases h1 : (k == 3) <;> cases h2 : (k == 4)
  all_goals
    go_enter Tryd.func42, Tryd.ntmps42
    go_wp2
    go_ret
    exact ⟨b1 (by simp [enK, h1, h2]), rfl⟩
theorem laysAnew_any (k : Int) (w : World) : Calls Tryd.prog 41 #[.int .i64 k] w fun e w' => e = .returned (.bool (whK k)) ∧ w = w' := by
  have hS := Stores_any k
  cases h1 : stK k <;> cases h2 : (k != 8)
  all_goals
    rw [h1] at hS
    go_enter Tryd.func41, Tryd.ntmps41
    go_wp2_with (first | (go_at_call 40; refine (hS _).mono ?_; rintro e w' ⟨rfl, rfl⟩))
    go_ret
    exact ⟨b1 (by simp [whK, h1, h2]), rfl⟩
theorem keysOf_any (k : Int) (w : World) : Calls Tryd.prog 38 #[.int .i64 k] w fun e w' => e = .returned (.tuple #[.int .i64 (lo k), .int .i64 (hi k)]) ∧ w = w' := by
  have hR := reads_any k
  cases h1 : rdK k <;> cases h2 : (k == 15)
  all_goals
    rw [h1] at hR
    go_enter Tryd.func38, Tryd.ntmps38
    go_wp2_with (first | (go_at_call 44; refine (hR _).mono ?_; rintro e w' ⟨rfl, rfl⟩))
    go_ret2
    exact ⟨CK.tup2 (by simp [lo, h1, h2]) (by simp [hi, h1, h2]), rfl⟩
end VC
end Go.Proofs.YtpaiagjaekkcgaaDoor
