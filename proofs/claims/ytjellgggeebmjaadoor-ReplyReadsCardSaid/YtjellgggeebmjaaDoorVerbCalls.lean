/-
  What the functions of the layer verb, and their plain twins, return, for any world: those of a kind alone.
-/
import Derived.Test.YtjellgggeebmjaaDoorVerbPlain
import Derived.Test.YtjellgggeebmjaaDoorClassMore
import Derived.Test.YtjellgggeebmjaaDoorStrFrames
namespace Go.Proofs.YtjellgggeebmjaaDoor
open Go.RowKit
open VP
set_option linter.unusedVariables false
namespace VC
theorem b1 {a c : Bool} (h : a = c) : Ending.returned (.bool a) = .returned (.bool c) := by rw [h]
theorem isKind_any (k : Int) (w : World) : Calls Tryd.prog 51 #[.int .i64 k] w fun e w' => e = .returned (.bool (isK k)) ∧ w = w' := by
  by_cases h1 : 1 ≤ k
  all_goals
    go_enter Tryd.func51, Tryd.ntmps51
    go_wp2
    go_ret
    exact ⟨b1 (by simp [isK, h1] <;> omega), rfl⟩
theorem reads_any (k : Int) (w : World) : Calls Tryd.prog 83 #[.int .i64 k] w fun e w' => e = .returned (.bool (rdK k)) ∧ w = w' := by
  by_cases h1 : 1 ≤ k
  all_goals
    go_enter Tryd.func83, Tryd.ntmps83
    go_wp2
    go_ret
    exact ⟨b1 (by simp [rdK, h1] <;> omega), rfl⟩
theorem Stores_any (k : Int) (w : World) : Calls Tryd.prog 79 #[.int .i64 k] w fun e w' => e = .returned (.bool (stK k)) ∧ w = w' := by
  by_cases h1 : 5 ≤ k
  all_goals
    go_enter Tryd.func79, Tryd.ntmps79
    go_wp2
    go_ret
    exact ⟨b1 (by simp [stK, h1] <;> omega), rfl⟩
theorem RStores_any (k : Int) (w : World) : Calls Tryd.prog 11 #[.int .i64 k] w fun e w' => e = .returned (.bool (stK k)) ∧ w = w' := by
  by_cases h1 : 5 ≤ k
  all_goals
    go_enter Tryd.func11, Tryd.ntmps11
    go_wp2
    go_ret
    exact ⟨b1 (by simp [stK, h1] <;> omega), rfl⟩
theorem Shows_any (k : Int) (w : World) : Calls Tryd.prog 23 #[.int .i64 k] w fun e w' => e = .returned (.bool (shK k)) ∧ w = w' := by
  cases h1 : (k == 2)
  all_goals
    go_enter Tryd.func23, Tryd.ntmps23
    go_wp2
    go_ret
    exact ⟨b1 (by simp [shK, h1]), rfl⟩
theorem RShows_any (k : Int) (w : World) : Calls Tryd.prog 67 #[.int .i64 k] w fun e w' => e = .returned (.bool (shK k)) ∧ w = w' := by
  cases h1 : (k == 2)
  all_goals
    go_enter Tryd.func67, Tryd.ntmps67
    go_wp2
    go_ret
    exact ⟨b1 (by simp [shK, h1]), rfl⟩
theorem counts_any (k : Int) (w : World) : Calls Tryd.prog 82 #[.int .i64 k] w fun e w' => e = .returned (.bool (coK k)) ∧ w = w' := by
  cases h1 : (k == 12)
  all_goals
    go_enter Tryd.func82, Tryd.ntmps82
    go_wp2
    go_ret
    exact ⟨b1 (by simp [coK, h1]), rfl⟩
theorem setsEnd_any (k : Int) (w : World) : Calls Tryd.prog 81 #[.int .i64 k] w fun e w' => e = .returned (.bool (enK k)) ∧ w = w' := by
  cases h1 : (k == 3) <;> cases h2 : (k == 4)
  all_goals
    go_enter Tryd.func81, Tryd.ntmps81
    go_wp2
    go_ret
    exact ⟨b1 (by simp [enK, h1, h2]), rfl⟩
theorem laysAnew_any (k : Int) (w : World) : Calls Tryd.prog 80 #[.int .i64 k] w fun e w' => e = .returned (.bool (whK k)) ∧ w = w' := by
  have hS := Stores_any k
  cases h1 : stK k <;> cases h2 : (k != 8)
  all_goals
    rw [h1] at hS
    go_enter Tryd.func80, Tryd.ntmps80
    go_wp2_with (first | (go_at_call 79; refine (hS _).mono ?_; rintro e w' ⟨rfl, rfl⟩))
    go_ret
    exact ⟨b1 (by simp [whK, h1, h2]), rfl⟩
theorem keysOf_any (k : Int) (w : World) : Calls Tryd.prog 77 #[.int .i64 k] w fun e w' => e = .returned (.tuple #[.int .i64 (lo k), .int .i64 (hi k)]) ∧ w = w' := by
  have hR := reads_any k
  cases h1 : rdK k <;> cases h2 : (k == 15)
  all_goals
    rw [h1] at hR
    go_enter Tryd.func77, Tryd.ntmps77
    go_wp2_with (first | (go_at_call 83; refine (hR _).mono ?_; rintro e w' ⟨rfl, rfl⟩))
    go_ret2
    exact ⟨CK.tup2 (by simp [lo, h1, h2]) (by simp [hi, h1, h2]), rfl⟩
end VC
end Go.Proofs.YtjellgggeebmjaaDoor
