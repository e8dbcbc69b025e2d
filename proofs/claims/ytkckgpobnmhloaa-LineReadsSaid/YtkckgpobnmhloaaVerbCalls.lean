/-
  What the functions of the layer verb, and their plain twins, return, for any world: those of a kind alone.
-/
import Derived.Test.YtkckgpobnmhloaaVerbPlain
import Derived.Test.YtkckgpobnmhloaaClassMore
import Derived.Test.YtkckgpobnmhloaaStrFrames
namespace Go.Proofs.Ytkckgpobnmhloaa
open Go.RowKit
open VP
set_option linter.unusedVariables false
namespace VC
theorem b1 {a c : Bool} (h : a = c) : Ending.returned (.bool a) = .returned (.bool c) := by rw [h]
theorem isKind_any (k : Int) (w : World) : Calls Try.prog 39 #[.int .i64 k] w fun e w' => e = .returned (.bool (isK k)) ∧ w = w' := by
  by_cases h1 : 1 ≤ k
  all_goals
    go_enter Try.func39, Try.ntmps39
    go_wp2
    go_ret
    exact ⟨b1 (by simp [isK, h1] <;> omega), rfl⟩
theorem RReads_any (k : Int) (w : World) : Calls Try.prog 17 #[.int .i64 k] w fun e w' => e = .returned (.bool (rdK k)) ∧ w = w' := by
  by_cases h1 : 1 ≤ k
  all_goals
    go_enter Try.func17, Try.ntmps17
    go_wp2
    go_ret
    exact ⟨b1 (by simp [rdK, h1] <;> omega), rfl⟩
theorem Stores_any (k : Int) (w : World) : Calls Try.prog 13 #[.int .i64 k] w fun e w' => e = .returned (.bool (stK k)) ∧ w = w' := by
  by_cases h1 : 5 ≤ k
  all_goals
    go_enter Try.func13, Try.ntmps13
    go_wp2
    go_ret
    exact ⟨b1 (by simp [stK, h1] <;> omega), rfl⟩
theorem RStores_any (k : Int) (w : World) : Calls Try.prog 20 #[.int .i64 k] w fun e w' => e = .returned (.bool (stK k)) ∧ w = w' := by
  by_cases h1 : 5 ≤ k
  all_goals
    go_enter Try.func20, Try.ntmps20
    go_wp2
    go_ret
    exact ⟨b1 (by simp [stK, h1] <;> omega), rfl⟩
end VC
end Go.Proofs.Ytkckgpobnmhloaa
