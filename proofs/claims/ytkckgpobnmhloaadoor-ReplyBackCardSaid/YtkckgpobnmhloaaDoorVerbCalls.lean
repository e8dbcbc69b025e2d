/-
  What the functions of the layer verb, and their plain twins, return, for any world: those of a kind alone.
-/
import Derived.Test.YtkckgpobnmhloaaDoorVerbPlain
import Derived.Test.YtkckgpobnmhloaaDoorClassMore
import Derived.Test.YtkckgpobnmhloaaDoorStrFrames
namespace Go.Proofs.YtkckgpobnmhloaaDoor
open Go.RowKit
open VP
set_option linter.unusedVariables false
namespace VC
theorem b1 {a c : Bool} (h : a = c) : Ending.returned (.bool a) = .returned (.bool c) := by rw [h]
theorem Shows_any (k : Int) (w : World) : Calls Tryd.prog 20 #[.int .i64 k] w fun e w' => e = .returned (.bool (shK k)) ∧ w = w' := by
  cases h1 : (k == 2)
  all_goals
    go_enter Tryd.func20, Tryd.ntmps20
    go_wp2
    go_ret
    exact ⟨b1 (by simp [shK, h1]), rfl⟩
theorem RShows_any (k : Int) (w : World) : Calls Tryd.prog 26 #[.int .i64 k] w fun e w' => e = .returned (.bool (shK k)) ∧ w = w' := by
  cases h1 : (k == 2)
  all_goals
    go_enter Tryd.func26, Tryd.ntmps26
    go_wp2
    go_ret
    exact ⟨b1 (by simp [shK, h1]), rfl⟩
end VC
end Go.Proofs.YtkckgpobnmhloaaDoor
