/-
  What the functions of the layer classes, and their plain twins, return: those that make nothing.
-/
import Derived.Test.YtkhneijleeocpaaClassMem
import Derived.Deep.RegionWith
import Derived.BigQuiet
import Derived.Lib.QuietBelow
namespace Go.Proofs.Ytkhneijleeocpaa
open Go.RowKit
open KP CN
set_option linter.unusedVariables false
namespace CK
theorem one1 {k : IntKind} {a c : Int} (h : a = c) : Ending.returned (.int k a) = .returned (.int k c) := by rw [h]
theorem tup2 {k l : IntKind} {a b c d : Int} (h : a = c) (g : b = d) : Ending.returned (.tuple #[.int k a, .int l b]) = .returned (.tuple #[.int k c, .int l d]) := by rw [h, g]
theorem pp_facts (n : Int) : 0 ≤ pp n ∧ pp n ≤ 1024 := by
  refine ⟨pp_lo n, ?_⟩
  unfold pp
  split
  · decide
  · rename_i h
    have h1 : (0 : Int) ≤ 1024 / n := Int.ediv_nonneg (by decide) (by omega)
    have h2 := Int.mul_ediv_add_emod 1024 n
    have h3 := Int.emod_nonneg 1024 (show n ≠ 0 by omega)
    have h4 : 1024 / n ≤ n * (1024 / n) := by
      have := Int.mul_le_mul_of_nonneg_right (show (1 : Int) ≤ n by omega) h1
      omega
    omega
/-- what is left of a page -/
theorem ww_facts (n : Int) : 0 ≤ pp n * n ∧ pp n * n ≤ 1024 ∨ pp n = 0 := by
  by_cases h : n < 1
  · exact .inr (by unfold pp; rw [if_pos h])
  · exact .inl ⟨Int.mul_nonneg (pp_lo n) (by omega), (pp_mul n (by omega)).1⟩
end CK
end Go.Proofs.Ytkhneijleeocpaa
