/-
  What SetNumber, SetPlace and New of the plain twin do.
-/
import Derived.Test.YtakmgaeknnommaaArenaRefThree
namespace Go.Proofs.Ytakmgaeknnommaa
open Go.RowKit
open CS CM CC AM AC AX AL
set_option linter.unusedVariables false
namespace AR
section
variable {w : World} {R O K : Nat} {own : List Int} {mem : Nat → UInt8}
end
end AR
end Go.Proofs.Ytakmgaeknnommaa
