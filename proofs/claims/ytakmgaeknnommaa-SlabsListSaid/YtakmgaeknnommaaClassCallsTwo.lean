/-
  What classes.For, its plain twin and Same of the plain twins return.
-/
import Derived.Test.YtakmgaeknnommaaClassCalls
namespace Go.Proofs.Ytakmgaeknnommaa
open Go.RowKit
open KP CN
set_option linter.unusedVariables false
namespace CK
end CK
end Go.Proofs.Ytakmgaeknnommaa
