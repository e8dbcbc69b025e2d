/-
  What classes.Table returns.
-/
import Derived.Test.YtakmgaeknnommaaClassCallsTwo
namespace Go.Proofs.Ytakmgaeknnommaa
open Go.RowKit
open KP CN
set_option linter.unusedVariables false
namespace CK
end CK
end Go.Proofs.Ytakmgaeknnommaa
