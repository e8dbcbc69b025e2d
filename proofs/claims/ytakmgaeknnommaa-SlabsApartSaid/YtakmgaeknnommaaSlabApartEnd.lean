/-
  The walk of SlabsApart, at the layer as it landed.
-/
import Derived.Test.YtakmgaeknnommaaSlabCon
import Derived.Test.YtakmgaeknnommaaSlabApartMain
namespace Go.Proofs.Ytakmgaeknnommaa
open Go.RowKit
namespace SE
theorem con : SK.Con SD.Sd := SD.con
end SE
end Go.Proofs.Ytakmgaeknnommaa
