/-
  What a walk is told of a slice of whole numbers that came in (for any kind).
-/
import Derived.Test.YtjellgggeebmjaaDoorProg
import Derived.WalkKit
import Derived.OpenShut
namespace Go.Proofs.YtjellgggeebmjaaDoor
open Go.RowKit Go.ChangeShapes Go.WideShapes
set_option linter.unusedVariables false
namespace Frames
/-- nil, or a row of cap cells that hold the numbers zs, each of its kind; the first len of them are the slice's -/
def IsRow (k : IntKind) (w : World) (a : Option Addr) (len cap : Nat) (zs : List Int) : Prop :=
  (a = none ∧ len = 0 ∧ cap = 0 ∧ zs = []) ∨
  ∃ x, a = some x ∧ len ≤ cap ∧ cap ≤ maxLen ∧ zs.length = cap ∧ (∀ i, i < zs.length → w.cell? (x.add i) = some (.int k (zs.getD i 0))) ∧ ∀ n ∈ zs, (Lit.int k n).wf = true
end Frames
end Go.Proofs.YtjellgggeebmjaaDoor
