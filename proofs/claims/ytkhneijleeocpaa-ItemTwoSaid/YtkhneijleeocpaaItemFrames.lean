/-
  What a walk is told of an item that comes in by value.
-/
import Derived.Test.YtkhneijleeocpaaFrameRow
import Derived.Deep.Slices
import Derived.Deep.Fields
import Derived.Test.YtkhneijleeocpaaItemHead
namespace Go.Proofs.Ytkhneijleeocpaa
open Go.RowKit Go.ChangeShapes Go.WideShapes Go.Deep
set_option linter.unusedVariables false
namespace Frames
theorem array5 {α : Type} {cs : Array α} (h : cs.size = 5) : ∃ c0 c1 c2 c3 c4, cs = #[c0, c1, c2, c3, c4] := by
  obtain ⟨l⟩ := cs
  match l, h with
  | [c0, c1, c2, c3, c4], _ => exact ⟨c0, c1, c2, c3, c4, rfl⟩
structure IsItem (v : Value) (k s : ByteArray) (fl ex cas : Nat) : Prop where
  eq : v = IL.itV k s fl ex cas
  k1 : k.size ≤ maxLen
  s1 : s.size ≤ maxLen
  fl1 : fl < 4294967296
  ex1 : ex < 4294967296
  cas1 : cas < 18446744073709551616
end Frames
end Go.Proofs.Ytkhneijleeocpaa
