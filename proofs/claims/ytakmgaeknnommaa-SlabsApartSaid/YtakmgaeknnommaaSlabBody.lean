/-
  SlabsApart's code, cut: its outermost loops' bodies, and what stands behind the first.
-/
import Derived.Test.YtakmgaeknnommaaSlabSteps
namespace Go.Proofs.Ytakmgaeknnommaa
open Go.RowKit
namespace SA
/-- where nothing but the normal way is taken, what is asked of the others is of no account -/
theorem wp_nop {P : Program} {c : Code} {K : Act → World → Prop} {Q : Exit → Act → World → Prop} {a : Act} {w : World} (h : c.wp P (Exit.then K (fun _ _ _ => False)) a w) : c.wp P (Exit.then K Q) a w := fun b k cs => by
  obtain ⟨e, a', w', q, r⟩ := h b k cs
  refine ⟨e, a', w', ?_, r⟩
  cases e <;> first | exact q | exact q.elim
/-- the bodies of a code's outermost loops -/
def loopsOf : Code → List Code
  | .loop c => [c]
  | .seq a b => loopsOf a ++ loopsOf b
  | .block _ c => loopsOf c
  | .scope c => loopsOf c
  | .cond _ a b => loopsOf a ++ loopsOf b
  | _ => []
/-- what stands behind the first statement that holds a loop -/
def behindLoop : Code → Code
  | .seq a b => match loopsOf a with
    | [] => behindLoop b
    | _ => b
  | .block _ c => behindLoop c
  | .scope c => behindLoop c
  | _ => .skip
noncomputable def bodyN (i : Nat) : Code := (loopsOf (Try.f3.body.getD .skip)).getD i .skip
noncomputable def restA : Code := behindLoop (Try.f3.body.getD .skip)
end SA
end Go.Proofs.Ytakmgaeknnommaa
