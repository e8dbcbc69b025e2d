/-
  No cell of these rows narrows 'for every input' (looked for: loops, veiled, ifaces, maps, wideKeys, modest, calm, conditions, laid).
  DERIVED. THE GIVEN ROWS OF THIS SEAT. 3 by the template 'for every input the law returns true; each argument reads behind the call as it read before'; 0 by the template 'total and deterministic' (their statements: YtllbcihomojeiaaGreatTotals.lean).
  GIVEN WITH THE SEED: the statements are not yours to turn. If you find one false, say at which input.
  Laid BY PROGRAM, IN A SANDBOX (cutbox-rows.mjs): the forced cells as the released guide's own fill.sh prints them over the translation 3f35c695a5a6a7e6… (all of the seat's roots in one cut). By AI agents, Wed Nov 11 2026. No macro, syntax, notation, axiom, sorry.
-/
import Derived.Test.YtllbcihomojeiaaGreatChecked
import GoSem.Claim
import GoSem.ClaimJoined
import GoSem.ClaimMapViews
import Derived.JoinedTies
import Derived.KernelRfl
namespace Go.Proofs.YtllbcihomojeiaaGreat
/- THE CELL 'sum', in the pinned program and in every row, IS THE sha256 OF THE DUMP (.gsa) THAT YtllbcihomojeiaaGreatProg.lean LOADS. Nothing in Lean hashes anything: it is a label: what it is worth is what the hold of that sum in a sandbox is worth. -/
noncomputable def Tryz.pinned : Pinned := { name := "ytllbcihomojeiaagreat", sum := "3f35c695a5a6a7e643f409569f2ae409df204882d952c2c4f2fb7ae0c2d63390", checked := Tryz.checked }
namespace Rows
def none {H : Type} : Left H := { results := [], args := [] }

/-- 'tallboylaw11.GrowDoes': WHATEVER THE INPUT: true; the input reads as it did. -/
def growDoesSpec : ChangeSpec := { name := "growDoes", fn := fun _ => fun
  | [d] => { results := [.lit (.bool true)], args := [d] }
  | _ => none }
def growDoesRow : OpenClaim := { program := "ytllbcihomojeiaagreat", sum := "3f35c695a5a6a7e643f409569f2ae409df204882d952c2c4f2fb7ae0c2d63390", func := "tallboy/tallboylaw11.GrowDoes", spec := "growDoes", unfollowed := true, recurses := true, apart := false }
def GrowDoesSaid : Prop := growDoesRow.holds Tryz.pinned (OpenSpec.ofChange growDoesSpec)

/-- ITS FALSE NEIGHBOUR: 'it returns false'. Refute it at one input. -/
def growDoesWrong : ChangeSpec := { name := "growDoes", fn := fun _ => fun
  | [d] => { results := [.lit (.bool false)], args := [d] }
  | _ => none }
def GrowDoesWrongFalsely : Prop := growDoesRow.holds Tryz.pinned (OpenSpec.ofChange growDoesWrong)

/-- 'tallboylaw11.GrowSame': WHATEVER THE INPUT: true; the input reads as it did. -/
def growSameSpec : ChangeSpec := { name := "growSame", fn := fun _ => fun
  | [d] => { results := [.lit (.bool true)], args := [d] }
  | _ => none }
def growSameRow : OpenClaim := { program := "ytllbcihomojeiaagreat", sum := "3f35c695a5a6a7e643f409569f2ae409df204882d952c2c4f2fb7ae0c2d63390", func := "tallboy/tallboylaw11.GrowSame", spec := "growSame", unfollowed := true, recurses := true, apart := false }
def GrowSameSaid : Prop := growSameRow.holds Tryz.pinned (OpenSpec.ofChange growSameSpec)

/-- ITS FALSE NEIGHBOUR: 'it returns false'. Refute it at one input. -/
def growSameWrong : ChangeSpec := { name := "growSame", fn := fun _ => fun
  | [d] => { results := [.lit (.bool false)], args := [d] }
  | _ => none }
def GrowSameWrongFalsely : Prop := growSameRow.holds Tryz.pinned (OpenSpec.ofChange growSameWrong)

/-- 'tallboylaw11.GrowTwo': WHATEVER THE INPUT: true; the input reads as it did. -/
def growTwoSpec : ChangeSpec := { name := "growTwo", fn := fun _ => fun
  | [d1, d2] => { results := [.lit (.bool true)], args := [d1, d2] }
  | _ => none }
def growTwoRow : OpenClaim := { program := "ytllbcihomojeiaagreat", sum := "3f35c695a5a6a7e643f409569f2ae409df204882d952c2c4f2fb7ae0c2d63390", func := "tallboy/tallboylaw11.GrowTwo", spec := "growTwo", unfollowed := true, recurses := true, apart := false }
def GrowTwoSaid : Prop := growTwoRow.holds Tryz.pinned (OpenSpec.ofChange growTwoSpec)

/-- ITS FALSE NEIGHBOUR: 'it returns false'. Refute it at one input. -/
def growTwoWrong : ChangeSpec := { name := "growTwo", fn := fun _ => fun
  | [d1, d2] => { results := [.lit (.bool false)], args := [d1, d2] }
  | _ => none }
def GrowTwoWrongFalsely : Prop := growTwoRow.holds Tryz.pinned (OpenSpec.ofChange growTwoWrong)

/- THE SECOND FORM. 'bulk': how many values and letters a reading holds, each counted each time it is reached (what is shared counts as often as it is met; a slice's spare places count too). A statement '..UptoSaid' is the law's where the arguments, and the package variables that the reading takes, are together of bulk at most 1048576: NARROWER than '..Said'. Prove '..Said' where nothing that the law and all that it calls make is longer than what came in: it says more and counts as full. Else prove '..UptoSaid'. A law counts once. -/
mutual
def uptoBulk {H : Type} : DataW H → Nat
  | .lit (.string bytes) => bytes.length + 1
  | .lit _ => 1
  | .nil => 1
  | .ptr d => uptoBulk d + 1
  | .slice elems spare => uptoBulkAll elems + uptoBulkAll spare + 1
  | .agg parts => uptoBulkAll parts + 1
  | .iface _ d => uptoBulk d + 1
  | .map entries => uptoBulkEntries entries + 1
  | .held _ => 1
def uptoBulkAll {H : Type} : List (DataW H) → Nat
  | [] => 0
  | d :: r => uptoBulk d + uptoBulkAll r
def uptoBulkEntries {H : Type} : List (Lit × DataW H) → Nat
  | [] => 0
  | x :: r => uptoBulkEntry x + uptoBulkEntries r
def uptoBulkEntry {H : Type} : Lit × DataW H → Nat
  | (.string bytes, d) => bytes.length + uptoBulk d + 1
  | (_, d) => uptoBulk d + 1
 end
def uptoSmall : (H : Type) → List (DataW H) → Bool := fun _ ds => decide (uptoBulkAll ds ≤ 1048576)
def OpenSpec.upto (s : _root_.Go.ChangeSpec) : _root_.Go.OpenSpec := { _root_.Go.OpenSpec.ofChange s with cond := some uptoSmall }

/-- 'tallboylaw11.GrowDoes', WHERE WHAT IT READS IS OF BULK AT MOST 1048576: true; the input reads as it did. -/
def growDoesUptoRow : OpenClaim := { program := "ytllbcihomojeiaagreat", sum := "3f35c695a5a6a7e643f409569f2ae409df204882d952c2c4f2fb7ae0c2d63390", func := "tallboy/tallboylaw11.GrowDoes", spec := "growDoes", unfollowed := true, recurses := true, apart := false, narrowed := true }
def GrowDoesUptoSaid : Prop := growDoesUptoRow.holds Tryz.pinned (OpenSpec.upto growDoesSpec)

/-- 'tallboylaw11.GrowSame', WHERE WHAT IT READS IS OF BULK AT MOST 1048576: true; the input reads as it did. -/
def growSameUptoRow : OpenClaim := { program := "ytllbcihomojeiaagreat", sum := "3f35c695a5a6a7e643f409569f2ae409df204882d952c2c4f2fb7ae0c2d63390", func := "tallboy/tallboylaw11.GrowSame", spec := "growSame", unfollowed := true, recurses := true, apart := false, narrowed := true }
def GrowSameUptoSaid : Prop := growSameUptoRow.holds Tryz.pinned (OpenSpec.upto growSameSpec)

/-- 'tallboylaw11.GrowTwo', WHERE WHAT IT READS IS OF BULK AT MOST 1048576: true; the input reads as it did. -/
def growTwoUptoRow : OpenClaim := { program := "ytllbcihomojeiaagreat", sum := "3f35c695a5a6a7e643f409569f2ae409df204882d952c2c4f2fb7ae0c2d63390", func := "tallboy/tallboylaw11.GrowTwo", spec := "growTwo", unfollowed := true, recurses := true, apart := false, narrowed := true }
def GrowTwoUptoSaid : Prop := growTwoUptoRow.holds Tryz.pinned (OpenSpec.upto growTwoSpec)

end Rows
end Go.Proofs.YtllbcihomojeiaaGreat
