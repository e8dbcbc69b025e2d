/-
  No cell of these rows narrows 'for every input' (looked for: loops, veiled, ifaces, maps, wideKeys, modest, calm, conditions, laid).
  DERIVED. THE GIVEN ROWS OF THIS SEAT. 5 by the template 'for every input the law returns true; each argument reads behind the call as it read before'; 0 by the template 'total and deterministic' (their statements: YtpmoliobaikcgaaTotals.lean).
  GIVEN WITH THE SEED: the statements are not yours to turn. If you find one false, say at which input.
  Laid BY PROGRAM, IN A SANDBOX (cutbox-rows.mjs): the forced cells as the released guide's own fill.sh prints them over the translation 1c20c269e72debf5… (all of the seat's roots in one cut). By AI agents, Wed Nov 11 2026. No macro, syntax, notation, axiom, sorry.
-/
import Derived.Test.YtpmoliobaikcgaaChecked
import GoSem.Claim
import GoSem.ClaimJoined
import GoSem.ClaimMapViews
import Derived.JoinedTies
import Derived.KernelRfl
namespace Go.Proofs.Ytpmoliobaikcgaa
/- THE CELL 'sum', in the pinned program and in every row, IS THE sha256 OF THE DUMP (.gsa) THAT YtpmoliobaikcgaaProg.lean LOADS. Nothing in Lean hashes anything: it is a label: what it is worth is what the hold of that sum in a sandbox is worth. -/
noncomputable def Try.pinned : Pinned := { name := "ytpmoliobaikcgaa", sum := "1c20c269e72debf589a017cc15863be3b2fa23f9443187cba1e0236e95a40d5f", checked := Try.checked }
namespace Rows
def none {H : Type} : Left H := { results := [], args := [] }

/-- 'tallboylaw08.ItemNeeds': WHATEVER THE INPUT: true; the input reads as it did. -/
def itemNeedsSpec : ChangeSpec := { name := "itemNeeds", fn := fun _ => fun
  | [d1, d2, d3] => { results := [.lit (.bool true)], args := [d1, d2, d3] }
  | _ => none }
def itemNeedsRow : OpenClaim := { program := "ytpmoliobaikcgaa", sum := "1c20c269e72debf589a017cc15863be3b2fa23f9443187cba1e0236e95a40d5f", func := "tallboy/tallboylaw08.ItemNeeds", spec := "itemNeeds", apart := false }
def ItemNeedsSaid : Prop := itemNeedsRow.holds Try.pinned (OpenSpec.ofChange itemNeedsSpec)

/-- ITS FALSE NEIGHBOUR: 'it returns false'. Refute it at one input. -/
def itemNeedsWrong : ChangeSpec := { name := "itemNeeds", fn := fun _ => fun
  | [d1, d2, d3] => { results := [.lit (.bool false)], args := [d1, d2, d3] }
  | _ => none }
def ItemNeedsWrongFalsely : Prop := itemNeedsRow.holds Try.pinned (OpenSpec.ofChange itemNeedsWrong)

/-- 'tallboylaw08.ItemBack': WHATEVER THE INPUT: true; the input reads as it did. -/
def itemBackSpec : ChangeSpec := { name := "itemBack", fn := fun _ => fun
  | [d1, d2] => { results := [.lit (.bool true)], args := [d1, d2] }
  | _ => none }
def itemBackRow : OpenClaim := { program := "ytpmoliobaikcgaa", sum := "1c20c269e72debf589a017cc15863be3b2fa23f9443187cba1e0236e95a40d5f", func := "tallboy/tallboylaw08.ItemBack", spec := "itemBack", apart := false }
def ItemBackSaid : Prop := itemBackRow.holds Try.pinned (OpenSpec.ofChange itemBackSpec)

/-- ITS FALSE NEIGHBOUR: 'it returns false'. Refute it at one input. -/
def itemBackWrong : ChangeSpec := { name := "itemBack", fn := fun _ => fun
  | [d1, d2] => { results := [.lit (.bool false)], args := [d1, d2] }
  | _ => none }
def ItemBackWrongFalsely : Prop := itemBackRow.holds Try.pinned (OpenSpec.ofChange itemBackWrong)

/-- 'tallboylaw08.ItemFields': WHATEVER THE INPUT: true; the input reads as it did. -/
def itemFieldsSpec : ChangeSpec := { name := "itemFields", fn := fun _ => fun
  | [d1, d2, d3] => { results := [.lit (.bool true)], args := [d1, d2, d3] }
  | _ => none }
def itemFieldsRow : OpenClaim := { program := "ytpmoliobaikcgaa", sum := "1c20c269e72debf589a017cc15863be3b2fa23f9443187cba1e0236e95a40d5f", func := "tallboy/tallboylaw08.ItemFields", spec := "itemFields", apart := false }
def ItemFieldsSaid : Prop := itemFieldsRow.holds Try.pinned (OpenSpec.ofChange itemFieldsSpec)

/-- ITS FALSE NEIGHBOUR: 'it returns false'. Refute it at one input. -/
def itemFieldsWrong : ChangeSpec := { name := "itemFields", fn := fun _ => fun
  | [d1, d2, d3] => { results := [.lit (.bool false)], args := [d1, d2, d3] }
  | _ => none }
def ItemFieldsWrongFalsely : Prop := itemFieldsRow.holds Try.pinned (OpenSpec.ofChange itemFieldsWrong)

/-- 'tallboylaw08.ItemNext': WHATEVER THE INPUT: true; the input reads as it did. -/
def itemNextSpec : ChangeSpec := { name := "itemNext", fn := fun _ => fun
  | [d1, d2, d3] => { results := [.lit (.bool true)], args := [d1, d2, d3] }
  | _ => none }
def itemNextRow : OpenClaim := { program := "ytpmoliobaikcgaa", sum := "1c20c269e72debf589a017cc15863be3b2fa23f9443187cba1e0236e95a40d5f", func := "tallboy/tallboylaw08.ItemNext", spec := "itemNext", apart := false }
def ItemNextSaid : Prop := itemNextRow.holds Try.pinned (OpenSpec.ofChange itemNextSpec)

/-- ITS FALSE NEIGHBOUR: 'it returns false'. Refute it at one input. -/
def itemNextWrong : ChangeSpec := { name := "itemNext", fn := fun _ => fun
  | [d1, d2, d3] => { results := [.lit (.bool false)], args := [d1, d2, d3] }
  | _ => none }
def ItemNextWrongFalsely : Prop := itemNextRow.holds Try.pinned (OpenSpec.ofChange itemNextWrong)

/-- 'tallboylaw08.ItemTwo': WHATEVER THE INPUT: true; the input reads as it did. -/
def itemTwoSpec : ChangeSpec := { name := "itemTwo", fn := fun _ => fun
  | [d1, d2, d3] => { results := [.lit (.bool true)], args := [d1, d2, d3] }
  | _ => none }
def itemTwoRow : OpenClaim := { program := "ytpmoliobaikcgaa", sum := "1c20c269e72debf589a017cc15863be3b2fa23f9443187cba1e0236e95a40d5f", func := "tallboy/tallboylaw08.ItemTwo", spec := "itemTwo", apart := false }
def ItemTwoSaid : Prop := itemTwoRow.holds Try.pinned (OpenSpec.ofChange itemTwoSpec)

/-- ITS FALSE NEIGHBOUR: 'it returns false'. Refute it at one input. -/
def itemTwoWrong : ChangeSpec := { name := "itemTwo", fn := fun _ => fun
  | [d1, d2, d3] => { results := [.lit (.bool false)], args := [d1, d2, d3] }
  | _ => none }
def ItemTwoWrongFalsely : Prop := itemTwoRow.holds Try.pinned (OpenSpec.ofChange itemTwoWrong)

/- THE SECOND FORM. 'bulk': how many values and letters a reading holds, each counted each time it is reached (what is shared counts as often as it is met; a slice's spare places count too). A statement '..UptoSaid' is the law's where the arguments, and the package variables that the reading takes, are together of bulk at most 1048576: NARROWER than '..Said'. Prove '..Said' where nothing that the law and all that it calls make is longer than what came in: it says more and counts as full. Else prove '..UptoSaid'. A law counts once. -/
mutual
def uptoBulk {H : Type} : DataW H → Nat
  | .lit (.string bytes) => bytes.length + 1
  | .lit _ => 1
  | .nil => 1
  | .ptr d => uptoBulk d + 1
  | .slice elems spare => uptoBulkAll elems + uptoBulkAll spare + 1
  | .agg parts => uptoBulkAll parts + 1
  | .iface _ d => uptoBulk d + 1
  | .map entries => uptoBulkEntries entries + 1
  | .held _ => 1
def uptoBulkAll {H : Type} : List (DataW H) → Nat
  | [] => 0
  | d :: r => uptoBulk d + uptoBulkAll r
def uptoBulkEntries {H : Type} : List (Lit × DataW H) → Nat
  | [] => 0
  | x :: r => uptoBulkEntry x + uptoBulkEntries r
def uptoBulkEntry {H : Type} : Lit × DataW H → Nat
  | (.string bytes, d) => bytes.length + uptoBulk d + 1
  | (_, d) => uptoBulk d + 1
 end
def uptoSmall : (H : Type) → List (DataW H) → Bool := fun _ ds => decide (uptoBulkAll ds ≤ 1048576)
def OpenSpec.upto (s : _root_.Go.ChangeSpec) : _root_.Go.OpenSpec := { _root_.Go.OpenSpec.ofChange s with cond := some uptoSmall }

/-- 'tallboylaw08.ItemNeeds', WHERE WHAT IT READS IS OF BULK AT MOST 1048576: true; the input reads as it did. -/
def itemNeedsUptoRow : OpenClaim := { program := "ytpmoliobaikcgaa", sum := "1c20c269e72debf589a017cc15863be3b2fa23f9443187cba1e0236e95a40d5f", func := "tallboy/tallboylaw08.ItemNeeds", spec := "itemNeeds", apart := false, narrowed := true }
def ItemNeedsUptoSaid : Prop := itemNeedsUptoRow.holds Try.pinned (OpenSpec.upto itemNeedsSpec)

/-- 'tallboylaw08.ItemBack', WHERE WHAT IT READS IS OF BULK AT MOST 1048576: true; the input reads as it did. -/
def itemBackUptoRow : OpenClaim := { program := "ytpmoliobaikcgaa", sum := "1c20c269e72debf589a017cc15863be3b2fa23f9443187cba1e0236e95a40d5f", func := "tallboy/tallboylaw08.ItemBack", spec := "itemBack", apart := false, narrowed := true }
def ItemBackUptoSaid : Prop := itemBackUptoRow.holds Try.pinned (OpenSpec.upto itemBackSpec)

/-- 'tallboylaw08.ItemFields', WHERE WHAT IT READS IS OF BULK AT MOST 1048576: true; the input reads as it did. -/
def itemFieldsUptoRow : OpenClaim := { program := "ytpmoliobaikcgaa", sum := "1c20c269e72debf589a017cc15863be3b2fa23f9443187cba1e0236e95a40d5f", func := "tallboy/tallboylaw08.ItemFields", spec := "itemFields", apart := false, narrowed := true }
def ItemFieldsUptoSaid : Prop := itemFieldsUptoRow.holds Try.pinned (OpenSpec.upto itemFieldsSpec)

/-- 'tallboylaw08.ItemNext', WHERE WHAT IT READS IS OF BULK AT MOST 1048576: true; the input reads as it did. -/
def itemNextUptoRow : OpenClaim := { program := "ytpmoliobaikcgaa", sum := "1c20c269e72debf589a017cc15863be3b2fa23f9443187cba1e0236e95a40d5f", func := "tallboy/tallboylaw08.ItemNext", spec := "itemNext", apart := false, narrowed := true }
def ItemNextUptoSaid : Prop := itemNextUptoRow.holds Try.pinned (OpenSpec.upto itemNextSpec)

/-- 'tallboylaw08.ItemTwo', WHERE WHAT IT READS IS OF BULK AT MOST 1048576: true; the input reads as it did. -/
def itemTwoUptoRow : OpenClaim := { program := "ytpmoliobaikcgaa", sum := "1c20c269e72debf589a017cc15863be3b2fa23f9443187cba1e0236e95a40d5f", func := "tallboy/tallboylaw08.ItemTwo", spec := "itemTwo", apart := false, narrowed := true }
def ItemTwoUptoSaid : Prop := itemTwoUptoRow.holds Try.pinned (OpenSpec.upto itemTwoSpec)

end Rows
end Go.Proofs.Ytpmoliobaikcgaa
