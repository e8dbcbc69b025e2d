/-
  No cell of these rows narrows 'for every input' (looked for: loops, veiled, ifaces, maps, wideKeys, modest, calm, conditions, laid).
  DERIVED. THE GIVEN ROWS OF THIS SEAT. 3 by the template 'for every input the law returns true; each argument reads behind the call as it read before'; 0 by the template 'total and deterministic' (their statements: YtpklpbjjdiodeaaTotals.lean).
  GIVEN WITH THE SEED: the statements are not yours to turn. If you find one false, say at which input.
  Laid BY PROGRAM, IN A SANDBOX (cutbox-rows.mjs): the forced cells as the released guide's own fill.sh prints them over the translation 550a5b9eb92b6cd7… (all of the seat's roots in one cut). By AI agents, Wed Nov 11 2026. No macro, syntax, notation, axiom, sorry.
-/
import Derived.Test.YtpklpbjjdiodeaaChecked
import GoSem.Claim
import GoSem.ClaimJoined
import GoSem.ClaimMapViews
import Derived.JoinedTies
import Derived.KernelRfl
namespace Go.Proofs.Ytpklpbjjdiodeaa
/- THE CELL 'sum', in the pinned program and in every row, IS THE sha256 OF THE DUMP (.gsa) THAT YtpklpbjjdiodeaaProg.lean LOADS. Nothing in Lean hashes anything: it is a label: what it is worth is what the hold of that sum in a sandbox is worth. -/
noncomputable def Try.pinned : Pinned := { name := "ytpklpbjjdiodeaa", sum := "550a5b9eb92b6cd73271952a8abdd6a69510d15f2875e210e94e1e7f2c1f814c", checked := Try.checked }
namespace Rows
def none {H : Type} : Left H := { results := [], args := [] }

/-- 'tallboylaw10.AssocFinds': WHATEVER THE INPUT: true; the input reads as it did. -/
def assocFindsSpec : ChangeSpec := { name := "assocFinds", fn := fun _ => fun
  | [d1, d2] => { results := [.lit (.bool true)], args := [d1, d2] }
  | _ => none }
def assocFindsRow : OpenClaim := { program := "ytpklpbjjdiodeaa", sum := "550a5b9eb92b6cd73271952a8abdd6a69510d15f2875e210e94e1e7f2c1f814c", func := "tallboy/tallboylaw10.AssocFinds", spec := "assocFinds", unfollowed := true, recurses := true, apart := false }
def AssocFindsSaid : Prop := assocFindsRow.holds Try.pinned (OpenSpec.ofChange assocFindsSpec)

/-- ITS FALSE NEIGHBOUR: 'it returns false'. Refute it at one input. -/
def assocFindsWrong : ChangeSpec := { name := "assocFinds", fn := fun _ => fun
  | [d1, d2] => { results := [.lit (.bool false)], args := [d1, d2] }
  | _ => none }
def AssocFindsWrongFalsely : Prop := assocFindsRow.holds Try.pinned (OpenSpec.ofChange assocFindsWrong)

/-- 'tallboylaw10.AssocThreads': WHATEVER THE INPUT: true; the input reads as it did. -/
def assocThreadsSpec : ChangeSpec := { name := "assocThreads", fn := fun _ => fun
  | [d1, d2] => { results := [.lit (.bool true)], args := [d1, d2] }
  | _ => none }
def assocThreadsRow : OpenClaim := { program := "ytpklpbjjdiodeaa", sum := "550a5b9eb92b6cd73271952a8abdd6a69510d15f2875e210e94e1e7f2c1f814c", func := "tallboy/tallboylaw10.AssocThreads", spec := "assocThreads", unfollowed := true, recurses := true, apart := false }
def AssocThreadsSaid : Prop := assocThreadsRow.holds Try.pinned (OpenSpec.ofChange assocThreadsSpec)

/-- ITS FALSE NEIGHBOUR: 'it returns false'. Refute it at one input. -/
def assocThreadsWrong : ChangeSpec := { name := "assocThreads", fn := fun _ => fun
  | [d1, d2] => { results := [.lit (.bool false)], args := [d1, d2] }
  | _ => none }
def AssocThreadsWrongFalsely : Prop := assocThreadsRow.holds Try.pinned (OpenSpec.ofChange assocThreadsWrong)

/-- 'tallboylaw10.AssocEmpties': WHATEVER THE INPUT: true; the input reads as it did. -/
def assocEmptiesSpec : ChangeSpec := { name := "assocEmpties", fn := fun _ => fun
  | [d1, d2] => { results := [.lit (.bool true)], args := [d1, d2] }
  | _ => none }
def assocEmptiesRow : OpenClaim := { program := "ytpklpbjjdiodeaa", sum := "550a5b9eb92b6cd73271952a8abdd6a69510d15f2875e210e94e1e7f2c1f814c", func := "tallboy/tallboylaw10.AssocEmpties", spec := "assocEmpties", unfollowed := true, recurses := true, apart := false }
def AssocEmptiesSaid : Prop := assocEmptiesRow.holds Try.pinned (OpenSpec.ofChange assocEmptiesSpec)

/-- ITS FALSE NEIGHBOUR: 'it returns false'. Refute it at one input. -/
def assocEmptiesWrong : ChangeSpec := { name := "assocEmpties", fn := fun _ => fun
  | [d1, d2] => { results := [.lit (.bool false)], args := [d1, d2] }
  | _ => none }
def AssocEmptiesWrongFalsely : Prop := assocEmptiesRow.holds Try.pinned (OpenSpec.ofChange assocEmptiesWrong)

/- THE SECOND FORM. 'bulk': how many values and letters a reading holds, each counted each time it is reached (what is shared counts as often as it is met; a slice's spare places count too). A statement '..UptoSaid' is the law's where the arguments, and the package variables that the reading takes, are together of bulk at most 1048576: NARROWER than '..Said'. Prove '..Said' where nothing that the law and all that it calls make is longer than what came in: it says more and counts as full. Else prove '..UptoSaid'. A law counts once. -/
mutual
def uptoBulk {H : Type} : DataW H → Nat
  | .lit (.string bytes) => bytes.length + 1
  | .lit _ => 1
  | .nil => 1
  | .ptr d => uptoBulk d + 1
  | .slice elems spare => uptoBulkAll elems + uptoBulkAll spare + 1
  | .agg parts => uptoBulkAll parts + 1
  | .iface _ d => uptoBulk d + 1
  | .map entries => uptoBulkEntries entries + 1
  | .held _ => 1
def uptoBulkAll {H : Type} : List (DataW H) → Nat
  | [] => 0
  | d :: r => uptoBulk d + uptoBulkAll r
def uptoBulkEntries {H : Type} : List (Lit × DataW H) → Nat
  | [] => 0
  | x :: r => uptoBulkEntry x + uptoBulkEntries r
def uptoBulkEntry {H : Type} : Lit × DataW H → Nat
  | (.string bytes, d) => bytes.length + uptoBulk d + 1
  | (_, d) => uptoBulk d + 1
 end
def uptoSmall : (H : Type) → List (DataW H) → Bool := fun _ ds => decide (uptoBulkAll ds ≤ 1048576)
def OpenSpec.upto (s : _root_.Go.ChangeSpec) : _root_.Go.OpenSpec := { _root_.Go.OpenSpec.ofChange s with cond := some uptoSmall }

/-- 'tallboylaw10.AssocFinds', WHERE WHAT IT READS IS OF BULK AT MOST 1048576: true; the input reads as it did. -/
def assocFindsUptoRow : OpenClaim := { program := "ytpklpbjjdiodeaa", sum := "550a5b9eb92b6cd73271952a8abdd6a69510d15f2875e210e94e1e7f2c1f814c", func := "tallboy/tallboylaw10.AssocFinds", spec := "assocFinds", unfollowed := true, recurses := true, apart := false, narrowed := true }
def AssocFindsUptoSaid : Prop := assocFindsUptoRow.holds Try.pinned (OpenSpec.upto assocFindsSpec)

/-- 'tallboylaw10.AssocThreads', WHERE WHAT IT READS IS OF BULK AT MOST 1048576: true; the input reads as it did. -/
def assocThreadsUptoRow : OpenClaim := { program := "ytpklpbjjdiodeaa", sum := "550a5b9eb92b6cd73271952a8abdd6a69510d15f2875e210e94e1e7f2c1f814c", func := "tallboy/tallboylaw10.AssocThreads", spec := "assocThreads", unfollowed := true, recurses := true, apart := false, narrowed := true }
def AssocThreadsUptoSaid : Prop := assocThreadsUptoRow.holds Try.pinned (OpenSpec.upto assocThreadsSpec)

/-- 'tallboylaw10.AssocEmpties', WHERE WHAT IT READS IS OF BULK AT MOST 1048576: true; the input reads as it did. -/
def assocEmptiesUptoRow : OpenClaim := { program := "ytpklpbjjdiodeaa", sum := "550a5b9eb92b6cd73271952a8abdd6a69510d15f2875e210e94e1e7f2c1f814c", func := "tallboy/tallboylaw10.AssocEmpties", spec := "assocEmpties", unfollowed := true, recurses := true, apart := false, narrowed := true }
def AssocEmptiesUptoSaid : Prop := assocEmptiesUptoRow.holds Try.pinned (OpenSpec.upto assocEmptiesSpec)

end Rows
end Go.Proofs.Ytpklpbjjdiodeaa
