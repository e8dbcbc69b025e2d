/-
  DERIVED. GIVEN WITH THE SEED: THE CARDS: each row of YtpnpjebhopohhaaDoorRows.lean that lists a variable, with what it lists TIED to the program's text (the seventh form; the later family's looks); each row that meets fmt, with fmt's text TOLD by the authors' own Lean function (tested against real Go, not proved from fmt's source: count such statements apart). THE CARD IS WHAT COUNTS. Prove the row's statement (the work); the ties are given (YtpnpjebhopohhaaDoorTie.lean); close each card by the builder's one call (the guide's Derived/Test/ToyasCard.lean, 'card_holds'). Laid BY PROGRAM, IN A SANDBOX (cutbox-door.mjs). By AI agents, Wed Nov 11 2026. No macro, syntax, notation, axiom, sorry.
-/
import Derived.Test.YtpnpjebhopohhaaDoorRows
import GoSem.ClaimSeven
namespace Go.Proofs.YtpnpjebhopohhaaDoor
namespace Rows

/-- THE TIED CARD OF 'tallboylaw17.LineWrites'. -/
def lineWritesCard : Claim7 := { stood := { row := lineWritesRow, standIns := [], harness := (true, "8fd59c186e1736af7493dc4d7e0dd6eed81d1c17875ed72a3de327d64440db89"), looks := false }, kinds := [], alts := [], laidByText := true, laidKinds := [.data, .data, .data], laidTests := true, laidLooks := .later }
def LineWritesCardSaid : Prop := Claim7.holds Tryd.pinned (.plain (OpenSpec.ofChange lineWritesSpec)) lineWritesCard

/-- THE TIED CARD OF 'tallboylaw17.LineBack'. -/
def lineBackCard : Claim7 := { stood := { row := lineBackRow, standIns := [], harness := (true, "8fd59c186e1736af7493dc4d7e0dd6eed81d1c17875ed72a3de327d64440db89"), looks := false }, kinds := [], alts := [], laidByText := true, laidKinds := [.data, .data, .data], laidTests := true, laidLooks := .later }
def LineBackCardSaid : Prop := Claim7.holds Tryd.pinned (.plain (OpenSpec.ofChange lineBackSpec)) lineBackCard

/-- THE TIED CARD OF 'tallboylaw17.LineBlanks'. -/
def lineBlanksCard : Claim7 := { stood := { row := lineBlanksRow, standIns := [], harness := (true, "8fd59c186e1736af7493dc4d7e0dd6eed81d1c17875ed72a3de327d64440db89"), looks := false }, kinds := [], alts := [], laidByText := true, laidKinds := [.data, .data, .data], laidTests := true, laidLooks := .later }
def LineBlanksCardSaid : Prop := Claim7.holds Tryd.pinned (.plain (OpenSpec.ofChange lineBlanksSpec)) lineBlanksCard

/-- THE TIED CARD OF 'tallboylaw17.LineTotal'. -/
def lineTotalCard : Claim7 := { stood := { row := lineTotalRow, standIns := [], harness := (true, "8fd59c186e1736af7493dc4d7e0dd6eed81d1c17875ed72a3de327d64440db89"), looks := false }, kinds := [], alts := [], laidByText := true, laidKinds := [.data, .data, .data], laidTests := true, laidLooks := .later }
def LineTotalCardSaid : Prop := Claim7.holds Tryd.pinned (.plain (OpenSpec.ofChange lineTotalSpec)) lineTotalCard

/-- THE SECOND FORM's CARD OF 'tallboylaw17.LineWrites'. -/
def lineWritesUptoCard : Claim7 := { stood := { row := lineWritesUptoRow, standIns := [], harness := (true, "8fd59c186e1736af7493dc4d7e0dd6eed81d1c17875ed72a3de327d64440db89"), looks := false }, kinds := [], alts := [], laidByText := true, laidKinds := [.data, .data, .data], laidTests := true, laidLooks := .later }
def LineWritesUptoCardSaid : Prop := Claim7.holds Tryd.pinned (.plain (OpenSpec.upto lineWritesSpec)) lineWritesUptoCard

/-- THE SECOND FORM's CARD OF 'tallboylaw17.LineBack'. -/
def lineBackUptoCard : Claim7 := { stood := { row := lineBackUptoRow, standIns := [], harness := (true, "8fd59c186e1736af7493dc4d7e0dd6eed81d1c17875ed72a3de327d64440db89"), looks := false }, kinds := [], alts := [], laidByText := true, laidKinds := [.data, .data, .data], laidTests := true, laidLooks := .later }
def LineBackUptoCardSaid : Prop := Claim7.holds Tryd.pinned (.plain (OpenSpec.upto lineBackSpec)) lineBackUptoCard

/-- THE SECOND FORM's CARD OF 'tallboylaw17.LineBlanks'. -/
def lineBlanksUptoCard : Claim7 := { stood := { row := lineBlanksUptoRow, standIns := [], harness := (true, "8fd59c186e1736af7493dc4d7e0dd6eed81d1c17875ed72a3de327d64440db89"), looks := false }, kinds := [], alts := [], laidByText := true, laidKinds := [.data, .data, .data], laidTests := true, laidLooks := .later }
def LineBlanksUptoCardSaid : Prop := Claim7.holds Tryd.pinned (.plain (OpenSpec.upto lineBlanksSpec)) lineBlanksUptoCard

/-- THE SECOND FORM's CARD OF 'tallboylaw17.LineTotal'. -/
def lineTotalUptoCard : Claim7 := { stood := { row := lineTotalUptoRow, standIns := [], harness := (true, "8fd59c186e1736af7493dc4d7e0dd6eed81d1c17875ed72a3de327d64440db89"), looks := false }, kinds := [], alts := [], laidByText := true, laidKinds := [.data, .data, .data], laidTests := true, laidLooks := .later }
def LineTotalUptoCardSaid : Prop := Claim7.holds Tryd.pinned (.plain (OpenSpec.upto lineTotalSpec)) lineTotalUptoCard
end Rows
end Go.Proofs.YtpnpjebhopohhaaDoor
