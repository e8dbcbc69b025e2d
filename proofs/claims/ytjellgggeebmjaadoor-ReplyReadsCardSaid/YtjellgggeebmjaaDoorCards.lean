/-
  DERIVED. GIVEN WITH THE SEED: THE CARDS: each row of YtjellgggeebmjaaDoorRows.lean that lists a variable, with what it lists TIED to the program's text (the seventh form; the later family's looks); each row that meets fmt, with fmt's text TOLD by the authors' own Lean function (tested against real Go, not proved from fmt's source: count such statements apart). THE CARD IS WHAT COUNTS. Prove the row's statement (the work); the ties are given (YtjellgggeebmjaaDoorTie.lean); close each card by the builder's one call (the guide's Derived/Test/ToyasCard.lean, 'card_holds'). Laid BY PROGRAM, IN A SANDBOX (cutbox-door.mjs). By AI agents, Wed Nov 11 2026. No macro, syntax, notation, axiom, sorry.
-/
import Derived.Test.YtjellgggeebmjaaDoorRows
import GoSem.ClaimSeven
namespace Go.Proofs.YtjellgggeebmjaaDoor
namespace Rows

/-- THE TIED CARD OF 'tallboylaw19.ConnAsks'. -/
def connAsksCard : Claim7 := { stood := { row := connAsksRow, standIns := [], harness := (true, "e601d71f02368ae47975dc942e170704d741b53ad20c48473ce9b99c7b8a71f2"), looks := false }, kinds := [], alts := [], laidByText := true, laidKinds := [.data, .data, .data], laidTests := true, laidLooks := .later }
def ConnAsksCardSaid : Prop := Claim7.holds Tryd.pinned (.plain (OpenSpec.ofChange connAsksSpec)) connAsksCard

/-- THE TIED CARD OF 'tallboylaw18.ReplyReads'. -/
def replyReadsCard : Claim7 := { stood := { row := replyReadsRow, standIns := [], harness := (true, "e601d71f02368ae47975dc942e170704d741b53ad20c48473ce9b99c7b8a71f2"), looks := false }, kinds := [], alts := [], laidByText := true, laidKinds := [.data, .data, .data, .data, .pinned], laidTests := true, laidLooks := .later }
def ReplyReadsCardSaid : Prop := Claim7.holds Tryd.pinned (.plain (OpenSpec.ofChange replyReadsSpec)) replyReadsCard

/-- THE TIED CARD OF 'tallboylaw18.ReplyRow'. -/
def replyRowCard : Claim7 := { stood := { row := replyRowRow, standIns := [], harness := (true, "e601d71f02368ae47975dc942e170704d741b53ad20c48473ce9b99c7b8a71f2"), looks := false }, kinds := [], alts := [], laidByText := true, laidKinds := [.data, .data, .data, .data, .pinned], laidTests := true, laidLooks := .later }
def ReplyRowCardSaid : Prop := Claim7.holds Tryd.pinned (.plain (OpenSpec.ofChange replyRowSpec)) replyRowCard

/-- THE SECOND FORM's CARD OF 'tallboylaw19.ConnAsks'. -/
def connAsksUptoCard : Claim7 := { stood := { row := connAsksUptoRow, standIns := [], harness := (true, "e601d71f02368ae47975dc942e170704d741b53ad20c48473ce9b99c7b8a71f2"), looks := false }, kinds := [], alts := [], laidByText := true, laidKinds := [.data, .data, .data], laidTests := true, laidLooks := .later }
def ConnAsksUptoCardSaid : Prop := Claim7.holds Tryd.pinned (.plain (OpenSpec.upto connAsksSpec)) connAsksUptoCard

/-- THE SECOND FORM's CARD OF 'tallboylaw18.ReplyReads'. -/
def replyReadsUptoCard : Claim7 := { stood := { row := replyReadsUptoRow, standIns := [], harness := (true, "e601d71f02368ae47975dc942e170704d741b53ad20c48473ce9b99c7b8a71f2"), looks := false }, kinds := [], alts := [], laidByText := true, laidKinds := [.data, .data, .data, .data, .pinned], laidTests := true, laidLooks := .later }
def ReplyReadsUptoCardSaid : Prop := Claim7.holds Tryd.pinned (.plain (OpenSpec.upto replyReadsSpec)) replyReadsUptoCard

/-- THE SECOND FORM's CARD OF 'tallboylaw18.ReplyRow'. -/
def replyRowUptoCard : Claim7 := { stood := { row := replyRowUptoRow, standIns := [], harness := (true, "e601d71f02368ae47975dc942e170704d741b53ad20c48473ce9b99c7b8a71f2"), looks := false }, kinds := [], alts := [], laidByText := true, laidKinds := [.data, .data, .data, .data, .pinned], laidTests := true, laidLooks := .later }
def ReplyRowUptoCardSaid : Prop := Claim7.holds Tryd.pinned (.plain (OpenSpec.upto replyRowSpec)) replyRowUptoCard
end Rows
end Go.Proofs.YtjellgggeebmjaaDoor
