/-
  DERIVED. GIVEN WITH THE SEED: THE CARDS: each row of YtmckhkkbghihaaaDoorRows.lean that lists a variable, with what it lists TIED to the program's text (the seventh form; the later family's looks); each row that meets fmt, with fmt's text TOLD by the authors' own Lean function (tested against real Go, not proved from fmt's source: count such statements apart). THE CARD IS WHAT COUNTS. Prove the row's statement (the work); the ties are given (YtmckhkkbghihaaaDoorTie.lean); close each card by the builder's one call (the guide's Derived/Test/ToyasCard.lean, 'card_holds'). Laid BY PROGRAM, IN A SANDBOX (cutbox-door.mjs). By AI agents, Wed Nov 11 2026. No macro, syntax, notation, axiom, sorry.
-/
import Derived.Test.YtmckhkkbghihaaaDoorRows
import GoSem.ClaimSeven
namespace Go.Proofs.YtmckhkkbghihaaaDoor
namespace Rows

/-- THE TIED CARD OF 'lexiconlaw13.LexerShape'. -/
def lexerShapeCard : Claim7 := { stood := { row := lexerShapeRow, standIns := [], harness := (true, "b01dda78100b92518df4c4b2b2701cf9caf2dd60de11ff3431e352e61325f06b"), looks := true }, kinds := [], alts := [], laidByText := true, laidKinds := [.data, .data, .data, .data, .sentinel, .sentinel, .pinned], laidTests := true, laidLooks := .later }
def LexerShapeCardSaid : Prop := Claim7.holds Tryd.pinned (.plain (OpenSpec.ofChange lexerShapeSpec)) lexerShapeCard

/-- THE TIED CARD OF 'lexiconlaw13.LexerLays'. -/
def lexerLaysCard : Claim7 := { stood := { row := lexerLaysRow, standIns := [], harness := (true, "b01dda78100b92518df4c4b2b2701cf9caf2dd60de11ff3431e352e61325f06b"), looks := true }, kinds := [], alts := [], laidByText := true, laidKinds := [.data, .data, .data, .data, .sentinel, .sentinel, .pinned], laidTests := true, laidLooks := .later }
def LexerLaysCardSaid : Prop := Claim7.holds Tryd.pinned (.plain (OpenSpec.ofChange lexerLaysSpec)) lexerLaysCard

/-- THE TIED CARD OF 'lexiconlaw13.LexerBlocks'. -/
def lexerBlocksCard : Claim7 := { stood := { row := lexerBlocksRow, standIns := [], harness := (true, "b01dda78100b92518df4c4b2b2701cf9caf2dd60de11ff3431e352e61325f06b"), looks := true }, kinds := [], alts := [], laidByText := true, laidKinds := [.data, .data, .data, .data, .sentinel, .sentinel, .pinned], laidTests := true, laidLooks := .later }
def LexerBlocksCardSaid : Prop := Claim7.holds Tryd.pinned (.plain (OpenSpec.ofChange lexerBlocksSpec)) lexerBlocksCard

/-- THE SECOND FORM's CARD OF 'lexiconlaw13.LexerShape'. -/
def lexerShapeUptoCard : Claim7 := { stood := { row := lexerShapeUptoRow, standIns := [], harness := (true, "b01dda78100b92518df4c4b2b2701cf9caf2dd60de11ff3431e352e61325f06b"), looks := true }, kinds := [], alts := [], laidByText := true, laidKinds := [.data, .data, .data, .data, .sentinel, .sentinel, .pinned], laidTests := true, laidLooks := .later }
def LexerShapeUptoCardSaid : Prop := Claim7.holds Tryd.pinned (.plain (OpenSpec.upto lexerShapeSpec)) lexerShapeUptoCard

/-- THE SECOND FORM's CARD OF 'lexiconlaw13.LexerLays'. -/
def lexerLaysUptoCard : Claim7 := { stood := { row := lexerLaysUptoRow, standIns := [], harness := (true, "b01dda78100b92518df4c4b2b2701cf9caf2dd60de11ff3431e352e61325f06b"), looks := true }, kinds := [], alts := [], laidByText := true, laidKinds := [.data, .data, .data, .data, .sentinel, .sentinel, .pinned], laidTests := true, laidLooks := .later }
def LexerLaysUptoCardSaid : Prop := Claim7.holds Tryd.pinned (.plain (OpenSpec.upto lexerLaysSpec)) lexerLaysUptoCard

/-- THE SECOND FORM's CARD OF 'lexiconlaw13.LexerBlocks'. -/
def lexerBlocksUptoCard : Claim7 := { stood := { row := lexerBlocksUptoRow, standIns := [], harness := (true, "b01dda78100b92518df4c4b2b2701cf9caf2dd60de11ff3431e352e61325f06b"), looks := true }, kinds := [], alts := [], laidByText := true, laidKinds := [.data, .data, .data, .data, .sentinel, .sentinel, .pinned], laidTests := true, laidLooks := .later }
def LexerBlocksUptoCardSaid : Prop := Claim7.holds Tryd.pinned (.plain (OpenSpec.upto lexerBlocksSpec)) lexerBlocksUptoCard
end Rows
end Go.Proofs.YtmckhkkbghihaaaDoor
