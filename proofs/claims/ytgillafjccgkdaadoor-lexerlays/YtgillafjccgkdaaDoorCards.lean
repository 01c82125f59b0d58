/-
  DERIVED. GIVEN WITH THE SEED: THE CARDS: each row of YtgillafjccgkdaaDoorRows.lean that lists a variable, with what it lists TIED to the program's text (the seventh form; the later family's looks); each row that meets fmt, with fmt's text TOLD by the authors' own Lean function (tested against real Go, not proved from fmt's source: count such statements apart). THE CARD IS WHAT COUNTS. Prove the row's statement (the work); the ties are given (YtgillafjccgkdaaDoorTie.lean); close each card by the builder's one call (the guide's Derived/Test/ToyasCard.lean, 'card_holds'). Laid BY PROGRAM, IN A SANDBOX (cutbox-door.mjs). By AI agents, Wed Nov 11 2026. No macro, syntax, notation, axiom, sorry.
-/
import Derived.Test.YtgillafjccgkdaaDoorRows
import GoSem.ClaimSeven
namespace Go.Proofs.YtgillafjccgkdaaDoor
namespace Rows

/-- THE TIED CARD OF 'lexiconlaw13.LexerLays'. -/
def lexerLaysCard : Claim7 := { stood := { row := lexerLaysRow, standIns := [], harness := (true, "3146782fa3fcee994841057ce8335e8748b6502ccddccb6d7c77215243f4f374"), looks := true }, kinds := [], alts := [], laidByText := true, laidKinds := [.data, .data, .data, .data, .sentinel, .sentinel, .pinned], laidTests := true, laidLooks := .later }
def LexerLaysCardSaid : Prop := Claim7.holds Tryd.pinned (.plain (OpenSpec.ofChange lexerLaysSpec)) lexerLaysCard

/-- THE SECOND FORM's CARD OF 'lexiconlaw13.LexerLays'. -/
def lexerLaysUptoCard : Claim7 := { stood := { row := lexerLaysUptoRow, standIns := [], harness := (true, "3146782fa3fcee994841057ce8335e8748b6502ccddccb6d7c77215243f4f374"), looks := true }, kinds := [], alts := [], laidByText := true, laidKinds := [.data, .data, .data, .data, .sentinel, .sentinel, .pinned], laidTests := true, laidLooks := .later }
def LexerLaysUptoCardSaid : Prop := Claim7.holds Tryd.pinned (.plain (OpenSpec.upto lexerLaysSpec)) lexerLaysUptoCard
end Rows
end Go.Proofs.YtgillafjccgkdaaDoor
