/-
  DERIVED. GIVEN WITH THE SEED: THE CARDS: each row of YtbnmnmbfdfgohaaDoorRows.lean that lists a variable, with what it lists TIED to the program's text (the seventh form; the later family's looks); each row that meets fmt, with fmt's text TOLD by the authors' own Lean function (tested against real Go, not proved from fmt's source: count such statements apart). THE CARD IS WHAT COUNTS. Prove the row's statement (the work); the ties are given (YtbnmnmbfdfgohaaDoorTie.lean); close each card by the builder's one call (the guide's Derived/Test/ToyasCard.lean, 'card_holds'). Laid BY PROGRAM, IN A SANDBOX (cutbox-door.mjs). By AI agents, Wed Nov 11 2026. No macro, syntax, notation, axiom, sorry.
-/
import Derived.Test.YtbnmnmbfdfgohaaDoorRows
import GoSem.ClaimSeven
namespace Go.Proofs.YtbnmnmbfdfgohaaDoor
namespace Rows

/-- THE TIED CARD OF 'lexiconlaw12.SweepMarks'. -/
def sweepMarksCard : Claim7 := { stood := { row := sweepMarksRow, standIns := [], harness := (true, "1feb186109bae8bd35c3b6a6e87a3f476aa5d50119fb635ef7262eccd770ae61"), looks := true }, kinds := [], alts := [], laidByText := true, laidKinds := [.data], laidTests := true, laidLooks := .later }
def SweepMarksCardSaid : Prop := Claim7.holds Tryd.pinned (.plain (OpenSpec.ofChange sweepMarksSpec)) sweepMarksCard

/-- THE TIED CARD OF 'lexiconlaw12.SweepFrees'. -/
def sweepFreesCard : Claim7 := { stood := { row := sweepFreesRow, standIns := [], harness := (true, "1feb186109bae8bd35c3b6a6e87a3f476aa5d50119fb635ef7262eccd770ae61"), looks := true }, kinds := [], alts := [], laidByText := true, laidKinds := [.data], laidTests := true, laidLooks := .later }
def SweepFreesCardSaid : Prop := Claim7.holds Tryd.pinned (.plain (OpenSpec.ofChange sweepFreesSpec)) sweepFreesCard

/-- THE TIED CARD OF 'lexiconlaw12.SweepCloses'. -/
def sweepClosesCard : Claim7 := { stood := { row := sweepClosesRow, standIns := [], harness := (true, "1feb186109bae8bd35c3b6a6e87a3f476aa5d50119fb635ef7262eccd770ae61"), looks := true }, kinds := [], alts := [], laidByText := true, laidKinds := [.data], laidTests := true, laidLooks := .later }
def SweepClosesCardSaid : Prop := Claim7.holds Tryd.pinned (.plain (OpenSpec.ofChange sweepClosesSpec)) sweepClosesCard

/-- THE TIED CARD OF 'lexiconlaw12.SweepPlans'. -/
def sweepPlansCard : Claim7 := { stood := { row := sweepPlansRow, standIns := [], harness := (true, "1feb186109bae8bd35c3b6a6e87a3f476aa5d50119fb635ef7262eccd770ae61"), looks := true }, kinds := [], alts := [], laidByText := true, laidKinds := [.data], laidTests := true, laidLooks := .later }
def SweepPlansCardSaid : Prop := Claim7.holds Tryd.pinned (.plain (OpenSpec.ofChange sweepPlansSpec)) sweepPlansCard

/-- THE TIED CARD OF 'lexiconlaw12.SweepNothing'. -/
def sweepNothingCard : Claim7 := { stood := { row := sweepNothingRow, standIns := [], harness := (true, "1feb186109bae8bd35c3b6a6e87a3f476aa5d50119fb635ef7262eccd770ae61"), looks := true }, kinds := [], alts := [], laidByText := true, laidKinds := [.data], laidTests := true, laidLooks := .later }
def SweepNothingCardSaid : Prop := Claim7.holds Tryd.pinned (.plain (OpenSpec.ofChange sweepNothingSpec)) sweepNothingCard

/-- THE SECOND FORM's CARD OF 'lexiconlaw12.SweepMarks'. -/
def sweepMarksUptoCard : Claim7 := { stood := { row := sweepMarksUptoRow, standIns := [], harness := (true, "1feb186109bae8bd35c3b6a6e87a3f476aa5d50119fb635ef7262eccd770ae61"), looks := true }, kinds := [], alts := [], laidByText := true, laidKinds := [.data], laidTests := true, laidLooks := .later }
def SweepMarksUptoCardSaid : Prop := Claim7.holds Tryd.pinned (.plain (OpenSpec.upto sweepMarksSpec)) sweepMarksUptoCard

/-- THE SECOND FORM's CARD OF 'lexiconlaw12.SweepFrees'. -/
def sweepFreesUptoCard : Claim7 := { stood := { row := sweepFreesUptoRow, standIns := [], harness := (true, "1feb186109bae8bd35c3b6a6e87a3f476aa5d50119fb635ef7262eccd770ae61"), looks := true }, kinds := [], alts := [], laidByText := true, laidKinds := [.data], laidTests := true, laidLooks := .later }
def SweepFreesUptoCardSaid : Prop := Claim7.holds Tryd.pinned (.plain (OpenSpec.upto sweepFreesSpec)) sweepFreesUptoCard

/-- THE SECOND FORM's CARD OF 'lexiconlaw12.SweepCloses'. -/
def sweepClosesUptoCard : Claim7 := { stood := { row := sweepClosesUptoRow, standIns := [], harness := (true, "1feb186109bae8bd35c3b6a6e87a3f476aa5d50119fb635ef7262eccd770ae61"), looks := true }, kinds := [], alts := [], laidByText := true, laidKinds := [.data], laidTests := true, laidLooks := .later }
def SweepClosesUptoCardSaid : Prop := Claim7.holds Tryd.pinned (.plain (OpenSpec.upto sweepClosesSpec)) sweepClosesUptoCard

/-- THE SECOND FORM's CARD OF 'lexiconlaw12.SweepPlans'. -/
def sweepPlansUptoCard : Claim7 := { stood := { row := sweepPlansUptoRow, standIns := [], harness := (true, "1feb186109bae8bd35c3b6a6e87a3f476aa5d50119fb635ef7262eccd770ae61"), looks := true }, kinds := [], alts := [], laidByText := true, laidKinds := [.data], laidTests := true, laidLooks := .later }
def SweepPlansUptoCardSaid : Prop := Claim7.holds Tryd.pinned (.plain (OpenSpec.upto sweepPlansSpec)) sweepPlansUptoCard

/-- THE SECOND FORM's CARD OF 'lexiconlaw12.SweepNothing'. -/
def sweepNothingUptoCard : Claim7 := { stood := { row := sweepNothingUptoRow, standIns := [], harness := (true, "1feb186109bae8bd35c3b6a6e87a3f476aa5d50119fb635ef7262eccd770ae61"), looks := true }, kinds := [], alts := [], laidByText := true, laidKinds := [.data], laidTests := true, laidLooks := .later }
def SweepNothingUptoCardSaid : Prop := Claim7.holds Tryd.pinned (.plain (OpenSpec.upto sweepNothingSpec)) sweepNothingUptoCard
end Rows
end Go.Proofs.YtbnmnmbfdfgohaaDoor
