/-
  DERIVED. GIVEN WITH THE SEED: THE CARDS: each row of YtobnckbpgckgjaaDoorRows.lean that lists a variable, with what it lists TIED to the program's text (the seventh form; the later family's looks); each row that meets fmt, with fmt's text TOLD by the authors' own Lean function (tested against real Go, not proved from fmt's source: count such statements apart). THE CARD IS WHAT COUNTS. Prove the row's statement (the work); the ties are given (YtobnckbpgckgjaaDoorTie.lean); close each card by the builder's one call (the guide's Derived/Test/ToyasCard.lean, 'card_holds'). Laid BY PROGRAM, IN A SANDBOX (cutbox-door.mjs). By AI agents, Wed Nov 11 2026. No macro, syntax, notation, axiom, sorry.
-/
import Derived.Test.YtobnckbpgckgjaaDoorRows
import GoSem.ClaimSeven
namespace Go.Proofs.YtobnckbpgckgjaaDoor
namespace Rows

/-- THE TIED CARD OF 'bulletinlaw17.QpWrites'. -/
def qpWritesCard : Claim7 := { stood := { row := qpWritesRow, standIns := [], harness := (true, "b048ba7f0c2d320600a5a5da23989fff44d40ccb5ca9faddc041fac75334ac4e"), looks := false }, kinds := [], alts := [], laidByText := true, laidKinds := [.data, .pinned], laidTests := true, laidLooks := .later }
def QpWritesCardSaid : Prop := Claim7.holds Tryd.pinned (.plain (OpenSpec.ofChange qpWritesSpec)) qpWritesCard

/-- THE TIED CARD OF 'bulletinlaw17.QpReads'. -/
def qpReadsCard : Claim7 := { stood := { row := qpReadsRow, standIns := [], harness := (true, "b048ba7f0c2d320600a5a5da23989fff44d40ccb5ca9faddc041fac75334ac4e"), looks := false }, kinds := [], alts := [], laidByText := true, laidKinds := [.data, .pinned], laidTests := true, laidLooks := .later }
def QpReadsCardSaid : Prop := Claim7.holds Tryd.pinned (.plain (OpenSpec.ofChange qpReadsSpec)) qpReadsCard

/-- THE TIED CARD OF 'bulletinlaw17.QpBack'. -/
def qpBackCard : Claim7 := { stood := { row := qpBackRow, standIns := [], harness := (true, "b048ba7f0c2d320600a5a5da23989fff44d40ccb5ca9faddc041fac75334ac4e"), looks := false }, kinds := [], alts := [], laidByText := true, laidKinds := [.data, .pinned], laidTests := true, laidLooks := .later }
def QpBackCardSaid : Prop := Claim7.holds Tryd.pinned (.plain (OpenSpec.ofChange qpBackSpec)) qpBackCard

/-- THE TIED CARD OF 'bulletinlaw17.QpWidth'. -/
def qpWidthCard : Claim7 := { stood := { row := qpWidthRow, standIns := [], harness := (true, "b048ba7f0c2d320600a5a5da23989fff44d40ccb5ca9faddc041fac75334ac4e"), looks := false }, kinds := [], alts := [], laidByText := true, laidKinds := [.data, .pinned], laidTests := true, laidLooks := .later }
def QpWidthCardSaid : Prop := Claim7.holds Tryd.pinned (.plain (OpenSpec.ofChange qpWidthSpec)) qpWidthCard

/-- THE TIED CARD OF 'bulletinlaw17.QpLines'. -/
def qpLinesCard : Claim7 := { stood := { row := qpLinesRow, standIns := [], harness := (true, "b048ba7f0c2d320600a5a5da23989fff44d40ccb5ca9faddc041fac75334ac4e"), looks := false }, kinds := [], alts := [], laidByText := true, laidKinds := [.data, .pinned], laidTests := true, laidLooks := .later }
def QpLinesCardSaid : Prop := Claim7.holds Tryd.pinned (.plain (OpenSpec.ofChange qpLinesSpec)) qpLinesCard

/-- THE SECOND FORM's CARD OF 'bulletinlaw17.QpWrites'. -/
def qpWritesUptoCard : Claim7 := { stood := { row := qpWritesUptoRow, standIns := [], harness := (true, "b048ba7f0c2d320600a5a5da23989fff44d40ccb5ca9faddc041fac75334ac4e"), looks := false }, kinds := [], alts := [], laidByText := true, laidKinds := [.data, .pinned], laidTests := true, laidLooks := .later }
def QpWritesUptoCardSaid : Prop := Claim7.holds Tryd.pinned (.plain (OpenSpec.upto qpWritesSpec)) qpWritesUptoCard

/-- THE SECOND FORM's CARD OF 'bulletinlaw17.QpReads'. -/
def qpReadsUptoCard : Claim7 := { stood := { row := qpReadsUptoRow, standIns := [], harness := (true, "b048ba7f0c2d320600a5a5da23989fff44d40ccb5ca9faddc041fac75334ac4e"), looks := false }, kinds := [], alts := [], laidByText := true, laidKinds := [.data, .pinned], laidTests := true, laidLooks := .later }
def QpReadsUptoCardSaid : Prop := Claim7.holds Tryd.pinned (.plain (OpenSpec.upto qpReadsSpec)) qpReadsUptoCard

/-- THE SECOND FORM's CARD OF 'bulletinlaw17.QpBack'. -/
def qpBackUptoCard : Claim7 := { stood := { row := qpBackUptoRow, standIns := [], harness := (true, "b048ba7f0c2d320600a5a5da23989fff44d40ccb5ca9faddc041fac75334ac4e"), looks := false }, kinds := [], alts := [], laidByText := true, laidKinds := [.data, .pinned], laidTests := true, laidLooks := .later }
def QpBackUptoCardSaid : Prop := Claim7.holds Tryd.pinned (.plain (OpenSpec.upto qpBackSpec)) qpBackUptoCard

/-- THE SECOND FORM's CARD OF 'bulletinlaw17.QpWidth'. -/
def qpWidthUptoCard : Claim7 := { stood := { row := qpWidthUptoRow, standIns := [], harness := (true, "b048ba7f0c2d320600a5a5da23989fff44d40ccb5ca9faddc041fac75334ac4e"), looks := false }, kinds := [], alts := [], laidByText := true, laidKinds := [.data, .pinned], laidTests := true, laidLooks := .later }
def QpWidthUptoCardSaid : Prop := Claim7.holds Tryd.pinned (.plain (OpenSpec.upto qpWidthSpec)) qpWidthUptoCard

/-- THE SECOND FORM's CARD OF 'bulletinlaw17.QpLines'. -/
def qpLinesUptoCard : Claim7 := { stood := { row := qpLinesUptoRow, standIns := [], harness := (true, "b048ba7f0c2d320600a5a5da23989fff44d40ccb5ca9faddc041fac75334ac4e"), looks := false }, kinds := [], alts := [], laidByText := true, laidKinds := [.data, .pinned], laidTests := true, laidLooks := .later }
def QpLinesUptoCardSaid : Prop := Claim7.holds Tryd.pinned (.plain (OpenSpec.upto qpLinesSpec)) qpLinesUptoCard
end Rows
end Go.Proofs.YtobnckbpgckgjaaDoor
