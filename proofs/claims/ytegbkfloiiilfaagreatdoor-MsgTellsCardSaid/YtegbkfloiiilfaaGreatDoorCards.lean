/-
  DERIVED. GIVEN WITH THE SEED: THE CARDS: each row of YtegbkfloiiilfaaGreatDoorRows.lean that lists a variable, with what it lists TIED to the program's text (the seventh form; the later family's looks); each row that meets fmt, with fmt's text TOLD by the authors' own Lean function (tested against real Go, not proved from fmt's source: count such statements apart). THE CARD IS WHAT COUNTS. Prove the row's statement (the work); the ties are given (YtegbkfloiiilfaaGreatDoorTie.lean); close each card by the builder's one call (the guide's Derived/Test/ToyasCard.lean, 'card_holds'). Laid BY PROGRAM, IN A SANDBOX (cutbox-door.mjs). By AI agents, Wed Nov 11 2026. No macro, syntax, notation, axiom, sorry.
-/
import Derived.Test.YtegbkfloiiilfaaGreatDoorRows
import GoSem.ClaimSeven
namespace Go.Proofs.YtegbkfloiiilfaaGreatDoor
namespace Rows

/-- THE TIED CARD OF 'bulletinlaw16.MsgReads'. -/
def msgReadsCard : Claim7 := { stood := { row := msgReadsRow, standIns := [], harness := (true, "2bf340b0be822a3a47dd2a79eb0bfc57107a1b5bab7a8049c74a3e7d48b69f97"), looks := false }, kinds := [], alts := [], laidByText := true, laidKinds := [.data, .pinned], laidTests := true, laidLooks := .later }
def MsgReadsCardSaid : Prop := Claim7.holds Tryz.pinned (.plain (OpenSpec.ofChange msgReadsSpec)) msgReadsCard

/-- THE TIED CARD OF 'bulletinlaw16.MsgLong'. -/
def msgLongCard : Claim7 := { stood := { row := msgLongRow, standIns := [], harness := (true, "2bf340b0be822a3a47dd2a79eb0bfc57107a1b5bab7a8049c74a3e7d48b69f97"), looks := false }, kinds := [], alts := [], laidByText := true, laidKinds := [.data, .pinned], laidTests := true, laidLooks := .later }
def MsgLongCardSaid : Prop := Claim7.holds Tryz.pinned (.plain (OpenSpec.ofChange msgLongSpec)) msgLongCard

/-- THE TIED CARD OF 'bulletinlaw16.MsgTells'. -/
def msgTellsCard : Claim7 := { stood := { row := msgTellsRow, standIns := [], harness := (true, "2bf340b0be822a3a47dd2a79eb0bfc57107a1b5bab7a8049c74a3e7d48b69f97"), looks := false }, kinds := [], alts := [], laidByText := true, laidKinds := [.data, .pinned], laidTests := true, laidLooks := .later }
def MsgTellsCardSaid : Prop := Claim7.holds Tryz.pinned (.plain (OpenSpec.ofChange msgTellsSpec)) msgTellsCard

/-- THE TIED CARD OF 'bulletinlaw16.MsgLines'. -/
def msgLinesCard : Claim7 := { stood := { row := msgLinesRow, standIns := [], harness := (true, "2bf340b0be822a3a47dd2a79eb0bfc57107a1b5bab7a8049c74a3e7d48b69f97"), looks := false }, kinds := [], alts := [], laidByText := true, laidKinds := [.data, .pinned], laidTests := true, laidLooks := .later }
def MsgLinesCardSaid : Prop := Claim7.holds Tryz.pinned (.plain (OpenSpec.ofChange msgLinesSpec)) msgLinesCard

/-- THE TIED CARD OF 'bulletinlaw16.MsgWith'. -/
def msgWithCard : Claim7 := { stood := { row := msgWithRow, standIns := [], harness := (true, "2bf340b0be822a3a47dd2a79eb0bfc57107a1b5bab7a8049c74a3e7d48b69f97"), looks := false }, kinds := [], alts := [], laidByText := true, laidKinds := [.data, .pinned], laidTests := true, laidLooks := .later }
def MsgWithCardSaid : Prop := Claim7.holds Tryz.pinned (.plain (OpenSpec.ofChange msgWithSpec)) msgWithCard

/-- THE TIED CARD OF 'bulletinlaw16.MsgBack'. -/
def msgBackCard : Claim7 := { stood := { row := msgBackRow, standIns := [], harness := (true, "2bf340b0be822a3a47dd2a79eb0bfc57107a1b5bab7a8049c74a3e7d48b69f97"), looks := false }, kinds := [], alts := [], laidByText := true, laidKinds := [.data, .pinned], laidTests := true, laidLooks := .later }
def MsgBackCardSaid : Prop := Claim7.holds Tryz.pinned (.plain (OpenSpec.ofChange msgBackSpec)) msgBackCard

/-- THE TIED CARD OF 'bulletinlaw16.MsgJoins'. -/
def msgJoinsCard : Claim7 := { stood := { row := msgJoinsRow, standIns := [], harness := (true, "2bf340b0be822a3a47dd2a79eb0bfc57107a1b5bab7a8049c74a3e7d48b69f97"), looks := false }, kinds := [], alts := [], laidByText := true, laidKinds := [.data, .pinned], laidTests := true, laidLooks := .later }
def MsgJoinsCardSaid : Prop := Claim7.holds Tryz.pinned (.plain (OpenSpec.ofChange msgJoinsSpec)) msgJoinsCard

/-- THE SECOND FORM's CARD OF 'bulletinlaw16.MsgReads'. -/
def msgReadsUptoCard : Claim7 := { stood := { row := msgReadsUptoRow, standIns := [], harness := (true, "2bf340b0be822a3a47dd2a79eb0bfc57107a1b5bab7a8049c74a3e7d48b69f97"), looks := false }, kinds := [], alts := [], laidByText := true, laidKinds := [.data, .pinned], laidTests := true, laidLooks := .later }
def MsgReadsUptoCardSaid : Prop := Claim7.holds Tryz.pinned (.plain (OpenSpec.upto msgReadsSpec)) msgReadsUptoCard

/-- THE SECOND FORM's CARD OF 'bulletinlaw16.MsgLong'. -/
def msgLongUptoCard : Claim7 := { stood := { row := msgLongUptoRow, standIns := [], harness := (true, "2bf340b0be822a3a47dd2a79eb0bfc57107a1b5bab7a8049c74a3e7d48b69f97"), looks := false }, kinds := [], alts := [], laidByText := true, laidKinds := [.data, .pinned], laidTests := true, laidLooks := .later }
def MsgLongUptoCardSaid : Prop := Claim7.holds Tryz.pinned (.plain (OpenSpec.upto msgLongSpec)) msgLongUptoCard

/-- THE SECOND FORM's CARD OF 'bulletinlaw16.MsgTells'. -/
def msgTellsUptoCard : Claim7 := { stood := { row := msgTellsUptoRow, standIns := [], harness := (true, "2bf340b0be822a3a47dd2a79eb0bfc57107a1b5bab7a8049c74a3e7d48b69f97"), looks := false }, kinds := [], alts := [], laidByText := true, laidKinds := [.data, .pinned], laidTests := true, laidLooks := .later }
def MsgTellsUptoCardSaid : Prop := Claim7.holds Tryz.pinned (.plain (OpenSpec.upto msgTellsSpec)) msgTellsUptoCard

/-- THE SECOND FORM's CARD OF 'bulletinlaw16.MsgLines'. -/
def msgLinesUptoCard : Claim7 := { stood := { row := msgLinesUptoRow, standIns := [], harness := (true, "2bf340b0be822a3a47dd2a79eb0bfc57107a1b5bab7a8049c74a3e7d48b69f97"), looks := false }, kinds := [], alts := [], laidByText := true, laidKinds := [.data, .pinned], laidTests := true, laidLooks := .later }
def MsgLinesUptoCardSaid : Prop := Claim7.holds Tryz.pinned (.plain (OpenSpec.upto msgLinesSpec)) msgLinesUptoCard

/-- THE SECOND FORM's CARD OF 'bulletinlaw16.MsgWith'. -/
def msgWithUptoCard : Claim7 := { stood := { row := msgWithUptoRow, standIns := [], harness := (true, "2bf340b0be822a3a47dd2a79eb0bfc57107a1b5bab7a8049c74a3e7d48b69f97"), looks := false }, kinds := [], alts := [], laidByText := true, laidKinds := [.data, .pinned], laidTests := true, laidLooks := .later }
def MsgWithUptoCardSaid : Prop := Claim7.holds Tryz.pinned (.plain (OpenSpec.upto msgWithSpec)) msgWithUptoCard

/-- THE SECOND FORM's CARD OF 'bulletinlaw16.MsgBack'. -/
def msgBackUptoCard : Claim7 := { stood := { row := msgBackUptoRow, standIns := [], harness := (true, "2bf340b0be822a3a47dd2a79eb0bfc57107a1b5bab7a8049c74a3e7d48b69f97"), looks := false }, kinds := [], alts := [], laidByText := true, laidKinds := [.data, .pinned], laidTests := true, laidLooks := .later }
def MsgBackUptoCardSaid : Prop := Claim7.holds Tryz.pinned (.plain (OpenSpec.upto msgBackSpec)) msgBackUptoCard

/-- THE SECOND FORM's CARD OF 'bulletinlaw16.MsgJoins'. -/
def msgJoinsUptoCard : Claim7 := { stood := { row := msgJoinsUptoRow, standIns := [], harness := (true, "2bf340b0be822a3a47dd2a79eb0bfc57107a1b5bab7a8049c74a3e7d48b69f97"), looks := false }, kinds := [], alts := [], laidByText := true, laidKinds := [.data, .pinned], laidTests := true, laidLooks := .later }
def MsgJoinsUptoCardSaid : Prop := Claim7.holds Tryz.pinned (.plain (OpenSpec.upto msgJoinsSpec)) msgJoinsUptoCard
end Rows
end Go.Proofs.YtegbkfloiiilfaaGreatDoor
