/-
  DERIVED. GIVEN WITH THE SEED: THE CARDS: each row of YtjnadahognmkhaaDoorRows.lean that lists a variable, with what it lists TIED to the program's text (the seventh form; the later family's looks); each row that meets fmt, with fmt's text TOLD by the authors' own Lean function (tested against real Go, not proved from fmt's source: count such statements apart). THE CARD IS WHAT COUNTS. Prove the row's statement (the work); the ties are given (YtjnadahognmkhaaDoorTie.lean); close each card by the builder's one call (the guide's Derived/Test/ToyasCard.lean, 'card_holds'). Laid BY PROGRAM, IN A SANDBOX (cutbox-door.mjs). By AI agents, Wed Nov 11 2026. No macro, syntax, notation, axiom, sorry.
-/
import Derived.Test.YtjnadahognmkhaaDoorRows
import GoSem.ClaimSeven
namespace Go.Proofs.YtjnadahognmkhaaDoor
namespace Rows

/-- THE TIED CARD OF 'bulletinlaw13.AddrReads'. -/
def addrReadsCard : Claim7 := { stood := { row := addrReadsRow, standIns := [], harness := (true, "cf0f3d4e3e39709a16f2450528b2cca21dc002442fad6e01ca2eb1a2e9d06b8e"), looks := false }, kinds := [], alts := [], laidByText := true, laidKinds := [.data, .pinned], laidTests := true, laidLooks := .later }
def AddrReadsCardSaid : Prop := Claim7.holds Tryd.pinned (.plain (OpenSpec.ofChange addrReadsSpec)) addrReadsCard

/-- THE TIED CARD OF 'bulletinlaw13.AddrWrites'. -/
def addrWritesCard : Claim7 := { stood := { row := addrWritesRow, standIns := [], harness := (true, "cf0f3d4e3e39709a16f2450528b2cca21dc002442fad6e01ca2eb1a2e9d06b8e"), looks := false }, kinds := [], alts := [], laidByText := true, laidKinds := [.data, .pinned], laidTests := true, laidLooks := .later }
def AddrWritesCardSaid : Prop := Claim7.holds Tryd.pinned (.plain (OpenSpec.ofChange addrWritesSpec)) addrWritesCard

/-- THE TIED CARD OF 'bulletinlaw13.AddrBack'. -/
def addrBackCard : Claim7 := { stood := { row := addrBackRow, standIns := [], harness := (true, "cf0f3d4e3e39709a16f2450528b2cca21dc002442fad6e01ca2eb1a2e9d06b8e"), looks := false }, kinds := [], alts := [], laidByText := true, laidKinds := [.data, .pinned], laidTests := true, laidLooks := .later }
def AddrBackCardSaid : Prop := Claim7.holds Tryd.pinned (.plain (OpenSpec.ofChange addrBackSpec)) addrBackCard

/-- THE TIED CARD OF 'bulletinlaw13.AddrRight'. -/
def addrRightCard : Claim7 := { stood := { row := addrRightRow, standIns := [], harness := (true, "cf0f3d4e3e39709a16f2450528b2cca21dc002442fad6e01ca2eb1a2e9d06b8e"), looks := false }, kinds := [], alts := [], laidByText := true, laidKinds := [.data, .pinned], laidTests := true, laidLooks := .later }
def AddrRightCardSaid : Prop := Claim7.holds Tryd.pinned (.plain (OpenSpec.ofChange addrRightSpec)) addrRightCard

/-- THE TIED CARD OF 'bulletinlaw13.AddrKeys'. -/
def addrKeysCard : Claim7 := { stood := { row := addrKeysRow, standIns := [], harness := (true, "cf0f3d4e3e39709a16f2450528b2cca21dc002442fad6e01ca2eb1a2e9d06b8e"), looks := false }, kinds := [], alts := [], laidByText := true, laidKinds := [.data, .pinned], laidTests := true, laidLooks := .later }
def AddrKeysCardSaid : Prop := Claim7.holds Tryd.pinned (.plain (OpenSpec.ofChange addrKeysSpec)) addrKeysCard

/-- THE SECOND FORM's CARD OF 'bulletinlaw13.AddrReads'. -/
def addrReadsUptoCard : Claim7 := { stood := { row := addrReadsUptoRow, standIns := [], harness := (true, "cf0f3d4e3e39709a16f2450528b2cca21dc002442fad6e01ca2eb1a2e9d06b8e"), looks := false }, kinds := [], alts := [], laidByText := true, laidKinds := [.data, .pinned], laidTests := true, laidLooks := .later }
def AddrReadsUptoCardSaid : Prop := Claim7.holds Tryd.pinned (.plain (OpenSpec.upto addrReadsSpec)) addrReadsUptoCard

/-- THE SECOND FORM's CARD OF 'bulletinlaw13.AddrWrites'. -/
def addrWritesUptoCard : Claim7 := { stood := { row := addrWritesUptoRow, standIns := [], harness := (true, "cf0f3d4e3e39709a16f2450528b2cca21dc002442fad6e01ca2eb1a2e9d06b8e"), looks := false }, kinds := [], alts := [], laidByText := true, laidKinds := [.data, .pinned], laidTests := true, laidLooks := .later }
def AddrWritesUptoCardSaid : Prop := Claim7.holds Tryd.pinned (.plain (OpenSpec.upto addrWritesSpec)) addrWritesUptoCard

/-- THE SECOND FORM's CARD OF 'bulletinlaw13.AddrBack'. -/
def addrBackUptoCard : Claim7 := { stood := { row := addrBackUptoRow, standIns := [], harness := (true, "cf0f3d4e3e39709a16f2450528b2cca21dc002442fad6e01ca2eb1a2e9d06b8e"), looks := false }, kinds := [], alts := [], laidByText := true, laidKinds := [.data, .pinned], laidTests := true, laidLooks := .later }
def AddrBackUptoCardSaid : Prop := Claim7.holds Tryd.pinned (.plain (OpenSpec.upto addrBackSpec)) addrBackUptoCard

/-- THE SECOND FORM's CARD OF 'bulletinlaw13.AddrRight'. -/
def addrRightUptoCard : Claim7 := { stood := { row := addrRightUptoRow, standIns := [], harness := (true, "cf0f3d4e3e39709a16f2450528b2cca21dc002442fad6e01ca2eb1a2e9d06b8e"), looks := false }, kinds := [], alts := [], laidByText := true, laidKinds := [.data, .pinned], laidTests := true, laidLooks := .later }
def AddrRightUptoCardSaid : Prop := Claim7.holds Tryd.pinned (.plain (OpenSpec.upto addrRightSpec)) addrRightUptoCard

/-- THE SECOND FORM's CARD OF 'bulletinlaw13.AddrKeys'. -/
def addrKeysUptoCard : Claim7 := { stood := { row := addrKeysUptoRow, standIns := [], harness := (true, "cf0f3d4e3e39709a16f2450528b2cca21dc002442fad6e01ca2eb1a2e9d06b8e"), looks := false }, kinds := [], alts := [], laidByText := true, laidKinds := [.data, .pinned], laidTests := true, laidLooks := .later }
def AddrKeysUptoCardSaid : Prop := Claim7.holds Tryd.pinned (.plain (OpenSpec.upto addrKeysSpec)) addrKeysUptoCard
end Rows
end Go.Proofs.YtjnadahognmkhaaDoor
