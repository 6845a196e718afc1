/-
  DERIVED. GIVEN WITH THE SEED: THE CARDS: each row of YtpjbhcampfjgdaaDoorRows.lean that lists a variable, with what it lists TIED to the program's text (the seventh form; the later family's looks); each row that meets fmt, with fmt's text TOLD by the authors' own Lean function (tested against real Go, not proved from fmt's source: count such statements apart). THE CARD IS WHAT COUNTS. Prove the row's statement (the work); the ties are given (YtpjbhcampfjgdaaDoorTie.lean); close each card by the builder's one call (the guide's Derived/Test/ToyasCard.lean, 'card_holds'). Laid BY PROGRAM, IN A SANDBOX (cutbox-door.mjs). By AI agents, Wed Nov 11 2026. No macro, syntax, notation, axiom, sorry.
-/
import Derived.Test.YtpjbhcampfjgdaaDoorRows
import GoSem.ClaimSeven
namespace Go.Proofs.YtpjbhcampfjgdaaDoor
namespace Rows

/-- THE TIED CARD OF 'bulletinlaw01.NetsTakes'. -/
def netsTakesCard : Claim7 := { stood := { row := netsTakesRow, standIns := [], harness := (true, "2634f3a625e39b0b19aa0582390636596eb6b21f0a3475d2a591dfbbb09d5e9d"), looks := false }, kinds := [], alts := [], laidByText := true, laidKinds := [.data, .data, .data], laidTests := true, laidLooks := .later }
def NetsTakesCardSaid : Prop := Claim7.holds Tryd.pinned (.plain (OpenSpec.ofChange netsTakesSpec)) netsTakesCard

/-- THE TIED CARD OF 'bulletinlaw01.NetsRows'. -/
def netsRowsCard : Claim7 := { stood := { row := netsRowsRow, standIns := [], harness := (true, "2634f3a625e39b0b19aa0582390636596eb6b21f0a3475d2a591dfbbb09d5e9d"), looks := false }, kinds := [], alts := [], laidByText := true, laidKinds := [.data, .data, .data], laidTests := true, laidLooks := .later }
def NetsRowsCardSaid : Prop := Claim7.holds Tryd.pinned (.plain (OpenSpec.ofChange netsRowsSpec)) netsRowsCard

/-- THE TIED CARD OF 'bulletinlaw01.NetsBack'. -/
def netsBackCard : Claim7 := { stood := { row := netsBackRow, standIns := [], harness := (true, "2634f3a625e39b0b19aa0582390636596eb6b21f0a3475d2a591dfbbb09d5e9d"), looks := false }, kinds := [], alts := [], laidByText := true, laidKinds := [.data, .data, .data], laidTests := true, laidLooks := .later }
def NetsBackCardSaid : Prop := Claim7.holds Tryd.pinned (.plain (OpenSpec.ofChange netsBackSpec)) netsBackCard

/-- THE TIED CARD OF 'bulletinlaw01.NetsApart'. -/
def netsApartCard : Claim7 := { stood := { row := netsApartRow, standIns := [], harness := (true, "2634f3a625e39b0b19aa0582390636596eb6b21f0a3475d2a591dfbbb09d5e9d"), looks := false }, kinds := [], alts := [], laidByText := true, laidKinds := [.data, .data, .data], laidTests := true, laidLooks := .later }
def NetsApartCardSaid : Prop := Claim7.holds Tryd.pinned (.plain (OpenSpec.ofChange netsApartSpec)) netsApartCard

/-- THE SECOND FORM's CARD OF 'bulletinlaw01.NetsTakes'. -/
def netsTakesUptoCard : Claim7 := { stood := { row := netsTakesUptoRow, standIns := [], harness := (true, "2634f3a625e39b0b19aa0582390636596eb6b21f0a3475d2a591dfbbb09d5e9d"), looks := false }, kinds := [], alts := [], laidByText := true, laidKinds := [.data, .data, .data], laidTests := true, laidLooks := .later }
def NetsTakesUptoCardSaid : Prop := Claim7.holds Tryd.pinned (.plain (OpenSpec.upto netsTakesSpec)) netsTakesUptoCard

/-- THE SECOND FORM's CARD OF 'bulletinlaw01.NetsRows'. -/
def netsRowsUptoCard : Claim7 := { stood := { row := netsRowsUptoRow, standIns := [], harness := (true, "2634f3a625e39b0b19aa0582390636596eb6b21f0a3475d2a591dfbbb09d5e9d"), looks := false }, kinds := [], alts := [], laidByText := true, laidKinds := [.data, .data, .data], laidTests := true, laidLooks := .later }
def NetsRowsUptoCardSaid : Prop := Claim7.holds Tryd.pinned (.plain (OpenSpec.upto netsRowsSpec)) netsRowsUptoCard

/-- THE SECOND FORM's CARD OF 'bulletinlaw01.NetsBack'. -/
def netsBackUptoCard : Claim7 := { stood := { row := netsBackUptoRow, standIns := [], harness := (true, "2634f3a625e39b0b19aa0582390636596eb6b21f0a3475d2a591dfbbb09d5e9d"), looks := false }, kinds := [], alts := [], laidByText := true, laidKinds := [.data, .data, .data], laidTests := true, laidLooks := .later }
def NetsBackUptoCardSaid : Prop := Claim7.holds Tryd.pinned (.plain (OpenSpec.upto netsBackSpec)) netsBackUptoCard

/-- THE SECOND FORM's CARD OF 'bulletinlaw01.NetsApart'. -/
def netsApartUptoCard : Claim7 := { stood := { row := netsApartUptoRow, standIns := [], harness := (true, "2634f3a625e39b0b19aa0582390636596eb6b21f0a3475d2a591dfbbb09d5e9d"), looks := false }, kinds := [], alts := [], laidByText := true, laidKinds := [.data, .data, .data], laidTests := true, laidLooks := .later }
def NetsApartUptoCardSaid : Prop := Claim7.holds Tryd.pinned (.plain (OpenSpec.upto netsApartSpec)) netsApartUptoCard
end Rows
end Go.Proofs.YtpjbhcampfjgdaaDoor
