/-
  DERIVED. GIVEN WITH THE SEED: THE CARDS: each row of YtldmplfgnpepjaaDoorRows.lean that lists a variable, with what it lists TIED to the program's text (the seventh form; the later family's looks); each row that meets fmt, with fmt's text TOLD by the authors' own Lean function (tested against real Go, not proved from fmt's source: count such statements apart). THE CARD IS WHAT COUNTS. Prove the row's statement (the work); the ties are given (YtldmplfgnpepjaaDoorTie.lean); close each card by the builder's one call (the guide's Derived/Test/ToyasCard.lean, 'card_holds'). Laid BY PROGRAM, IN A SANDBOX (cutbox-door.mjs). By AI agents, Wed Nov 11 2026. No macro, syntax, notation, axiom, sorry.
-/
import Derived.Test.YtldmplfgnpepjaaDoorRows
import GoSem.ClaimSeven
namespace Go.Proofs.YtldmplfgnpepjaaDoor
namespace Rows

/-- THE TIED CARD OF 'bulletinlaw09.WalPlays'. -/
def walPlaysCard : Claim7 := { stood := { row := walPlaysRow, standIns := [], harness := (true, "df4645967350a3d5ebc1863790496f3c2515f130c34acb6e49749c4963cc60fb"), looks := false }, kinds := [], alts := [], laidByText := true, laidKinds := [.data, .data, .data], laidTests := true, laidLooks := .later }
def WalPlaysCardSaid : Prop := Claim7.holds Tryd.pinned (.plain (OpenSpec.ofChange walPlaysSpec)) walPlaysCard

/-- THE TIED CARD OF 'bulletinlaw09.WalCrash'. -/
def walCrashCard : Claim7 := { stood := { row := walCrashRow, standIns := [], harness := (true, "df4645967350a3d5ebc1863790496f3c2515f130c34acb6e49749c4963cc60fb"), looks := false }, kinds := [], alts := [], laidByText := true, laidKinds := [.data, .data, .data], laidTests := true, laidLooks := .later }
def WalCrashCardSaid : Prop := Claim7.holds Tryd.pinned (.plain (OpenSpec.ofChange walCrashSpec)) walCrashCard

/-- THE TIED CARD OF 'bulletinlaw09.WalOn'. -/
def walOnCard : Claim7 := { stood := { row := walOnRow, standIns := [], harness := (true, "df4645967350a3d5ebc1863790496f3c2515f130c34acb6e49749c4963cc60fb"), looks := false }, kinds := [], alts := [], laidByText := true, laidKinds := [.data, .data, .data], laidTests := true, laidLooks := .later }
def WalOnCardSaid : Prop := Claim7.holds Tryd.pinned (.plain (OpenSpec.ofChange walOnSpec)) walOnCard

/-- THE SECOND FORM's CARD OF 'bulletinlaw09.WalPlays'. -/
def walPlaysUptoCard : Claim7 := { stood := { row := walPlaysUptoRow, standIns := [], harness := (true, "df4645967350a3d5ebc1863790496f3c2515f130c34acb6e49749c4963cc60fb"), looks := false }, kinds := [], alts := [], laidByText := true, laidKinds := [.data, .data, .data], laidTests := true, laidLooks := .later }
def WalPlaysUptoCardSaid : Prop := Claim7.holds Tryd.pinned (.plain (OpenSpec.upto walPlaysSpec)) walPlaysUptoCard

/-- THE SECOND FORM's CARD OF 'bulletinlaw09.WalCrash'. -/
def walCrashUptoCard : Claim7 := { stood := { row := walCrashUptoRow, standIns := [], harness := (true, "df4645967350a3d5ebc1863790496f3c2515f130c34acb6e49749c4963cc60fb"), looks := false }, kinds := [], alts := [], laidByText := true, laidKinds := [.data, .data, .data], laidTests := true, laidLooks := .later }
def WalCrashUptoCardSaid : Prop := Claim7.holds Tryd.pinned (.plain (OpenSpec.upto walCrashSpec)) walCrashUptoCard

/-- THE SECOND FORM's CARD OF 'bulletinlaw09.WalOn'. -/
def walOnUptoCard : Claim7 := { stood := { row := walOnUptoRow, standIns := [], harness := (true, "df4645967350a3d5ebc1863790496f3c2515f130c34acb6e49749c4963cc60fb"), looks := false }, kinds := [], alts := [], laidByText := true, laidKinds := [.data, .data, .data], laidTests := true, laidLooks := .later }
def WalOnUptoCardSaid : Prop := Claim7.holds Tryd.pinned (.plain (OpenSpec.upto walOnSpec)) walOnUptoCard
end Rows
end Go.Proofs.YtldmplfgnpepjaaDoor
