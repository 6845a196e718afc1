/-
  DERIVED. GIVEN WITH THE SEED: THE CARDS: each row of YtoknflnoehmngaaDoorRows.lean that lists a variable, with what it lists TIED to the program's text (the seventh form; the later family's looks); each row that meets fmt, with fmt's text TOLD by the authors' own Lean function (tested against real Go, not proved from fmt's source: count such statements apart). THE CARD IS WHAT COUNTS. Prove the row's statement (the work); the ties are given (YtoknflnoehmngaaDoorTie.lean); close each card by the builder's one call (the guide's Derived/Test/ToyasCard.lean, 'card_holds'). Laid BY PROGRAM, IN A SANDBOX (cutbox-door.mjs). By AI agents, Wed Nov 11 2026. No macro, syntax, notation, axiom, sorry.
-/
import Derived.Test.YtoknflnoehmngaaDoorRows
import GoSem.ClaimSeven
namespace Go.Proofs.YtoknflnoehmngaaDoor
namespace Rows

/-- THE TIED CARD OF 'bulletinlaw07.CellBags'. -/
def cellBagsCard : Claim7 := { stood := { row := cellBagsRow, standIns := [], harness := (true, "2b26a7cf2e95bebbc8e1d1f1c482d12307793c4953e8baad633360e543cb663a"), looks := true }, kinds := [], alts := [], laidByText := true, laidKinds := [.data, .data, .data], laidTests := true, laidLooks := .later }
def CellBagsCardSaid : Prop := Claim7.holds Tryd.pinned (.plain (OpenSpec.ofChange cellBagsSpec)) cellBagsCard

/-- THE TIED CARD OF 'bulletinlaw07.CellOwn'. -/
def cellOwnCard : Claim7 := { stood := { row := cellOwnRow, standIns := [], harness := (true, "2b26a7cf2e95bebbc8e1d1f1c482d12307793c4953e8baad633360e543cb663a"), looks := true }, kinds := [], alts := [], laidByText := true, laidKinds := [.data, .data, .data], laidTests := true, laidLooks := .later }
def CellOwnCardSaid : Prop := Claim7.holds Tryd.pinned (.plain (OpenSpec.ofChange cellOwnSpec)) cellOwnCard

/-- THE TIED CARD OF 'bulletinlaw07.CellShares'. -/
def cellSharesCard : Claim7 := { stood := { row := cellSharesRow, standIns := [], harness := (true, "2b26a7cf2e95bebbc8e1d1f1c482d12307793c4953e8baad633360e543cb663a"), looks := true }, kinds := [], alts := [], laidByText := true, laidKinds := [.data, .data, .data], laidTests := true, laidLooks := .later }
def CellSharesCardSaid : Prop := Claim7.holds Tryd.pinned (.plain (OpenSpec.ofChange cellSharesSpec)) cellSharesCard

/-- THE SECOND FORM's CARD OF 'bulletinlaw07.CellBags'. -/
def cellBagsUptoCard : Claim7 := { stood := { row := cellBagsUptoRow, standIns := [], harness := (true, "2b26a7cf2e95bebbc8e1d1f1c482d12307793c4953e8baad633360e543cb663a"), looks := true }, kinds := [], alts := [], laidByText := true, laidKinds := [.data, .data, .data], laidTests := true, laidLooks := .later }
def CellBagsUptoCardSaid : Prop := Claim7.holds Tryd.pinned (.plain (OpenSpec.upto cellBagsSpec)) cellBagsUptoCard

/-- THE SECOND FORM's CARD OF 'bulletinlaw07.CellOwn'. -/
def cellOwnUptoCard : Claim7 := { stood := { row := cellOwnUptoRow, standIns := [], harness := (true, "2b26a7cf2e95bebbc8e1d1f1c482d12307793c4953e8baad633360e543cb663a"), looks := true }, kinds := [], alts := [], laidByText := true, laidKinds := [.data, .data, .data], laidTests := true, laidLooks := .later }
def CellOwnUptoCardSaid : Prop := Claim7.holds Tryd.pinned (.plain (OpenSpec.upto cellOwnSpec)) cellOwnUptoCard

/-- THE SECOND FORM's CARD OF 'bulletinlaw07.CellShares'. -/
def cellSharesUptoCard : Claim7 := { stood := { row := cellSharesUptoRow, standIns := [], harness := (true, "2b26a7cf2e95bebbc8e1d1f1c482d12307793c4953e8baad633360e543cb663a"), looks := true }, kinds := [], alts := [], laidByText := true, laidKinds := [.data, .data, .data], laidTests := true, laidLooks := .later }
def CellSharesUptoCardSaid : Prop := Claim7.holds Tryd.pinned (.plain (OpenSpec.upto cellSharesSpec)) cellSharesUptoCard
end Rows
end Go.Proofs.YtoknflnoehmngaaDoor
