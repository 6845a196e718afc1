/-
  DERIVED. GIVEN WITH THE SEED: THE CARDS: each row of YtlkfkgkolaaomaaDoorRows.lean that lists a variable, with what it lists TIED to the program's text (the seventh form; the later family's looks); each row that meets fmt, with fmt's text TOLD by the authors' own Lean function (tested against real Go, not proved from fmt's source: count such statements apart). THE CARD IS WHAT COUNTS. Prove the row's statement (the work); the ties are given (YtlkfkgkolaaomaaDoorTie.lean); close each card by the builder's one call (the guide's Derived/Test/ToyasCard.lean, 'card_holds'). Laid BY PROGRAM, IN A SANDBOX (cutbox-door.mjs). By AI agents, Wed Nov 11 2026. No macro, syntax, notation, axiom, sorry.
-/
import Derived.Test.YtlkfkgkolaaomaaDoorRows
import GoSem.ClaimSeven
namespace Go.Proofs.YtlkfkgkolaaomaaDoor
namespace Rows

/-- THE TIED CARD OF 'bulletinlaw18.B64Signs'. -/
def b64SignsCard : Claim7 := { stood := { row := b64SignsRow, standIns := [], harness := (true, "0d6088519b2af20bcd5d56472a1c8f24d14ea4f45038e52751c466ab963b59d4"), looks := false }, kinds := [], alts := [], laidByText := true, laidKinds := [.data, .pinned], laidTests := true, laidLooks := .later }
def B64SignsCardSaid : Prop := Claim7.holds Tryd.pinned (.plain (OpenSpec.ofChange b64SignsSpec)) b64SignsCard

/-- THE TIED CARD OF 'bulletinlaw18.B64Back'. -/
def b64BackCard : Claim7 := { stood := { row := b64BackRow, standIns := [], harness := (true, "0d6088519b2af20bcd5d56472a1c8f24d14ea4f45038e52751c466ab963b59d4"), looks := false }, kinds := [], alts := [], laidByText := true, laidKinds := [.data, .pinned], laidTests := true, laidLooks := .later }
def B64BackCardSaid : Prop := Claim7.holds Tryd.pinned (.plain (OpenSpec.ofChange b64BackSpec)) b64BackCard

/-- THE TIED CARD OF 'bulletinlaw18.B64Just'. -/
def b64JustCard : Claim7 := { stood := { row := b64JustRow, standIns := [], harness := (true, "0d6088519b2af20bcd5d56472a1c8f24d14ea4f45038e52751c466ab963b59d4"), looks := false }, kinds := [], alts := [], laidByText := true, laidKinds := [.data, .pinned], laidTests := true, laidLooks := .later }
def B64JustCardSaid : Prop := Claim7.holds Tryd.pinned (.plain (OpenSpec.ofChange b64JustSpec)) b64JustCard

/-- THE SECOND FORM's CARD OF 'bulletinlaw18.B64Signs'. -/
def b64SignsUptoCard : Claim7 := { stood := { row := b64SignsUptoRow, standIns := [], harness := (true, "0d6088519b2af20bcd5d56472a1c8f24d14ea4f45038e52751c466ab963b59d4"), looks := false }, kinds := [], alts := [], laidByText := true, laidKinds := [.data, .pinned], laidTests := true, laidLooks := .later }
def B64SignsUptoCardSaid : Prop := Claim7.holds Tryd.pinned (.plain (OpenSpec.upto b64SignsSpec)) b64SignsUptoCard

/-- THE SECOND FORM's CARD OF 'bulletinlaw18.B64Back'. -/
def b64BackUptoCard : Claim7 := { stood := { row := b64BackUptoRow, standIns := [], harness := (true, "0d6088519b2af20bcd5d56472a1c8f24d14ea4f45038e52751c466ab963b59d4"), looks := false }, kinds := [], alts := [], laidByText := true, laidKinds := [.data, .pinned], laidTests := true, laidLooks := .later }
def B64BackUptoCardSaid : Prop := Claim7.holds Tryd.pinned (.plain (OpenSpec.upto b64BackSpec)) b64BackUptoCard

/-- THE SECOND FORM's CARD OF 'bulletinlaw18.B64Just'. -/
def b64JustUptoCard : Claim7 := { stood := { row := b64JustUptoRow, standIns := [], harness := (true, "0d6088519b2af20bcd5d56472a1c8f24d14ea4f45038e52751c466ab963b59d4"), looks := false }, kinds := [], alts := [], laidByText := true, laidKinds := [.data, .pinned], laidTests := true, laidLooks := .later }
def B64JustUptoCardSaid : Prop := Claim7.holds Tryd.pinned (.plain (OpenSpec.upto b64JustSpec)) b64JustUptoCard
end Rows
end Go.Proofs.YtlkfkgkolaaomaaDoor
