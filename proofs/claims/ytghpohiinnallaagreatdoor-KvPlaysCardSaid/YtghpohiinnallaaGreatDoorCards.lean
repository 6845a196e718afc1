/-
  DERIVED. GIVEN WITH THE SEED: THE CARDS: each row of YtghpohiinnallaaGreatDoorRows.lean that lists a variable, with what it lists TIED to the program's text (the seventh form; the later family's looks); each row that meets fmt, with fmt's text TOLD by the authors' own Lean function (tested against real Go, not proved from fmt's source: count such statements apart). THE CARD IS WHAT COUNTS. Prove the row's statement (the work); the ties are given (YtghpohiinnallaaGreatDoorTie.lean); close each card by the builder's one call (the guide's Derived/Test/ToyasCard.lean, 'card_holds'). Laid BY PROGRAM, IN A SANDBOX (cutbox-door.mjs). By AI agents, Wed Nov 11 2026. No macro, syntax, notation, axiom, sorry.
-/
import Derived.Test.YtghpohiinnallaaGreatDoorRows
import GoSem.ClaimSeven
namespace Go.Proofs.YtghpohiinnallaaGreatDoor
namespace Rows

/-- THE TIED CARD OF 'bulletinlaw11.KvPlays'. -/
def kvPlaysCard : Claim7 := { stood := { row := kvPlaysRow, standIns := [], harness := (true, "0b39100361334ff2353a878a7b4f918fc35b42b8c19f6aa21be689705b9f8ed2"), looks := false }, kinds := [], alts := [], laidByText := true, laidKinds := [.data, .data, .data], laidTests := true, laidLooks := .later }
def KvPlaysCardSaid : Prop := Claim7.holds Tryz.pinned (.plain (OpenSpec.ofChange kvPlaysSpec)) kvPlaysCard

/-- THE TIED CARD OF 'bulletinlaw11.KvRefused'. -/
def kvRefusedCard : Claim7 := { stood := { row := kvRefusedRow, standIns := [], harness := (true, "0b39100361334ff2353a878a7b4f918fc35b42b8c19f6aa21be689705b9f8ed2"), looks := false }, kinds := [], alts := [], laidByText := true, laidKinds := [.data, .data, .data], laidTests := true, laidLooks := .later }
def KvRefusedCardSaid : Prop := Claim7.holds Tryz.pinned (.plain (OpenSpec.ofChange kvRefusedSpec)) kvRefusedCard

/-- THE TIED CARD OF 'bulletinlaw11.KvCrash'. -/
def kvCrashCard : Claim7 := { stood := { row := kvCrashRow, standIns := [], harness := (true, "0b39100361334ff2353a878a7b4f918fc35b42b8c19f6aa21be689705b9f8ed2"), looks := false }, kinds := [], alts := [], laidByText := true, laidKinds := [.data, .data, .data], laidTests := true, laidLooks := .later }
def KvCrashCardSaid : Prop := Claim7.holds Tryz.pinned (.plain (OpenSpec.ofChange kvCrashSpec)) kvCrashCard

/-- THE TIED CARD OF 'bulletinlaw11.KvStays'. -/
def kvStaysCard : Claim7 := { stood := { row := kvStaysRow, standIns := [], harness := (true, "0b39100361334ff2353a878a7b4f918fc35b42b8c19f6aa21be689705b9f8ed2"), looks := false }, kinds := [], alts := [], laidByText := true, laidKinds := [.data, .data, .data], laidTests := true, laidLooks := .later }
def KvStaysCardSaid : Prop := Claim7.holds Tryz.pinned (.plain (OpenSpec.ofChange kvStaysSpec)) kvStaysCard

/-- THE SECOND FORM's CARD OF 'bulletinlaw11.KvPlays'. -/
def kvPlaysUptoCard : Claim7 := { stood := { row := kvPlaysUptoRow, standIns := [], harness := (true, "0b39100361334ff2353a878a7b4f918fc35b42b8c19f6aa21be689705b9f8ed2"), looks := false }, kinds := [], alts := [], laidByText := true, laidKinds := [.data, .data, .data], laidTests := true, laidLooks := .later }
def KvPlaysUptoCardSaid : Prop := Claim7.holds Tryz.pinned (.plain (OpenSpec.upto kvPlaysSpec)) kvPlaysUptoCard

/-- THE SECOND FORM's CARD OF 'bulletinlaw11.KvRefused'. -/
def kvRefusedUptoCard : Claim7 := { stood := { row := kvRefusedUptoRow, standIns := [], harness := (true, "0b39100361334ff2353a878a7b4f918fc35b42b8c19f6aa21be689705b9f8ed2"), looks := false }, kinds := [], alts := [], laidByText := true, laidKinds := [.data, .data, .data], laidTests := true, laidLooks := .later }
def KvRefusedUptoCardSaid : Prop := Claim7.holds Tryz.pinned (.plain (OpenSpec.upto kvRefusedSpec)) kvRefusedUptoCard

/-- THE SECOND FORM's CARD OF 'bulletinlaw11.KvCrash'. -/
def kvCrashUptoCard : Claim7 := { stood := { row := kvCrashUptoRow, standIns := [], harness := (true, "0b39100361334ff2353a878a7b4f918fc35b42b8c19f6aa21be689705b9f8ed2"), looks := false }, kinds := [], alts := [], laidByText := true, laidKinds := [.data, .data, .data], laidTests := true, laidLooks := .later }
def KvCrashUptoCardSaid : Prop := Claim7.holds Tryz.pinned (.plain (OpenSpec.upto kvCrashSpec)) kvCrashUptoCard

/-- THE SECOND FORM's CARD OF 'bulletinlaw11.KvStays'. -/
def kvStaysUptoCard : Claim7 := { stood := { row := kvStaysUptoRow, standIns := [], harness := (true, "0b39100361334ff2353a878a7b4f918fc35b42b8c19f6aa21be689705b9f8ed2"), looks := false }, kinds := [], alts := [], laidByText := true, laidKinds := [.data, .data, .data], laidTests := true, laidLooks := .later }
def KvStaysUptoCardSaid : Prop := Claim7.holds Tryz.pinned (.plain (OpenSpec.upto kvStaysSpec)) kvStaysUptoCard
end Rows
end Go.Proofs.YtghpohiinnallaaGreatDoor
