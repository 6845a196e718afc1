/-
  DERIVED. GIVEN WITH THE SEED: THE CARDS: each row of YtkbeppmjdjddhaaDoorRows.lean that lists a variable, with what it lists TIED to the program's text (the seventh form; the later family's looks); each row that meets fmt, with fmt's text TOLD by the authors' own Lean function (tested against real Go, not proved from fmt's source: count such statements apart). THE CARD IS WHAT COUNTS. Prove the row's statement (the work); the ties are given (YtkbeppmjdjddhaaDoorTie.lean); close each card by the builder's one call (the guide's Derived/Test/ToyasCard.lean, 'card_holds'). Laid BY PROGRAM, IN A SANDBOX (cutbox-door.mjs). By AI agents, Wed Nov 11 2026. No macro, syntax, notation, axiom, sorry.
-/
import Derived.Test.YtkbeppmjdjddhaaDoorRows
import GoSem.ClaimSeven
namespace Go.Proofs.YtkbeppmjdjddhaaDoor
namespace Rows

/-- THE TIED CARD OF 'bulletinlaw10.BatchPlays'. -/
def batchPlaysCard : Claim7 := { stood := { row := batchPlaysRow, standIns := [], harness := (true, "56c19b29df4956ee605198baecd3ad399b076098ee1814b9a9903a8074ebfe8c"), looks := false }, kinds := [], alts := [], laidByText := true, laidKinds := [.data, .data, .data], laidTests := true, laidLooks := .later }
def BatchPlaysCardSaid : Prop := Claim7.holds Tryd.pinned (.plain (OpenSpec.ofChange batchPlaysSpec)) batchPlaysCard

/-- THE TIED CARD OF 'bulletinlaw10.BatchTexts'. -/
def batchTextsCard : Claim7 := { stood := { row := batchTextsRow, standIns := [], harness := (true, "56c19b29df4956ee605198baecd3ad399b076098ee1814b9a9903a8074ebfe8c"), looks := false }, kinds := [], alts := [], laidByText := true, laidKinds := [.data, .data, .data], laidTests := true, laidLooks := .later }
def BatchTextsCardSaid : Prop := Claim7.holds Tryd.pinned (.plain (OpenSpec.ofChange batchTextsSpec)) batchTextsCard

/-- THE TIED CARD OF 'bulletinlaw10.BatchMany'. -/
def batchManyCard : Claim7 := { stood := { row := batchManyRow, standIns := [], harness := (true, "56c19b29df4956ee605198baecd3ad399b076098ee1814b9a9903a8074ebfe8c"), looks := false }, kinds := [], alts := [], laidByText := true, laidKinds := [.data, .data, .data], laidTests := true, laidLooks := .later }
def BatchManyCardSaid : Prop := Claim7.holds Tryd.pinned (.plain (OpenSpec.ofChange batchManySpec)) batchManyCard

/-- THE TIED CARD OF 'bulletinlaw10.BatchLast'. -/
def batchLastCard : Claim7 := { stood := { row := batchLastRow, standIns := [], harness := (true, "56c19b29df4956ee605198baecd3ad399b076098ee1814b9a9903a8074ebfe8c"), looks := false }, kinds := [], alts := [], laidByText := true, laidKinds := [.data, .data, .data], laidTests := true, laidLooks := .later }
def BatchLastCardSaid : Prop := Claim7.holds Tryd.pinned (.plain (OpenSpec.ofChange batchLastSpec)) batchLastCard

/-- THE TIED CARD OF 'bulletinlaw10.BatchBack'. -/
def batchBackCard : Claim7 := { stood := { row := batchBackRow, standIns := [], harness := (true, "56c19b29df4956ee605198baecd3ad399b076098ee1814b9a9903a8074ebfe8c"), looks := false }, kinds := [], alts := [], laidByText := true, laidKinds := [.data, .data, .data], laidTests := true, laidLooks := .later }
def BatchBackCardSaid : Prop := Claim7.holds Tryd.pinned (.plain (OpenSpec.ofChange batchBackSpec)) batchBackCard

/-- THE SECOND FORM's CARD OF 'bulletinlaw10.BatchPlays'. -/
def batchPlaysUptoCard : Claim7 := { stood := { row := batchPlaysUptoRow, standIns := [], harness := (true, "56c19b29df4956ee605198baecd3ad399b076098ee1814b9a9903a8074ebfe8c"), looks := false }, kinds := [], alts := [], laidByText := true, laidKinds := [.data, .data, .data], laidTests := true, laidLooks := .later }
def BatchPlaysUptoCardSaid : Prop := Claim7.holds Tryd.pinned (.plain (OpenSpec.upto batchPlaysSpec)) batchPlaysUptoCard

/-- THE SECOND FORM's CARD OF 'bulletinlaw10.BatchTexts'. -/
def batchTextsUptoCard : Claim7 := { stood := { row := batchTextsUptoRow, standIns := [], harness := (true, "56c19b29df4956ee605198baecd3ad399b076098ee1814b9a9903a8074ebfe8c"), looks := false }, kinds := [], alts := [], laidByText := true, laidKinds := [.data, .data, .data], laidTests := true, laidLooks := .later }
def BatchTextsUptoCardSaid : Prop := Claim7.holds Tryd.pinned (.plain (OpenSpec.upto batchTextsSpec)) batchTextsUptoCard

/-- THE SECOND FORM's CARD OF 'bulletinlaw10.BatchMany'. -/
def batchManyUptoCard : Claim7 := { stood := { row := batchManyUptoRow, standIns := [], harness := (true, "56c19b29df4956ee605198baecd3ad399b076098ee1814b9a9903a8074ebfe8c"), looks := false }, kinds := [], alts := [], laidByText := true, laidKinds := [.data, .data, .data], laidTests := true, laidLooks := .later }
def BatchManyUptoCardSaid : Prop := Claim7.holds Tryd.pinned (.plain (OpenSpec.upto batchManySpec)) batchManyUptoCard

/-- THE SECOND FORM's CARD OF 'bulletinlaw10.BatchLast'. -/
def batchLastUptoCard : Claim7 := { stood := { row := batchLastUptoRow, standIns := [], harness := (true, "56c19b29df4956ee605198baecd3ad399b076098ee1814b9a9903a8074ebfe8c"), looks := false }, kinds := [], alts := [], laidByText := true, laidKinds := [.data, .data, .data], laidTests := true, laidLooks := .later }
def BatchLastUptoCardSaid : Prop := Claim7.holds Tryd.pinned (.plain (OpenSpec.upto batchLastSpec)) batchLastUptoCard

/-- THE SECOND FORM's CARD OF 'bulletinlaw10.BatchBack'. -/
def batchBackUptoCard : Claim7 := { stood := { row := batchBackUptoRow, standIns := [], harness := (true, "56c19b29df4956ee605198baecd3ad399b076098ee1814b9a9903a8074ebfe8c"), looks := false }, kinds := [], alts := [], laidByText := true, laidKinds := [.data, .data, .data], laidTests := true, laidLooks := .later }
def BatchBackUptoCardSaid : Prop := Claim7.holds Tryd.pinned (.plain (OpenSpec.upto batchBackSpec)) batchBackUptoCard
end Rows
end Go.Proofs.YtkbeppmjdjddhaaDoor
