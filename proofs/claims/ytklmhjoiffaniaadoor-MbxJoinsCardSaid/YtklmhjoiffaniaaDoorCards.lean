/-
  DERIVED. GIVEN WITH THE SEED: THE CARDS: each row of YtklmhjoiffaniaaDoorRows.lean that lists a variable, with what it lists TIED to the program's text (the seventh form; the later family's looks); each row that meets fmt, with fmt's text TOLD by the authors' own Lean function (tested against real Go, not proved from fmt's source: count such statements apart). THE CARD IS WHAT COUNTS. Prove the row's statement (the work); the ties are given (YtklmhjoiffaniaaDoorTie.lean); close each card by the builder's one call (the guide's Derived/Test/ToyasCard.lean, 'card_holds'). Laid BY PROGRAM, IN A SANDBOX (cutbox-door.mjs). By AI agents, Wed Nov 11 2026. No macro, syntax, notation, axiom, sorry.
-/
import Derived.Test.YtklmhjoiffaniaaDoorRows
import GoSem.ClaimSeven
namespace Go.Proofs.YtklmhjoiffaniaaDoor
namespace Rows

/-- THE TIED CARD OF 'bulletinlaw14.MbxReads'. -/
def mbxReadsCard : Claim7 := { stood := { row := mbxReadsRow, standIns := [], harness := (true, "544b72fca7904bd0be5db86a278d4d9330510803122527f4c26fe5d38339c768"), looks := false }, kinds := [], alts := [], laidByText := true, laidKinds := [.data, .pinned], laidTests := true, laidLooks := .later }
def MbxReadsCardSaid : Prop := Claim7.holds Tryd.pinned (.plain (OpenSpec.ofChange mbxReadsSpec)) mbxReadsCard

/-- THE TIED CARD OF 'bulletinlaw14.MbxShows'. -/
def mbxShowsCard : Claim7 := { stood := { row := mbxShowsRow, standIns := [], harness := (true, "544b72fca7904bd0be5db86a278d4d9330510803122527f4c26fe5d38339c768"), looks := false }, kinds := [], alts := [], laidByText := true, laidKinds := [.data, .pinned], laidTests := true, laidLooks := .later }
def MbxShowsCardSaid : Prop := Claim7.holds Tryd.pinned (.plain (OpenSpec.ofChange mbxShowsSpec)) mbxShowsCard

/-- THE TIED CARD OF 'bulletinlaw14.MbxMany'. -/
def mbxManyCard : Claim7 := { stood := { row := mbxManyRow, standIns := [], harness := (true, "544b72fca7904bd0be5db86a278d4d9330510803122527f4c26fe5d38339c768"), looks := false }, kinds := [], alts := [], laidByText := true, laidKinds := [.data, .pinned], laidTests := true, laidLooks := .later }
def MbxManyCardSaid : Prop := Claim7.holds Tryd.pinned (.plain (OpenSpec.ofChange mbxManySpec)) mbxManyCard

/-- THE TIED CARD OF 'bulletinlaw14.MbxBack'. -/
def mbxBackCard : Claim7 := { stood := { row := mbxBackRow, standIns := [], harness := (true, "544b72fca7904bd0be5db86a278d4d9330510803122527f4c26fe5d38339c768"), looks := false }, kinds := [], alts := [], laidByText := true, laidKinds := [.data, .pinned], laidTests := true, laidLooks := .later }
def MbxBackCardSaid : Prop := Claim7.holds Tryd.pinned (.plain (OpenSpec.ofChange mbxBackSpec)) mbxBackCard

/-- THE TIED CARD OF 'bulletinlaw14.MbxJoins'. -/
def mbxJoinsCard : Claim7 := { stood := { row := mbxJoinsRow, standIns := [], harness := (true, "544b72fca7904bd0be5db86a278d4d9330510803122527f4c26fe5d38339c768"), looks := false }, kinds := [], alts := [], laidByText := true, laidKinds := [.data, .pinned], laidTests := true, laidLooks := .later }
def MbxJoinsCardSaid : Prop := Claim7.holds Tryd.pinned (.plain (OpenSpec.ofChange mbxJoinsSpec)) mbxJoinsCard

/-- THE SECOND FORM's CARD OF 'bulletinlaw14.MbxReads'. -/
def mbxReadsUptoCard : Claim7 := { stood := { row := mbxReadsUptoRow, standIns := [], harness := (true, "544b72fca7904bd0be5db86a278d4d9330510803122527f4c26fe5d38339c768"), looks := false }, kinds := [], alts := [], laidByText := true, laidKinds := [.data, .pinned], laidTests := true, laidLooks := .later }
def MbxReadsUptoCardSaid : Prop := Claim7.holds Tryd.pinned (.plain (OpenSpec.upto mbxReadsSpec)) mbxReadsUptoCard

/-- THE SECOND FORM's CARD OF 'bulletinlaw14.MbxShows'. -/
def mbxShowsUptoCard : Claim7 := { stood := { row := mbxShowsUptoRow, standIns := [], harness := (true, "544b72fca7904bd0be5db86a278d4d9330510803122527f4c26fe5d38339c768"), looks := false }, kinds := [], alts := [], laidByText := true, laidKinds := [.data, .pinned], laidTests := true, laidLooks := .later }
def MbxShowsUptoCardSaid : Prop := Claim7.holds Tryd.pinned (.plain (OpenSpec.upto mbxShowsSpec)) mbxShowsUptoCard

/-- THE SECOND FORM's CARD OF 'bulletinlaw14.MbxMany'. -/
def mbxManyUptoCard : Claim7 := { stood := { row := mbxManyUptoRow, standIns := [], harness := (true, "544b72fca7904bd0be5db86a278d4d9330510803122527f4c26fe5d38339c768"), looks := false }, kinds := [], alts := [], laidByText := true, laidKinds := [.data, .pinned], laidTests := true, laidLooks := .later }
def MbxManyUptoCardSaid : Prop := Claim7.holds Tryd.pinned (.plain (OpenSpec.upto mbxManySpec)) mbxManyUptoCard

/-- THE SECOND FORM's CARD OF 'bulletinlaw14.MbxBack'. -/
def mbxBackUptoCard : Claim7 := { stood := { row := mbxBackUptoRow, standIns := [], harness := (true, "544b72fca7904bd0be5db86a278d4d9330510803122527f4c26fe5d38339c768"), looks := false }, kinds := [], alts := [], laidByText := true, laidKinds := [.data, .pinned], laidTests := true, laidLooks := .later }
def MbxBackUptoCardSaid : Prop := Claim7.holds Tryd.pinned (.plain (OpenSpec.upto mbxBackSpec)) mbxBackUptoCard

/-- THE SECOND FORM's CARD OF 'bulletinlaw14.MbxJoins'. -/
def mbxJoinsUptoCard : Claim7 := { stood := { row := mbxJoinsUptoRow, standIns := [], harness := (true, "544b72fca7904bd0be5db86a278d4d9330510803122527f4c26fe5d38339c768"), looks := false }, kinds := [], alts := [], laidByText := true, laidKinds := [.data, .pinned], laidTests := true, laidLooks := .later }
def MbxJoinsUptoCardSaid : Prop := Claim7.holds Tryd.pinned (.plain (OpenSpec.upto mbxJoinsSpec)) mbxJoinsUptoCard
end Rows
end Go.Proofs.YtklmhjoiffaniaaDoor
