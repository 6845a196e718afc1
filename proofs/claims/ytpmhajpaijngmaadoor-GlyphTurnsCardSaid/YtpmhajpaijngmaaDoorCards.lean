/-
  DERIVED. GIVEN WITH THE SEED: THE CARDS: each row of YtpmhajpaijngmaaDoorRows.lean that lists a variable, with what it lists TIED to the program's text (the seventh form; the later family's looks); each row that meets fmt, with fmt's text TOLD by the authors' own Lean function (tested against real Go, not proved from fmt's source: count such statements apart). THE CARD IS WHAT COUNTS. Prove the row's statement (the work); the ties are given (YtpmhajpaijngmaaDoorTie.lean); close each card by the builder's one call (the guide's Derived/Test/ToyasCard.lean, 'card_holds'). Laid BY PROGRAM, IN A SANDBOX (cutbox-door.mjs). By AI agents, Wed Nov 11 2026. No macro, syntax, notation, axiom, sorry.
-/
import Derived.Test.YtpmhajpaijngmaaDoorRows
import GoSem.ClaimSeven
namespace Go.Proofs.YtpmhajpaijngmaaDoor
namespace Rows

/-- THE TIED CARD OF 'bulletinlaw06.GlyphCounts'. -/
def glyphCountsCard : Claim7 := { stood := { row := glyphCountsRow, standIns := [], harness := (true, "5707655553c769149ce561020b9f73665914fe4ef927d5482b92ad54d28d677d"), looks := false }, kinds := [], alts := [], laidByText := true, laidKinds := [.data, .data, .data], laidTests := true, laidLooks := .later }
def GlyphCountsCardSaid : Prop := Claim7.holds Tryd.pinned (.plain (OpenSpec.ofChange glyphCountsSpec)) glyphCountsCard

/-- THE TIED CARD OF 'bulletinlaw06.GlyphTurns'. -/
def glyphTurnsCard : Claim7 := { stood := { row := glyphTurnsRow, standIns := [], harness := (true, "5707655553c769149ce561020b9f73665914fe4ef927d5482b92ad54d28d677d"), looks := false }, kinds := [], alts := [], laidByText := true, laidKinds := [.data, .data, .data], laidTests := true, laidLooks := .later }
def GlyphTurnsCardSaid : Prop := Claim7.holds Tryd.pinned (.plain (OpenSpec.ofChange glyphTurnsSpec)) glyphTurnsCard

/-- THE TIED CARD OF 'bulletinlaw06.GlyphClean'. -/
def glyphCleanCard : Claim7 := { stood := { row := glyphCleanRow, standIns := [], harness := (true, "5707655553c769149ce561020b9f73665914fe4ef927d5482b92ad54d28d677d"), looks := false }, kinds := [], alts := [], laidByText := true, laidKinds := [.data, .data, .data], laidTests := true, laidLooks := .later }
def GlyphCleanCardSaid : Prop := Claim7.holds Tryd.pinned (.plain (OpenSpec.ofChange glyphCleanSpec)) glyphCleanCard

/-- THE TIED CARD OF 'bulletinlaw06.GlyphClips'. -/
def glyphClipsCard : Claim7 := { stood := { row := glyphClipsRow, standIns := [], harness := (true, "5707655553c769149ce561020b9f73665914fe4ef927d5482b92ad54d28d677d"), looks := false }, kinds := [], alts := [], laidByText := true, laidKinds := [.data, .data, .data], laidTests := true, laidLooks := .later }
def GlyphClipsCardSaid : Prop := Claim7.holds Tryd.pinned (.plain (OpenSpec.ofChange glyphClipsSpec)) glyphClipsCard

/-- THE SECOND FORM's CARD OF 'bulletinlaw06.GlyphCounts'. -/
def glyphCountsUptoCard : Claim7 := { stood := { row := glyphCountsUptoRow, standIns := [], harness := (true, "5707655553c769149ce561020b9f73665914fe4ef927d5482b92ad54d28d677d"), looks := false }, kinds := [], alts := [], laidByText := true, laidKinds := [.data, .data, .data], laidTests := true, laidLooks := .later }
def GlyphCountsUptoCardSaid : Prop := Claim7.holds Tryd.pinned (.plain (OpenSpec.upto glyphCountsSpec)) glyphCountsUptoCard

/-- THE SECOND FORM's CARD OF 'bulletinlaw06.GlyphTurns'. -/
def glyphTurnsUptoCard : Claim7 := { stood := { row := glyphTurnsUptoRow, standIns := [], harness := (true, "5707655553c769149ce561020b9f73665914fe4ef927d5482b92ad54d28d677d"), looks := false }, kinds := [], alts := [], laidByText := true, laidKinds := [.data, .data, .data], laidTests := true, laidLooks := .later }
def GlyphTurnsUptoCardSaid : Prop := Claim7.holds Tryd.pinned (.plain (OpenSpec.upto glyphTurnsSpec)) glyphTurnsUptoCard

/-- THE SECOND FORM's CARD OF 'bulletinlaw06.GlyphClean'. -/
def glyphCleanUptoCard : Claim7 := { stood := { row := glyphCleanUptoRow, standIns := [], harness := (true, "5707655553c769149ce561020b9f73665914fe4ef927d5482b92ad54d28d677d"), looks := false }, kinds := [], alts := [], laidByText := true, laidKinds := [.data, .data, .data], laidTests := true, laidLooks := .later }
def GlyphCleanUptoCardSaid : Prop := Claim7.holds Tryd.pinned (.plain (OpenSpec.upto glyphCleanSpec)) glyphCleanUptoCard

/-- THE SECOND FORM's CARD OF 'bulletinlaw06.GlyphClips'. -/
def glyphClipsUptoCard : Claim7 := { stood := { row := glyphClipsUptoRow, standIns := [], harness := (true, "5707655553c769149ce561020b9f73665914fe4ef927d5482b92ad54d28d677d"), looks := false }, kinds := [], alts := [], laidByText := true, laidKinds := [.data, .data, .data], laidTests := true, laidLooks := .later }
def GlyphClipsUptoCardSaid : Prop := Claim7.holds Tryd.pinned (.plain (OpenSpec.upto glyphClipsSpec)) glyphClipsUptoCard
end Rows
end Go.Proofs.YtpmhajpaijngmaaDoor
