/-
  What the laws' frames share.
-/
import Derived.Test.YtpmhajpaijngmaaDoorCards
import Derived.Test.YtpmhajpaijngmaaDoorTie
import Derived.Test.YtpmhajpaijngmaaDoorGlyphHex
import Derived.Test.YtpmhajpaijngmaaDoorLaw
import Derived.Deep.DeepHandedRow
import Derived.LaidMore
import Derived.Lib.LaidTab
import Derived.Stop.LaidErr
import Derived.Laws.BitsAllLaws
namespace Go.Proofs.YtpmhajpaijngmaaDoor
open Go.ChangeShapes Go.WideShapes Go.ChangeAt Go.RowKit

theorem own : ownKnob Tryd.prog.godebug = none := by kernel_rfl
theorem laidOut : laidOutB Tryd.prog = true := by kernel_rfl
open Glyph
theorem gBr : Tryd.prog.globalNamed "math/bits.deBruijn64tab" = some 2 := by kernel_rfl
theorem gBrType : (Tryd.prog.globals[2]?).map (·.type) = some 72 := by kernel_rfl
theorem cellsTab : Tryd.prog.cellsOf 72 = 64 := by kernel_rfl
theorem cellsOne : Tryd.prog.cellsOf 5 = 1 := by kernel_rfl
def brInts : List Int := Lib.deBruijn64tab.map fun n : Nat => (n : Int)
theorem laidBr {H : Type} : (Rows.laid_math_bits_deBruijn64tab : DataW H) = Lib.tabData .u8 brInts := by rfl

/-- What the rows' list gives: the place of the table of de Bruijn's that is read. -/
theorem table {W : World} {a b : String × DataW Unit} (h : laidMet Tryd.prog [a, ("math/bits.deBruijn64tab", Rows.laid_math_bits_deBruijn64tab), b] W) : Tab W := by
  have h2 := h.tail
  rw [laidBr] at h2
  have ht : Lib.TabIs Tryd.prog W "math/bits.deBruijn64tab" .u8 brInts := Lib.tabIs_of_head (rest := [b]) gBr gBrType Tryd.underlying72 Tryd.underlying5 cellsOne cellsTab h2
  unfold Lib.TabIs at ht
  unfold Tab
  rw [World.var?_cell gBr ht]
  rfl

/-- A start for the witness: the heap that the tables' own initialisers leave. -/
noncomputable def laidWorld (os : Os) : World := World.doorLaid Tryd.prog 2000 os
end Go.Proofs.YtpmhajpaijngmaaDoor
