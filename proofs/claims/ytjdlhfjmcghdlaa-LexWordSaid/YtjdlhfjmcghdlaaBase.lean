/-
  What the laws' frames share.
-/
import Derived.Test.YtjdlhfjmcghdlaaRows
import Derived.Test.YtjdlhfjmcghdlaaLexArgs
import Derived.Test.YtjdlhfjmcghdlaaLaw
import Derived.Deep.DeepHandedRow
import Derived.LaidMore
import Derived.Lib.LaidTab
import Derived.Stop.LaidErr
import Derived.Laws.BitsAllLaws
namespace Go.Proofs.Ytjdlhfjmcghdlaa
open Go.ChangeShapes Go.WideShapes Go.ChangeAt Go.RowKit

theorem own : ownKnob Try.prog.godebug = none := by kernel_rfl
theorem laidOut : laidOutB Try.prog = true := by kernel_rfl
/-- A start for the witness: the heap that the tables' own initialisers leave. -/
noncomputable def laidWorld (os : Os) : World := World.doorLaid Try.prog 2000 os
end Go.Proofs.Ytjdlhfjmcghdlaa
