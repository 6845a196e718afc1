/-
  What the laws' frames share.
-/
import Derived.Test.YtghpohiinnallaaGreatDoorCards
import Derived.Test.YtghpohiinnallaaGreatDoorTie
import Derived.Test.YtghpohiinnallaaGreatDoorKgShared
import Derived.Test.YtghpohiinnallaaGreatDoorLaw
import Derived.Deep.DeepHandedRow
import Derived.LaidMore
import Derived.Lib.LaidTab
import Derived.Stop.LaidErr
import Derived.Laws.BitsAllLaws
namespace Go.Proofs.YtghpohiinnallaaGreatDoor
open Go.ChangeShapes Go.WideShapes Go.ChangeAt Go.RowKit

theorem own : ownKnob Tryz.prog.godebug = none := by kernel_rfl
theorem laidOut : laidOutB Tryz.prog = true := by kernel_rfl

open Go.Proofs.YtghpohiinnallaaGreatDoor.Nets (Tab gPow)
theorem gPowType : (Tryz.prog.globals[1]?).map (·.type) = some 238 := by kernel_rfl
theorem cellsTab : Tryz.prog.cellsOf 238 = 20 := by kernel_rfl
theorem cellsOne : Tryz.prog.cellsOf 212 = 1 := by kernel_rfl
theorem laidPow {H : Type} : (Rows.laid_internal_strconv_uint64pow10 : DataW H) = Lib.tabData .u64 Lib.pow10Tab := by rfl

/-- What the rows' list gives: the table of powers of ten. -/
theorem table {W : World} {a b : String × DataW Unit} (h : laidMet Tryz.prog [a, b, ("internal/strconv.uint64pow10", Rows.laid_internal_strconv_uint64pow10)] W) : Tab W := by
  have h3 := h.tail.tail
  rw [laidPow] at h3
  have ht : Lib.TabIs Tryz.prog W "internal/strconv.uint64pow10" .u64 Lib.pow10Tab := Lib.tabIs_of_head (rest := []) gPow gPowType Tryz.underlying238 Tryz.underlying212 cellsOne cellsTab h3
  refine ⟨ht, ?_⟩
  rcases Nat.lt_or_ge 1 W.heap.size with h0 | h0
  · exact h0
  · exfalso
    unfold Lib.TabIs World.var? at ht
    rw [gPow] at ht
    have : W.heap[1]? = none := Array.getElem?_eq_none h0
    simp [this] at ht

/-- A start for the witness: the heap that the tables' own initialisers leave. -/
noncomputable def laidWorld (os : Os) : World := World.doorLaid Tryz.prog 2000 os
end Go.Proofs.YtghpohiinnallaaGreatDoor
