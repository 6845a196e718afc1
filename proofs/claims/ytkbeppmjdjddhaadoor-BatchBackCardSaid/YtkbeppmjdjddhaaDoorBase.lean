/-
  What the laws' frames share.
-/
import Derived.Test.YtkbeppmjdjddhaaDoorCards
import Derived.Test.YtkbeppmjdjddhaaDoorTie
import Derived.Test.YtkbeppmjdjddhaaDoorBatchArgs
import Derived.Test.YtkbeppmjdjddhaaDoorLaw
import Derived.Deep.DeepHandedRow
import Derived.LaidMore
import Derived.Lib.LaidTab
import Derived.Stop.LaidErr
import Derived.Laws.BitsAllLaws
namespace Go.Proofs.YtkbeppmjdjddhaaDoor
open Go.ChangeShapes Go.WideShapes Go.ChangeAt Go.RowKit

theorem own : ownKnob Tryd.prog.godebug = none := by kernel_rfl
theorem laidOut : laidOutB Tryd.prog = true := by kernel_rfl

open Go.Proofs.YtkbeppmjdjddhaaDoor.Nets (Tab gPow)
theorem gPowType : (Tryd.prog.globals[1]?).map (·.type) = some 117 := by kernel_rfl
theorem cellsTab : Tryd.prog.cellsOf 117 = 20 := by kernel_rfl
theorem cellsOne : Tryd.prog.cellsOf 110 = 1 := by kernel_rfl
theorem laidPow {H : Type} : (Rows.laid_internal_strconv_uint64pow10 : DataW H) = Lib.tabData .u64 Lib.pow10Tab := by rfl

/-- What the rows' list gives: the table of powers of ten. -/
theorem table {W : World} {a b : String × DataW Unit} (h : laidMet Tryd.prog [a, b, ("internal/strconv.uint64pow10", Rows.laid_internal_strconv_uint64pow10)] W) : Tab W := by
  have h3 := h.tail.tail
  rw [laidPow] at h3
  have ht : Lib.TabIs Tryd.prog W "internal/strconv.uint64pow10" .u64 Lib.pow10Tab := Lib.tabIs_of_head (rest := []) gPow gPowType Tryd.underlying117 Tryd.underlying110 cellsOne cellsTab h3
  refine ⟨ht, ?_⟩
  rcases Nat.lt_or_ge 1 W.heap.size with h0 | h0
  · exact h0
  · exfalso
    unfold Lib.TabIs World.var? at ht
    rw [gPow] at ht
    have : W.heap[1]? = none := Array.getElem?_eq_none h0
    simp [this] at ht

/-- A start for the witness: the heap that the tables' own initialisers leave. -/
noncomputable def laidWorld (os : Os) : World := World.doorLaid Tryd.prog 2000 os
end Go.Proofs.YtkbeppmjdjddhaaDoor
