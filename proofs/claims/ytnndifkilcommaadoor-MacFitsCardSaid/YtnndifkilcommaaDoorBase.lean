/-
  What the laws' frames share.
-/
import Derived.Test.YtnndifkilcommaaDoorCards
import Derived.Test.YtnndifkilcommaaDoorTie
import Derived.Test.YtnndifkilcommaaDoorMacWorks
import Derived.Test.YtnndifkilcommaaDoorLaw
import Derived.Deep.DeepHandedRow
import Derived.LaidMore
import Derived.Lib.LaidTab
import Derived.Stop.LaidErr
import Derived.Laws.BitsAllLaws
namespace Go.Proofs.YtnndifkilcommaaDoor
open Go.ChangeShapes Go.WideShapes Go.ChangeAt Go.RowKit

theorem own : ownKnob Tryd.prog.godebug = none := by kernel_rfl
theorem laidOut : laidOutB Tryd.prog = true := by kernel_rfl
open Sha
theorem gK : Tryd.prog.globalNamed "bulletin/sha.constants" = some 0 := by kernel_rfl
theorem gKType : (Tryd.prog.globals[0]?).map (·.type) = some 39 := by kernel_rfl
theorem cellsTab : Tryd.prog.cellsOf 39 = 64 := by kernel_rfl
theorem cellsOne : Tryd.prog.cellsOf 36 = 1 := by kernel_rfl
def kInts : List Int := kTab.map fun n : Nat => (n : Int)
theorem laidK {H : Type} : (Rows.laid_bulletin_sha_constants : DataW H) = Lib.tabData .u32 kInts := by rfl
theorem kRow : (kInts.map fun z => Value.int .u32 z).toArray = rowOf .u32 64 kAt := rfl

/-- What the rows' list gives: the table of constants. -/
theorem table {W : World} (h : laidMet Tryd.prog [("bulletin/sha.constants", Rows.laid_bulletin_sha_constants)] W) : Tab W := by
  rw [laidK] at h
  have ht : Lib.TabIs Tryd.prog W "bulletin/sha.constants" .u32 kInts := Lib.tabIs_of_head (rest := []) gK gKType Tryd.underlying39 Tryd.underlying36 cellsOne cellsTab h
  unfold Lib.TabIs World.var? at ht
  rw [gK, kRow] at ht
  simp only [Option.bind_some] at ht
  cases hb : W.heap[0]? with
  | none => rw [hb] at ht; cases ht
  | some o =>
    rw [hb] at ht
    cases o with
    | cells cs t fz =>
      have e : cs = rowOf .u32 64 kAt := Option.some.inj ht
      refine ⟨(Array.getElem?_eq_some_iff.1 hb).1, fun t ht => ?_⟩
      rw [cell_of_row W 0 t cs _ _ hb, e, rowOf_get _ _ _ ht]
    | _ => cases ht

/-- A start for the witness: the heap that the tables' own initialisers leave. -/
noncomputable def laidWorld (os : Os) : World := World.doorLaid Tryd.prog 2000 os
end Go.Proofs.YtnndifkilcommaaDoor
