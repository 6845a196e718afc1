/-
  What the laws' frames share.
-/
import Derived.Test.YtpkgbjbjdbjlhaaRows
import Derived.Test.YtpkgbjbjdbjlhaaLaw
import Derived.Deep.DeepHandedRow
import Derived.LaidMore
import Derived.Lib.LaidTab
import Derived.Stop.LaidErr
import Derived.Laws.BitsAllLaws
namespace Go.Proofs.Ytpkgbjbjdbjlhaa
open Go.ChangeShapes Go.WideShapes Go.ChangeAt Go.RowKit

theorem own : ownKnob Try.prog.godebug = none := by kernel_rfl
theorem laidOut : laidOutB Try.prog = true := by kernel_rfl
theorem nat_u64 {n : Int} (h : (Lit.int .u64 n).wf = true) : ∃ m : Nat, n = (m : Int) ∧ m < 18446744073709551616 := by
  have := bounds_u64 h
  exact ⟨n.toNat, by omega, by omega⟩
/-- A start for the witness: the heap that the tables' own initialisers leave. -/
noncomputable def laidWorld (os : Os) : World := World.doorLaid Try.prog 2000 os
end Go.Proofs.Ytpkgbjbjdbjlhaa
