/-
  What the world's shape tells of internal/bytealg.MaxLen.
-/
import Derived.Test.YtobnckbpgckgjaaDoorQpDecode
import Derived.ProofKit
import Derived.ChangeSame
import Derived.Shelf.Vars
namespace Go.Proofs.YtobnckbpgckgjaaDoor.Qp
open Go Go.RowKit Go.ChangeShapes Go.WideShapes Go.ChangeAt

theorem maxAt_of_shape {W : World} (h : W.ShapedOpen Tryd.prog) : MaxAt W :=
  Go.Proofs.cell_of_shapedOpen_int (zero := #[.int .i64 0]) (t := 3) h (of_decide_eq_true (by kernel_rfl)) (by kernel_rfl) rfl (by kernel_rfl) (by kernel_rfl) Tryd.underlying3
end Go.Proofs.YtobnckbpgckgjaaDoor.Qp
