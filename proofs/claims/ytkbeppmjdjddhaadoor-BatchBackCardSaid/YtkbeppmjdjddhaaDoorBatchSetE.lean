/-
  Walks of the document's answer: Set, all ways.
-/
import Derived.Test.YtkbeppmjdjddhaaDoorBatchSetA
import Derived.Test.YtkbeppmjdjddhaaDoorBatchSetB
import Derived.Test.YtkbeppmjdjddhaaDoorBatchSetC
import Derived.Test.YtkbeppmjdjddhaaDoorBatchSetD
namespace Go.Proofs.YtkbeppmjdjddhaaDoor.Batch
open Go Go.RowKit

theorem refSet_any (v : Value) (q : List Chg) (c : Chg) (w : World) (h : ReadsC w v q) (hg : Good q) (hk1 : c.key.size ≤ 9223372036854775807) (hv1 : c.val.size ≤ 9223372036854775807) :
    Calls Tryd.prog 31 #[v, chV c] w (SetPost w v q c.norm) := by
  obtain ⟨k, v0, g⟩ := c
  by_cases hc : chk (Chg.norm ⟨k, v0, g⟩) = 0
  · cases hat : at? Chg.key (Chg.norm ⟨k, v0, g⟩).key q with
    | some y => cases g
                · exact set_old_false v q k v0 _ w rfl h hg hk1 hv1 hc y hat
                · exact set_old_true v q k v0 _ w rfl h hg hk1 hv1 hc y hat
    | none => by_cases hf : q.length < 2000
              · cases g
                · exact set_new_false v q k v0 _ w rfl h hg hk1 hv1 hc hat hf
                · exact set_new_true v q k v0 _ w rfl h hg hk1 hv1 hc hat hf
              · cases g
                · exact set_full_false v q k v0 _ w rfl h hg hk1 hv1 hc hat (by omega)
                · exact set_full_true v q k v0 _ w rfl h hg hk1 hv1 hc hat (by omega)
  · cases g
    · exact set_bad_false v q k v0 _ w rfl h hg hk1 hv1 hc
    · exact set_bad_true v q k v0 _ w rfl h hg hk1 hv1 hc
end Go.Proofs.YtkbeppmjdjddhaaDoor.Batch
