/-
  Walks of the document's answer: Set, every entry.
-/
import Derived.Test.YtoknflnoehmngaaDoorCellSetA
import Derived.Test.YtoknflnoehmngaaDoorCellSetB
import Derived.Test.YtoknflnoehmngaaDoorCellSetC
namespace Go.Proofs.YtoknflnoehmngaaDoor.Cell
open Go Go.RowKit

theorem set_any (v : Value) (q : List Ent) (e : Ent) (w : World) (h : ReadsE w v q) (hf : q.length ≤ 1000) (hr : Rising Ent.name q) :
    Calls Tryd.prog 11 #[v, entV e] w fun r w' => ∃ ov, r = .returned ov ∧ w'.ownsRow w.heap.size 32 6 ov (sets Ent.name (okB e) e q).length ((sets Ent.name (okB e) e q).flatMap entC) ∧ Below w.heap.size w w' := by
  have hk3 : (e.v.kind < 1 ∧ okB e = false) ∨ (¬ e.v.kind < 1 ∧ 4 < e.v.kind ∧ okB e = false) ∨ (¬ e.v.kind < 1 ∧ ¬ 4 < e.v.kind ∧ okB e = true) := by
    unfold okB okKind
    by_cases h1 : e.v.kind < 1
    · exact .inl ⟨h1, by simp; omega⟩
    · by_cases h2 : 4 < e.v.kind
      · exact .inr (.inl ⟨h1, h2, by simp; omega⟩)
      · exact .inr (.inr ⟨h1, h2, by simp; omega⟩)
  rcases hk3 with ⟨hk1, hok⟩ | ⟨hk1, hk2, hok⟩ | ⟨hk1, hk2, hok⟩
  · exact set_A v q e w h hf hr hk1 hok
  · exact set_B v q e w h hf hr hk1 hk2 hok
  · exact set_C v q e w h hf hr hk1 hk2 hok
end Go.Proofs.YtoknflnoehmngaaDoor.Cell
