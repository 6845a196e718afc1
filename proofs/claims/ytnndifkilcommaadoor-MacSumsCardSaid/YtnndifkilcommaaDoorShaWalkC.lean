/-
  The first words, and the constants.
-/
import Derived.Test.YtnndifkilcommaaDoorShaWalkB
namespace Go.Proofs.YtnndifkilcommaaDoor.Sha
open Go.RowKit

theorem row8_init : (#[.int .u32 1779033703, .int .u32 3144134277, .int .u32 1013904242, .int .u32 2773480762, .int .u32 1359893119, .int .u32 2600822924, .int .u32 528734635, .int .u32 1541459225] : Array Value) = rowOf .u32 8 (stAt initSt) := rfl
theorem row64_k : (kTab.map fun n : Nat => Value.int .u32 (n : Int)).toArray = rowOf .u32 64 kAt := rfl

set_option maxRecDepth 100000 in
set_option maxHeartbeats 400000 in
theorem init_any (w : World) : Calls Tryd.prog 26 #[] w fun e w' => e = .returned (.agg (rowOf .u32 8 (stAt initSt))) ∧ Below w.heap.size w w' := by
  go_enter Tryd.func26, Tryd.ntmps26
  go_wp2
  exact bodyPost_ret (v := .agg (rowOf .u32 8 (stAt initSt))) (results_cell_row Tryd.results26 _ _ w.heap.size 37 _ (0, 0) _ rfl (heap_alloc_new _ _) Tryd.underlying37 rfl (rsize34 .u32 (stAt initSt))) rfl ⟨rfl, (Below.refl _ _).alloc (Nat.le_refl _) _⟩
set_option maxRecDepth 100000 in
set_option maxHeartbeats 400000 in
theorem begin_any (w : World) : Calls Tryd.prog 17 #[] w fun e w' => e = .returned (.agg (rowOf .u32 8 (stAt initSt))) ∧ Below w.heap.size w w' := by
  go_enter Tryd.func17, Tryd.ntmps17
  go_wp2
  exact bodyPost_ret (v := .agg (rowOf .u32 8 (stAt initSt))) (results_cell_row Tryd.results17 _ _ w.heap.size 37 _ (0, 0) _ rfl (heap_alloc_new _ _) Tryd.underlying37 rfl (rsize34 .u32 (stAt initSt))) rfl ⟨rfl, (Below.refl _ _).alloc (Nat.le_refl _) _⟩
set_option maxRecDepth 100000 in
set_option maxHeartbeats 1000000 in
theorem constants_any (w : World) : Calls Tryd.prog 18 #[] w fun e w' => e = .returned (.agg (rowOf .u32 64 kAt)) ∧ Below w.heap.size w w' := by
  go_enter Tryd.func18, Tryd.ntmps18
  go_wp2_with ((refine wpList_store_row rfl 39 _ _ rfl _ (rowOf .u32 64 kAt) rfl rfl 39 _ (heap_alloc_new _ _) (rsize36 _ _) (by rw [rowOf_size]; rfl) (rowOf_one _ _ _) ?_))
  exact bodyPost_ret (v := .agg (rowOf .u32 64 kAt)) (results_cell_row Tryd.results18 _ _ w.heap.size 39 _ (0, 0) _ rfl ((Holds.new _ _ _).row _) Tryd.underlying39 rfl (rsize36 .u32 kAt)) rfl ⟨rfl, below_row ((Below.refl _ _).alloc (Nat.le_refl _) _) _ _ (Nat.le_refl _)⟩

end Go.Proofs.YtnndifkilcommaaDoor.Sha
