/-
  A Hash in memory: new, its length.
-/
import Derived.Test.YtnndifkilcommaaDoorShaWalkC
import Derived.Test.YtnndifkilcommaaDoorShaPlainC
import Derived.Test.YtnndifkilcommaaDoorShaKept
import Derived.Laws.AppendOwn
namespace Go.Proofs.YtnndifkilcommaaDoor.Sha
open Go.RowKit

def zeroSt : St := ⟨0, 0, 0, 0, 0, 0, 0, 0⟩
def hashCells (v : St) (f : Nat → Nat) (n : Nat) : Array Value := rowOf .u32 8 (stAt v) ++ (rowOf .u8 64 f ++ #[.int .u64 n])
theorem hashCells_size (v : St) (f : Nat → Nat) (n : Nat) : (hashCells v f n).size = 73 := by
  unfold hashCells; rw [Array.size_append, Array.size_append, rowOf_size, rowOf_size]; rfl
theorem hash_lo (v : St) (f : Nat → Nat) (n j : Nat) (h : j < 8) : (hashCells v f n)[j]? = some (.int .u32 (stAt v j)) := by
  unfold hashCells
  rw [Array.getElem?_append_left (by rw [rowOf_size]; exact h), rowOf_get _ _ _ h]
theorem hash_mid (v : St) (f : Nat → Nat) (n j : Nat) (h : j < 64) : (hashCells v f n)[8 + j]? = some (.int .u8 (f j)) := by
  unfold hashCells
  rw [Array.getElem?_append_right (by rw [rowOf_size]; omega), rowOf_size, show 8 + j - 8 = j by omega, Array.getElem?_append_left (by rw [rowOf_size]; exact h), rowOf_get _ _ _ h]
theorem hash_len (v : St) (f : Nat → Nat) (n : Nat) : (hashCells v f n)[72]? = some (.int .u64 n) := by
  unfold hashCells
  rw [Array.getElem?_append_right (by rw [rowOf_size]; omega), rowOf_size, Array.getElem?_append_right (by rw [rowOf_size]; omega), rowOf_size]; rfl
theorem hash_ext {v : St} {f : Nat → Nat} {n : Nat} {cs : Array Value} (hs : cs.size = 73) (h1 : ∀ j, j < 8 → cs[j]? = some (.int .u32 (stAt v j))) (h2 : ∀ j, j < 64 → cs[8 + j]? = some (.int .u8 (f j))) (h3 : cs[72]? = some (.int .u64 n)) : cs = hashCells v f n := by
  apply Array.ext_getElem?
  intro j
  by_cases a : j < 8
  · rw [h1 j a, hash_lo v f n j a]
  · by_cases b : j < 72
    · obtain ⟨i, rfl⟩ : ∃ i, j = 8 + i := ⟨j - 8, by omega⟩
      rw [h2 i (by omega), hash_mid v f n i (by omega)]
    · by_cases c : j = 72
      · subst c; rw [h3, hash_len]
      · rw [Array.getElem?_eq_none (by omega), Array.getElem?_eq_none (by rw [hashCells_size]; omega)]
theorem hash_one (v : St) (f : Nat → Nat) (n : Nat) : (hashCells v f n).all (·.oneCell') = true := by
  unfold hashCells
  rw [Array.all_append, Array.all_append, rowOf_one, rowOf_one]; simp [Value.oneCell']
theorem size45 : (Tryd.prog.info? 50).map (·.size) = some 73 := by kernel_rfl
theorem rsize45 (v : St) (f : Nat → Nat) (n : Nat) : (Tryd.prog.info? 50).map (·.size) = some (hashCells v f n).size := by rw [hashCells_size]; exact size45
theorem zero45_at : (Tryd.prog.info? 50).map (·.zero) = some (some (.agg (hashCells zeroSt (fun _ => 0) 0))) := by kernel_rfl
theorem zero45 (w : World) : (zeroValue 50).run Tryd.prog w = .ok (.agg (hashCells zeroSt (fun _ => 0) 0)) w := by
  have h := zero45_at
  cases hq : Tryd.prog.info? 50 with
  | none => rw [hq] at h; cases h
  | some i =>
    rw [hq] at h
    have h2 : i.zero = some (.agg (hashCells zeroSt (fun _ => 0) 0)) := by simpa using h
    simp [zeroValue, typeInfo, hq, h2]
theorem build_new : Array.foldl (fun (cs : Array Value) (x : Value × Nat) => cs.setIfInBounds x.snd x.fst) (hashCells zeroSt (fun _ => 0) 0) (rowOf .u32 8 (stAt initSt)).zipIdx 0 (rowOf .u32 8 (stAt initSt)).size = hashCells initSt (fun _ => 0) 0 := by kernel_rfl
theorem isize34 (v : St) : (rowOf .u32 8 (stAt v)).size = 8 := rowOf_size _ _ _
set_option maxRecDepth 100000 in
set_option maxHeartbeats 400000 in
theorem new_at (w : World) : Calls Tryd.prog 22 #[] w fun e w' => ∃ w1, Below w.heap.size w w1 ∧ w' = w1.alloc (.cells (hashCells initSt (fun _ => 0) 0) 50) ∧ e = .returned (.pointer (some ⟨w1.heap.size, 0, none⟩)) := by
  have hz := zero45
  have hb := build_new
  have h1 := hashCells_size zeroSt (fun _ => 0) 0
  have h2 := isize34 initSt
  rw [h2] at hb
  go_enter Tryd.func22, Tryd.ntmps22
  go_wp2_with fail
  refine (init_any _).mono ?_
  rintro e w1 ⟨rfl, hb1⟩
  go_wp2
  go_ret
  exact ⟨w1, hb1, rfl, rfl⟩

/-- A Hash lies at block H, to which m was written. -/
def HashAt (w : World) (H : Nat) (m : List UInt8) : Prop := ∃ f : Nat → Nat, Fill m f ∧ Holds w H (hashCells (comp m (m.length / 64)) f m.length) 50
theorem new_any (w : World) : Calls Tryd.prog 22 #[] w fun e w' => ∃ H, w.heap.size ≤ H ∧ e = .returned (.pointer (some ⟨H, 0, none⟩)) ∧ HashAt w' H [] ∧ Below w.heap.size w w' := by
  refine (new_at w).mono ?_
  rintro e w' ⟨w1, hb, rfl, rfl⟩
  exact ⟨w1.heap.size, hb.size, rfl, ⟨fun _ => 0, fun j hj => by simp at hj, Holds.new _ _ _⟩, hb.alloc hb.size _⟩
theorem HashAt.below {w w' : World} {H B : Nat} {m : List UInt8} (h : HashAt w H m) (hb : Below B w w') (hl : H < B) : HashAt w' H m := by
  obtain ⟨f, hf, hh⟩ := h
  exact ⟨f, hf, hh.below hb hl⟩
theorem HashAt.lt {w : World} {H : Nat} {m : List UInt8} (h : HashAt w H m) : H < w.heap.size := by
  obtain ⟨f, hf, hh⟩ := h
  exact hh.lt
theorem Holds.len {w : World} {H : Nat} {v : St} {f : Nat → Nat} {n : Nat} (h : Holds w H (hashCells v f n) 50) : w.cell? ⟨H, 72, none⟩ = some (.int .u64 n) := by rw [h.cell, hash_len]
end Go.Proofs.YtnndifkilcommaaDoor.Sha
