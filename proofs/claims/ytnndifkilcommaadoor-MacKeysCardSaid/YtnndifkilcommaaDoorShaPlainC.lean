/-
  A message in progress: its words, and the bytes that fill no block yet.
-/
import Derived.Test.YtnndifkilcommaaDoorShaPlainB
namespace Go.Proofs.YtnndifkilcommaaDoor.Sha

theorem byteAt_append (m s : List UInt8) (j : Nat) : byteAt (m ++ s) j = if j < m.length then byteAt m j else byteAt s (j - m.length) := by
  unfold byteAt
  rw [List.getD_eq_getElem?_getD, List.getElem?_append]
  split
  · rw [List.getD_eq_getElem?_getD]
  · rw [List.getD_eq_getElem?_getD]
theorem byteAt_take (s : List UInt8) (k j : Nat) (h : j < k) : byteAt (s.take k) j = byteAt s j := by
  unfold byteAt
  rw [List.getD_eq_getElem?_getD, List.getElem?_take, if_pos h, List.getD_eq_getElem?_getD]
theorem byteAt_drop (s : List UInt8) (k j : Nat) : byteAt (s.drop k) j = byteAt s (k + j) := by
  unfold byteAt
  rw [List.getD_eq_getElem?_getD, List.getElem?_drop, List.getD_eq_getElem?_getD]
theorem comp_prefix (m s : List UInt8) : ∀ n, 64 * n ≤ m.length → comp (m ++ s) n = comp m n
  | 0, _ => rfl
  | n + 1, h => by
    show blockSt (comp (m ++ s) n) (((m ++ s).drop (64 * n)).take 64) = blockSt (comp m n) ((m.drop (64 * n)).take 64)
    rw [comp_prefix m s n (by omega), List.drop_append_of_le_length (by omega), List.take_append_of_le_length (by simp; omega)]
/-- What lies in the block, once k bytes of s have come in at place r. -/
def putF (f : Nat → Nat) (r k : Nat) (s : List UInt8) : Nat → Nat := fun j => if r ≤ j ∧ j < r + k then byteAt s (j - r) else f j
def Fill (m : List UInt8) (f : Nat → Nat) : Prop := ∀ j, j < m.length % 64 → f j = byteAt m (64 * (m.length / 64) + j)
theorem put_at (m t : List UInt8) (f : Nat → Nat) (k j : Nat) (_hk : k ≤ t.length) (hf : Fill m f) (hj : j < m.length % 64 + k) :
    putF f (m.length % 64) k t j = byteAt (m ++ t.take k) (64 * (m.length / 64) + j) := by
  unfold putF
  rw [byteAt_append]
  by_cases h : m.length % 64 ≤ j
  · rw [if_pos ⟨h, hj⟩, if_neg (by omega), byteAt_take _ _ _ (by omega)]
    congr 1; omega
  · rw [if_neg (fun g => h g.1), if_pos (by omega)]
    exact hf j (by omega)
theorem step_part (m t : List UInt8) (f : Nat → Nat) (k : Nat) (hk : k ≤ t.length) (hr : m.length % 64 + k < 64) (hf : Fill m f) :
    comp (m ++ t.take k) ((m ++ t.take k).length / 64) = comp m (m.length / 64) ∧ (m ++ t.take k).length = m.length + k ∧ Fill (m ++ t.take k) (putF f (m.length % 64) k t) := by
  have hl : (m ++ t.take k).length = m.length + k := by simp; omega
  have hq : (m.length + k) / 64 = m.length / 64 := by omega
  have hm : (m.length + k) % 64 = m.length % 64 + k := by omega
  refine ⟨?_, hl, fun j hj => ?_⟩
  · rw [hl, hq, comp_prefix _ _ _ (by omega)]
  · rw [hl] at hj ⊢
    rw [hq]
    exact put_at m t f k j hk hf (by omega)
theorem step_full (m t : List UInt8) (f : Nat → Nat) (k : Nat) (hk : k ≤ t.length) (hr : m.length % 64 + k = 64) (hf : Fill m f) :
    comp (m ++ t.take k) ((m ++ t.take k).length / 64) = blockSt (comp m (m.length / 64)) (((m ++ t.take k).drop (64 * (m.length / 64))).take 64) ∧ (m ++ t.take k).length = m.length + k ∧
      (∀ g, Fill (m ++ t.take k) g) ∧ ∀ j, j < 64 → putF f (m.length % 64) k t j = byteAt (((m ++ t.take k).drop (64 * (m.length / 64))).take 64) j := by
  have hl : (m ++ t.take k).length = m.length + k := by simp; omega
  have hq : (m.length + k) / 64 = m.length / 64 + 1 := by omega
  refine ⟨?_, hl, fun g j hj => ?_, fun j hj => ?_⟩
  · rw [hl, hq]
    show blockSt (comp (m ++ t.take k) (m.length / 64)) _ = _
    rw [comp_prefix _ _ _ (by omega)]
  · rw [hl] at hj; omega
  · rw [byteAt_take _ _ _ hj, byteAt_drop]
    exact put_at m t f k j hk hf (by omega)
end Go.Proofs.YtnndifkilcommaaDoor.Sha
