/-
  Rows of numbers in memory, told by a function of the place.
-/
import Derived.Test.YtpkgbjbjdbjlhaaCodeBits
import Derived.Below
import Derived.Laws.Rows
import Derived.Laws.Tables
namespace Go.Proofs.Ytpkgbjbjdbjlhaa.Code
open Go.RowKit

def rowOf (k : IntKind) (n : Nat) (g : Nat → Nat) : Array Value := ((List.range n).map fun j => Value.int k (g j)).toArray
def upd (g : Nat → Nat) (i v : Nat) : Nat → Nat := fun j => if j = i then v else g j
theorem rowOf_size (k : IntKind) (n : Nat) (g : Nat → Nat) : (rowOf k n g).size = n := by simp [rowOf]
theorem rowOf_get (k : IntKind) (n : Nat) (g : Nat → Nat) {j : Nat} (h : j < n) : (rowOf k n g)[j]? = some (.int k (g j)) := by
  simp [rowOf, h]
theorem rowOf_congr {k : IntKind} {n : Nat} {g g' : Nat → Nat} (h : ∀ j, j < n → g j = g' j) : rowOf k n g = rowOf k n g' := by
  unfold rowOf
  congr 1
  apply List.map_congr_left
  intro j hj
  rw [h j (by simpa using hj)]
theorem rowOf_set (k : IntKind) (n : Nat) (g : Nat → Nat) (i v : Nat) : (rowOf k n g).setIfInBounds i (.int k v) = rowOf k n (upd g i v) := by
  apply Array.ext_getElem?
  intro j
  by_cases hj : j < n
  · rw [rowOf_get k n _ hj, Array.getElem?_setIfInBounds]
    unfold upd
    by_cases hij : i = j
    · subst hij; simp [rowOf_size, hj]
    · rw [if_neg hij, if_neg (fun e => hij e.symm), rowOf_get k n g hj]
  · rw [Array.getElem?_eq_none (by simp [rowOf_size]; omega), Array.getElem?_eq_none (by simp [rowOf_size]; omega)]

/-- A block of memory that lies there whole, and may be written. -/
def Holds (w : World) (b : Nat) (cs : Array Value) (t : TypeId) : Prop := w.heap[b]? = some (.cells cs t (0, 0))
theorem Holds.lt {w : World} {b : Nat} {cs : Array Value} {t : TypeId} (h : Holds w b cs t) : b < w.heap.size := by
  by_cases hl : b < w.heap.size
  · exact hl
  · have : w.heap[b]? = none := by simp; omega
    rw [Holds, this] at h
    cases h
theorem Holds.cell {w : World} {b : Nat} {cs : Array Value} {t : TypeId} (h : Holds w b cs t) (j : Nat) : w.cell? ⟨b, j, none⟩ = cs[j]? := cell_of_row w b j cs t (0, 0) h
theorem Holds.free {w : World} {b : Nat} {cs : Array Value} {t : TypeId} (h : Holds w b cs t) (j : Nat) : w.frozen? ⟨b, j, none⟩ = false := frozen_of_row w b j cs t h
theorem Holds.num {w : World} {b n : Nat} {k : IntKind} {g : Nat → Nat} {t : TypeId} (h : Holds w b (rowOf k n g) t) {j : Nat} (hj : j < n) : w.cell? ⟨b, j, none⟩ = some (.int k (g j)) := by
  rw [h.cell, rowOf_get k n g hj]
theorem Holds.alloc {w : World} {b : Nat} {cs : Array Value} {t : TypeId} (h : Holds w b cs t) (o : Obj) : Holds (w.alloc o) b cs t := by
  unfold Holds; rw [Below.heap_alloc w o b h.lt]; exact h
theorem Holds.new (w : World) (cs : Array Value) (t : TypeId) : Holds (w.alloc (.cells cs t)) w.heap.size cs t := heap_alloc_new w _
theorem Holds.below {w w' : World} {b B : Nat} {cs : Array Value} {t : TypeId} (h : Holds w b cs t) (hb : Below B w w') (hl : b < B) : Holds w' b cs t := by
  have := hb.block b hl
  unfold Holds at h ⊢
  rw [this]; exact h
theorem Holds.drewN {w : World} {b : Nat} {cs : Array Value} {t : TypeId} (h : Holds w b cs t) (n : Nat) : Holds (w.drewN n) b cs t := by
  have : (w.drewN n).heap = w.heap := by simp
  unfold Holds; rw [this]; exact h
theorem Holds.set {w : World} {b n : Nat} {k : IntKind} {g : Nat → Nat} {t : TypeId} (h : Holds w b (rowOf k n g) t) (i v : Nat) : Holds (w.setCell ⟨b, i, none⟩ (.int k v)) b (rowOf k n (upd g i v)) t := by
  unfold Holds
  rw [heap_setCell_same w b i _ t _ h, rowOf_set]
theorem Holds.other {w : World} {b c i : Nat} {cs : Array Value} {t : TypeId} (h : Holds w b cs t) (v : Value) (hne : b ≠ c) : Holds (w.setCell ⟨c, i, none⟩ v) b cs t := by
  unfold Holds
  rw [heap_setCell_other w ⟨c, i, none⟩ b v hne]; exact h
theorem Holds.row {w : World} {b : Nat} {cs : Array Value} {t : TypeId} (h : Holds w b cs t) (cs' : Array Value) : Holds (w.setRow b cs') b cs' t := setRow_heap w b cs cs' t (0, 0) h
theorem Holds.row_other {w : World} {b c : Nat} {cs : Array Value} {t : TypeId} (h : Holds w b cs t) (cs' : Array Value) (hne : b ≠ c) : Holds (w.setRow c cs') b cs t := by
  unfold Holds; rw [setRow_other w c b cs' hne]; exact h
theorem below_row {B : Nat} {w wr : World} (h : Below B w wr) (g : Nat) (cs : Array Value) (hg : B ≤ g) : Below B w (wr.setRow g cs) :=
  ⟨h.os, h.tape, h.output, by simpa using h.size, fun k hk => (setRow_other wr g k cs (by omega)).trans (h.block k hk)⟩
theorem rowOf_one (k : IntKind) (n : Nat) (g : Nat → Nat) : (rowOf k n g).all (·.oneCell') = true := by
  rw [Array.all_eq_true_iff_forall_mem]
  intro v hv
  obtain ⟨j, _, rfl⟩ : ∃ j, j < n ∧ Value.int k (g j) = v := by simpa [rowOf] using hv
  rfl
theorem conv_row (w : World) (b n : Nat) (g : Nat → Nat) (t : TypeId) (h : Holds w b (rowOf .u8 n g) t) :
    (convert 39 9 (.slice (some ⟨b, 0, none⟩) n n)).run Try.prog w = .ok (.string (ba ((List.range n).map fun j => byt (g j)))) w := by
  have e := run_convert_bytes_arg (P := Try.prog) w 39 5 Try.underlying39 Try.underlying5 b 0 n n ((List.range n).map fun j => (g j : Int)) (by simp) (fun i hi => by
    rw [Nat.zero_add, h.num hi]
    simp [hi]) 9 Try.underlying9
  rw [e]
  have : strOfNums ((List.range n).map fun j => (g j : Int)) = ba ((List.range n).map fun j => byt (g j)) := by
    unfold strOfNums ba byt
    simp
  rw [this]

end Go.Proofs.Ytpkgbjbjdbjlhaa.Code
