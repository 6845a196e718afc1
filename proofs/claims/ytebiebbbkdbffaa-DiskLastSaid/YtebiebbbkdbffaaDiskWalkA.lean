/-
  Walks of the program's disk, first part: what reads, Cut, Fill, operate, outcome.
-/
import Derived.Test.YtebiebbbkdbffaaDiskBase
namespace Go.Proofs.Ytebiebbbkdbffaa.Disk
open Go Go.RowKit

section
variable {w : World} {d : Dk} {R : Raw}
theorem off_any (h : Mem w d R) : Calls Try.prog 13 #[ptr d.pb] w fun e w' => e = .returned (.bool R.off) ∧ w = w' := by
  obtain ⟨c0, c1, c2, c3, c4, c5, c6, c7⟩ := h.cells
  clear h
  go_enter Try.func13, Try.ntmps13
  go_wp2
  go_ret
  exact ⟨rfl, rfl⟩
theorem ops_any (h : Mem w d R) : Calls Try.prog 27 #[ptr d.pb] w fun e w' => e = .returned (.int .i64 R.ops) ∧ w = w' := by
  obtain ⟨c0, c1, c2, c3, c4, c5, c6, c7⟩ := h.cells
  clear h
  go_enter Try.func27, Try.ntmps27
  go_wp2
  go_ret
  exact ⟨rfl, rfl⟩
theorem size_any (h : Mem w d R) : Calls Try.prog 29 #[ptr d.pb] w fun e w' => e = .returned (.int .i64 R.z) ∧ w = w' := by
  obtain ⟨c0, c1, c2, c3, c4, c5, c6, c7⟩ := h.cells
  clear h
  go_enter Try.func29, Try.ntmps29
  go_wp2
  go_ret
  exact ⟨rfl, rfl⟩
theorem sectors_any (h : Mem w d R) : Calls Try.prog 28 #[ptr d.pb] w fun e w' => e = .returned (.int .i64 R.dur.length) ∧ w = w' := by
  obtain ⟨c0, c1, c2, c3, c4, c5, c6, c7⟩ := h.cells
  clear h
  go_enter Try.func28, Try.ntmps28
  go_wp2
  go_ret
  exact ⟨rfl, rfl⟩
theorem cached_any (h : Mem w d R) : Calls Try.prog 16 #[ptr d.pb] w fun e w' => e = .returned (.int .i64 R.cache.length) ∧ w = w' := by
  obtain ⟨c0, c1, c2, c3, c4, c5, c6, c7⟩ := h.cells
  obtain ⟨a, c, e⟩ := h.shape
  rw [e] at c3
  clear h e
  go_enter Try.func16, Try.ntmps16
  go_wp2
  go_ret
  exact ⟨rfl, rfl⟩
theorem has_any (h : Mem w d R) (i : Int) : Calls Try.prog 30 #[ptr d.pb, .int .i64 i] w fun e w' => e = .returned (.bool (decide (0 ≤ i) && decide (i < R.dur.length))) ∧ w = w' := by
  obtain ⟨c0, c1, c2, c3, c4, c5, c6, c7⟩ := h.cells
  clear h
  cases h0 : decide (0 ≤ i) <;> cases h1 : decide (i < (R.dur.length : Int))
  all_goals
    go_enter Try.func30, Try.ntmps30
    go_wp2
    go_ret
    exact ⟨rfl, rfl⟩
theorem cut_any (h : Mem w d R) (x : Int) : Calls Try.prog 12 #[ptr d.pb, .int .i64 x] w fun e w' => e = .returned (.tuple #[]) ∧ Mem w' d { R with left := x } ∧ Fr (own d) w w' := by
  obtain ⟨c0, c1, c2, c3, c4, c5, c6, c7⟩ := h.cells
  have f4 := h.free 4
  have HD := Lib.hid (And.intro (h.setLeft x) ((Fr.refl (own d) w).pbAt 4 (.int .i64 x)))
  clear h
  go_enter Try.func12, Try.ntmps12
  go_wp2
  go_end0
  exact ⟨rfl, HD.out⟩
theorem fill_any (h : Mem w d R) (x : Bool) : Calls Try.prog 24 #[ptr d.pb, .bool x] w fun e w' => e = .returned (.tuple #[]) ∧ Mem w' d { R with full := x } ∧ Fr (own d) w w' := by
  obtain ⟨c0, c1, c2, c3, c4, c5, c6, c7⟩ := h.cells
  have f5 := h.free 5
  have HD := Lib.hid (And.intro (h.setFull x) ((Fr.refl (own d) w).pbAt 5 (.bool x)))
  clear h
  go_enter Try.func24, Try.ntmps24
  go_wp2
  go_end0
  exact ⟨rfl, HD.out⟩
theorem outcome_any (w : World) (b : Bool) : Calls Try.prog 38 #[.bool b] w fun e w' => e = .returned (.int .i64 (if b then 80 else 0)) ∧ w = w' := by
  cases b
  all_goals
    go_enter Try.func38, Try.ntmps38
    go_wp2
    go_ret
    exact ⟨rfl, rfl⟩
end
end Go.Proofs.Ytebiebbbkdbffaa.Disk
