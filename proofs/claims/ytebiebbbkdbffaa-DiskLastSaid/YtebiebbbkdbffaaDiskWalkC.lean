/-
  Walks of the program's disk, third part: tear.
-/
import Derived.Test.YtebiebbbkdbffaaDiskWalkB
namespace Go.Proofs.Ytebiebbbkdbffaa.Disk
open Go Go.RowKit
open Go.Proofs.Ytebiebbbkdbffaa.Sha (wp_region_drawn_tail wp_region_kept_tail quiet_load_row)

abbrev wV (x : Wr) : Value := .agg #[.int .i64 x.p, .string x.s]
theorem sizeWr : (Try.prog.info? 70).map (·.size) = some 2 := by kernel_rfl

theorem new_at {w : World} {o : Obj} {n : Nat} (h : w.heap.size = n) : (w.alloc o).heap[n]? = some o := by subst h; exact heap_alloc_new w o
theorem boxes {w : World} (a b : Obj) : Below w.heap.size w ((w.alloc a).alloc b) := ((Below.refl _ _).alloc (Nat.le_refl _) _).alloc (by simp) _
theorem Lies.drewN {w : World} {b : Nat} {cs : Array Value} {t : TypeId} (h : Lies w b cs t) (n : Nat) : Lies (w.drewN n) b cs t := by
  have : (w.drewN n).heap = w.heap := by simp
  unfold Lies at h ⊢
  rw [this]; exact h
/-- A box of two cells, laid as the second one, drawn behind, and written. -/
theorem two_box {w : World} (a : Obj) (x y : Value) (c0 c1 : Value) (t : TypeId) (n : Nat) :
    Lies (((((w.alloc a).alloc (.cells #[x, y] t)).drewN n).setCell ⟨w.heap.size + 1, 0, none⟩ c0).setCell ⟨w.heap.size + 1, 1, none⟩ c1) (w.heap.size + 1) #[c0, c1] t ∧
    Below w.heap.size w (((((w.alloc a).alloc (.cells #[x, y] t)).drewN n).setCell ⟨w.heap.size + 1, 0, none⟩ c0).setCell ⟨w.heap.size + 1, 1, none⟩ c1) := by
  have h : Lies ((w.alloc a).alloc (.cells #[x, y] t)) (w.heap.size + 1) #[x, y] t := new_at (by simp)
  exact ⟨((h.drewN n).set 0 c0).set 1 c1, ((below_drewN (boxes _ _) n).setCell (Nat.le_succ _) _).setCell (Nat.le_succ _) _⟩
section
variable {w : World} {d : Dk} {R : Raw}
set_option maxHeartbeats 1000000 in
theorem tear_whole (h : Mem w d R) (x : Wr) (torn : Int) (ht : torn? R.z torn = false) : Calls Try.prog 32 #[ptr d.pb, wV x, .int .i64 torn] w fun e w' => e = .returned (wV x) ∧ Below w.heap.size w w' := by
  obtain ⟨c0, c1, c2, c3, c4, c5, c6, c7⟩ := h.cells
  have hlt := h.self.lt
  clear h
  have ht2 : torn < 0 ∨ (0 ≤ torn ∧ (R.z : Int) ≤ torn) := by
    unfold torn? at ht
    rw [Bool.and_eq_false_iff, decide_eq_false_iff_not, decide_eq_false_iff_not] at ht
    omega
  clear ht
  rcases ht2 with h1 | ⟨h1, h2⟩
  all_goals
    go_enter Try.func32, Try.ntmps32
    go_wp2
    exact bodyPost_ret (v := wV x) (results_cell_row Try.results32 _ _ (w.heap.size + 1) 70 _ (0, 0) _ rfl (new_at (by simp)) Try.underlying70 rfl sizeWr) rfl ⟨rfl, boxes _ _⟩
set_option maxHeartbeats 1000000 in
theorem tear_part (h : Mem w d R) (x : Wr) (k : Nat) (hk : k < R.z) (hx : x.p < R.dur.length) (hs : x.s.size = R.z) (hz : R.z ≤ 256) (ha : (at0 R.dur x.p).size = R.z) (_hl : R.dur.length ≤ 4096) :
    Calls Try.prog 32 #[ptr d.pb, wV x, .int .i64 k] w fun e w' => e = .returned (wV ⟨x.p, x.s.extract 0 k ++ (at0 R.dur x.p).extract k R.z⟩) ∧ Below w.heap.size w w' := by
  obtain ⟨c0, c1, c2, c3, c4, c5, c6, c7⟩ := h.cells
  have hc := h.durAt hx
  obtain ⟨h1, h2, -⟩ := h.lts
  clear h
  have e1 := (extract_full x.s hs k (by omega)).1
  have e2 := (extract_full (at0 R.dur x.p) ha k (by omega)).2
  generalize at0 R.dur x.p = y at *
  go_enter Try.func32, Try.ntmps32
  go_wp2
  refine wp_region_drawn_tail 18 (by kernel_rfl) (by kernel_rfl) ?_
  simp only [List.take_succ_cons, List.take_zero, List.drop_succ_cons, List.drop_zero]
  repeat (go_big_quiet_step (fail))
  refine wpQuiet_nil ?_
  rintro _ ⟨nq, rfl⟩
  go_wp2
  have hB := two_box (w := w) (.cells #[.int .i64 x.p, .string x.s] 70) (.int .i64 0) (.string ⟨#[]⟩) (.int .i64 x.p) (.string (x.s.extract 0 k ++ y.extract k R.z)) 70 nq
  exact bodyPost_ret (v := wV ⟨x.p, x.s.extract 0 k ++ y.extract k R.z⟩) (results_cell_row Try.results32 _ _ (w.heap.size + 1) 70 _ (0, 0) _ rfl hB.1 Try.underlying70 rfl sizeWr) rfl ⟨rfl, hB.2⟩
theorem tear_any (h : Mem w d R) (x : Wr) (torn : Int) (hx : x.p < R.dur.length) (hs : x.s.size = R.z) (hz : R.z ≤ 256) (ha : (at0 R.dur x.p).size = R.z) (hl : R.dur.length ≤ 4096) :
    Calls Try.prog 32 #[ptr d.pb, wV x, .int .i64 torn] w fun e w' => e = .returned (wV (tear R.z torn R.dur x)) ∧ Below w.heap.size w w' := by
  unfold tear
  cases ht : torn? R.z torn
  · exact tear_whole h x torn ht
  · unfold torn? at ht
    simp only [Bool.and_eq_true, decide_eq_true_eq] at ht
    obtain ⟨k, rfl⟩ := Int.eq_ofNat_of_zero_le ht.1
    exact tear_part h x k (by omega) hx hs hz ha hl
end
end Go.Proofs.Ytebiebbbkdbffaa.Disk
