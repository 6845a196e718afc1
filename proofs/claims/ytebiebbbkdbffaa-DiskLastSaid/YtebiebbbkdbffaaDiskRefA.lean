/-
  The document's disk: its value; Right, an operation, a write that lands.
-/
import Derived.Test.YtebiebbbkdbffaaDiskWalkK
import Derived.Laws.ResultCell
namespace Go.Proofs.Ytebiebbbkdbffaa.Disk
open Go Go.RowKit
open Go.Proofs.Ytebiebbbkdbffaa.Sha (wp_region_drawn_tail wp_region_kept_tail quiet_load_row)

abbrev qT : TypeId := 33
abbrev wqT : TypeId := 50
def qC (S : St) (lv cv : Value) : Array Value := #[.int .i64 S.z, lv, cv, .int .i64 S.left, .bool S.off, .bool S.full, .int .i64 S.ops]
abbrev qV (S : St) (lv cv : Value) : Value := .agg #[.int .i64 S.z, lv, cv, .int .i64 S.left, .bool S.off, .bool S.full, .int .i64 S.ops]
theorem sizeQ : (Try.prog.info? 33).map (·.size) = some 7 := by kernel_rfl
theorem sizeWq : (Try.prog.info? 50).map (·.size) = some 2 := by kernel_rfl
theorem infoWq : (Try.prog.info? 50).map (fun i => (i.zero.map (·.cells.size), i.size, i.bytes)) = some (some 2, 2, 24) := by kernel_rfl
theorem results_row2 {P : Program} {fn : Func} {p u : Tmp} {ty : TypeId} (h : fn.results = #[.cell p ty, .tmp u]) (tmps : Array Value) (w : World) (g : Nat) (t : TypeId) (cs : Array Value) (fr : Nat × Nat) (d : TypeDesc)
    (hp : tmps.getD p undef = .pointer (some ⟨g, 0, none⟩)) (hg : w.heap[g]? = some (.cells cs t fr))
    (hu : P.underlying ty = some d) (hd : (match d with | .struct _ | .array _ _ => true | _ => false) = true) (hi : (P.info? ty).map (·.size) = some cs.size) :
    (results fn tmps).run P w = .ok (.tuple #[.agg cs, tmps.getD u undef]) w := by
  have hp' : tmps[p]?.getD undef = .pointer (some ⟨g, 0, none⟩) := by simpa using hp
  simp [results, h, hp', asAddr, run_loadVar_row w g t ty cs fr d hg hu hd hi]
theorem right_any (w : World) (n z : Int) : Calls Try.prog 7 #[.int .i64 n, .int .i64 z] w fun e w' => e = .returned (.bool (decide (4 ≤ n ∧ n ≤ 4096 ∧ 16 ≤ z ∧ z ≤ 256))) ∧ w = w' := by
  rcases (show n < 4 ∨ (4 ≤ n ∧ 4096 < n) ∨ (4 ≤ n ∧ n ≤ 4096 ∧ z < 16) ∨ (4 ≤ n ∧ n ≤ 4096 ∧ 16 ≤ z ∧ 256 < z) ∨ (4 ≤ n ∧ n ≤ 4096 ∧ 16 ≤ z ∧ z ≤ 256) by omega) with h | ⟨h1, h⟩ | ⟨h1, h2, h⟩ | ⟨h1, h2, h3, h⟩ | ⟨h1, h2, h3, h⟩
  · rw [decide_eq_false (by omega)]
    go_enter Try.func7, Try.ntmps7
    go_wp2_with fail
    go_ret
    exact ⟨rfl, rfl⟩
  · rw [decide_eq_false (by omega)]
    go_enter Try.func7, Try.ntmps7
    go_wp2_with fail
    go_ret
    exact ⟨rfl, rfl⟩
  · rw [decide_eq_false (by omega)]
    go_enter Try.func7, Try.ntmps7
    go_wp2_with fail
    go_ret
    exact ⟨rfl, rfl⟩
  · rw [decide_eq_false (by omega)]
    go_enter Try.func7, Try.ntmps7
    go_wp2_with fail
    go_ret
    refine ⟨?_, rfl⟩
    show Ending.returned (.bool (decide (z ≤ 256))) = _
    rw [decide_eq_false (by omega)]
  · rw [decide_eq_true (by omega)]
    go_enter Try.func7, Try.ntmps7
    go_wp2_with fail
    go_ret
    exact ⟨rfl, rfl⟩
theorem two_q (w : World) (o : Obj) (cs _cs' : Array Value) (t : TypeId) : Lies ((w.alloc o).alloc (.cells cs t)) (w.heap.size + 1) cs t := new_at (by simp)
theorem new_drew {w : World} {o : Obj} {n : Nat} (h : w.heap.size = n) : (w.alloc o).drew.heap[n]? = some o := new_at h
/-- An operation, where the power is on. -/
theorem operation_any (w : World) (S : St) (la ca : Option Addr) (ln lc cn cc : Nat) (ho : S.off = false) (hn : S.ops < 1000000) (hl : S.left ≤ 9223372036854775807) :
    Calls Try.prog 39 #[qV S (.slice la ln lc) (.slice ca cn cc)] w fun e w' => e = .returned (.tuple #[qV (opS S) (.slice la ln lc) (.slice ca cn cc), .bool (decide (S.left = 1))]) ∧ Below w.heap.size w w' := by
  rcases (show S.left = 0 ∨ S.left = 1 ∨ 1 < S.left by omega) with h | h | h
  · have hd : decide (S.left = 1) = false := by rw [h]; rfl
    have e1 : opS S = ⟨S.z, S.dur, S.cache, 0, S.full, false, S.ops + 1⟩ := by unfold opS; rw [hd, h]
    rw [hd, e1]
    rw [show qV S (.slice la ln lc) (.slice ca cn cc) = .agg #[.int .i64 S.z, .slice la ln lc, .slice ca cn cc, .int .i64 0, .bool false, .bool S.full, .int .i64 S.ops] by unfold qV; rw [h, ho]; rfl]
    clear hd e1 h
    go_enter Try.func39, Try.ntmps39
    go_wp2_with fail
    exact bodyPost_ret (v := .tuple #[qV ⟨S.z, S.dur, S.cache, 0, S.full, false, S.ops + 1⟩ (.slice la ln lc) (.slice ca cn cc), .bool false]) (results_row2 Try.results39 _ _ (w.heap.size + 1) qT _ (0, 0) _ rfl (new_at (by simp)) Try.underlying33 rfl sizeQ) rfl ⟨rfl, boxes _ _⟩
  · have hd : decide (S.left = 1) = true := by rw [h]; rfl
    have e1 : opS S = ⟨S.z, S.dur, S.cache, 0, S.full, true, S.ops + 1⟩ := by unfold opS; rw [hd, h]
    rw [hd, e1]
    rw [show qV S (.slice la ln lc) (.slice ca cn cc) = .agg #[.int .i64 S.z, .slice la ln lc, .slice ca cn cc, .int .i64 1, .bool false, .bool S.full, .int .i64 S.ops] by unfold qV; rw [h, ho]; rfl]
    clear hd e1 h
    go_enter Try.func39, Try.ntmps39
    go_wp2_with fail
    go_region
    go_wp2_with fail
    exact bodyPost_ret (v := .tuple #[qV ⟨S.z, S.dur, S.cache, 0, S.full, true, S.ops + 1⟩ (.slice la ln lc) (.slice ca cn cc), .bool true]) (results_row2 Try.results39 _ _ (w.heap.size + 1) qT _ (0, 0) _ rfl (new_drew (by simp)) Try.underlying33 rfl sizeQ) rfl ⟨rfl, (boxes _ _).drew⟩
  · have hd : decide (S.left = 1) = false := by rw [decide_eq_false_iff_not]; omega
    have e1 : opS S = ⟨S.z, S.dur, S.cache, S.left - 1, S.full, false, S.ops + 1⟩ := by unfold opS; rw [hd]
    have h0 : ((S.left : Int) == 0) = false := by simp; omega
    have h2 : ((S.left : Int) - 1 == 0) = false := by simp; omega
    rw [hd, e1]
    rw [show qV S (.slice la ln lc) (.slice ca cn cc) = .agg #[.int .i64 S.z, .slice la ln lc, .slice ca cn cc, .int .i64 S.left, .bool false, .bool S.full, .int .i64 S.ops] by unfold qV; rw [ho]]
    rw [show qV ⟨S.z, S.dur, S.cache, S.left - 1, S.full, false, S.ops + 1⟩ (.slice la ln lc) (.slice ca cn cc) = .agg #[.int .i64 S.z, .slice la ln lc, .slice ca cn cc, .int .i64 ((S.left : Int) - 1), .bool false, .bool S.full, .int .i64 ((S.ops : Int) + 1)] by
      unfold qV
      rw [show ((S.left - 1 : Nat) : Int) = (S.left : Int) - 1 by omega]
      rfl]
    clear hd e1
    go_enter Try.func39, Try.ntmps39
    go_wp2_with fail
    go_region
    go_wp2_with fail
    exact bodyPost_ret (v := .tuple #[.agg #[.int .i64 S.z, .slice la ln lc, .slice ca cn cc, .int .i64 ((S.left : Int) - 1), .bool false, .bool S.full, .int .i64 ((S.ops : Int) + 1)], .bool false]) (results_row2 Try.results39 _ _ (w.heap.size + 1) qT _ (0, 0) _ rfl (new_drew (by simp)) Try.underlying33 rfl sizeQ) rfl ⟨rfl, (boxes _ _).drew⟩
end Go.Proofs.Ytebiebbbkdbffaa.Disk
