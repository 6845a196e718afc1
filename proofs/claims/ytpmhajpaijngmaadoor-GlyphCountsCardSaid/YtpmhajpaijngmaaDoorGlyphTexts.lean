/-
  Slices of texts, and whether two of them are the same.
-/
import Derived.Test.YtpmhajpaijngmaaDoorGlyphRefB
import Derived.Lib.IndexBytes
import Derived.StillTailTactics
import Derived.Deep.QuietTactic
import Derived.BigQuiet
namespace Go.Proofs.YtpmhajpaijngmaaDoor.Glyph
open Go.RowKit

theorem emp_true (s : ByteArray) (h : s.toList.isEmpty = true) : bl s = [] := by
  rw [Lib.toList_data] at h
  exact List.isEmpty_iff.1 h
theorem emp_of (s : ByteArray) (h : s.size = 0) : s.toList.isEmpty = true := by
  rw [Lib.toList_data, List.isEmpty_iff]
  exact List.length_eq_zero_iff.1 (by simpa using h)
theorem emp_not (s : ByteArray) (h : 0 < s.size) : s.toList.isEmpty = false := by
  rcases hb : s.toList.isEmpty with _ | _
  · rfl
  · have := emp_true s hb
    have e : (bl s).length = s.size := by simp
    rw [this] at e
    simp at e
    omega
theorem infoString : (Tryd.prog.info? 9).map (fun i => (i.zero, i.size, i.bytes)) = some (some (.string ⟨#[]⟩), 1, 16) := by kernel_rfl
/-- The value is a slice that reads as these texts. -/
def Reads (w : World) (v : Value) (ss : List ByteArray) : Prop :=
  (∃ a cap, v = .slice a 0 cap ∧ ss = []) ∨
  (0 < ss.length ∧ ∃ b off cap, v = .slice (some ⟨b, off, none⟩) ss.length cap ∧ ss.length ≤ cap ∧ cap ≤ maxLen ∧ b < w.heap.size ∧ ∀ i, i < ss.length → w.cell? ⟨b, off + i, none⟩ = some (.string (ss.getD i ByteArray.empty)))
theorem Reads.below {w w' : World} {v : Value} {ss : List ByteArray} (h : Reads w v ss) (hb : Below w.heap.size w w') : Reads w' v ss := by
  rcases h with h | ⟨h0, b, off, cap, rfl, h1, h2, h3, h4⟩
  · exact .inl h
  · refine .inr ⟨h0, b, off, cap, rfl, h1, h2, by have := hb.size; omega, fun i hi => ?_⟩
    rw [hb.cell (p := ⟨b, off + i, none⟩) h3]
    exact h4 i hi

theorem reads_owns {w : World} {B : Nat} {v : Value} {acc : List ByteArray} (h : w.ownsRow B 9 1 v acc.length (acc.map Value.string)) : Reads w v acc := by
  have hc := fun g hg => h.cells (g := g) hg
  have hlt := h.lt
  rcases h.2 with ⟨rfl, hn⟩ | ⟨g, cap, cur, rfl, hb, hg, h1, h2, _, _⟩
  · exact .inl ⟨none, 0, rfl, List.length_eq_zero_iff.1 hn⟩
  · by_cases h0 : acc.length = 0
    · exact .inl ⟨some ⟨g, 0, none⟩, cap, by rw [h0], List.length_eq_zero_iff.1 h0⟩
    · refine .inr ⟨by omega, g, 0, cap, rfl, h1, h2, (hlt g rfl).2, fun i hi => ?_⟩
      have e := hc g rfl i (.string (acc.getD i ByteArray.empty)) (by
        rw [List.getElem?_map, List.getD_eq_getElem?_getD, List.getElem?_eq_getElem hi]; rfl)
      have hp : (⟨g, 0, none⟩ : Addr).add i = ⟨g, 0 + i, none⟩ := by unfold Addr.add; split <;> simp_all
      rw [hp] at e
      exact e

theorem new_cell (w : World) (x : Value) : ∀ (j : Nat) (u : Value), [x][j]? = some u → (w.alloc (Obj.cells #[x] 9)).cell? ((⟨w.heap.size, 0, none⟩ : Addr).add j) = some u := by
  intro j u hu
  obtain rfl : j = 0 := by
    have := (List.getElem?_eq_some_iff.1 hu).1
    simpa using this
  have hp : (⟨w.heap.size, 0, none⟩ : Addr).add 0 = ⟨w.heap.size, 0, none⟩ := by unfold Addr.add; split <;> simp_all
  have hh : (w.alloc (.cells #[x] 9)).heap[w.heap.size]? = some (.cells #[x] 9) := by
    show (w.heap.push (.cells #[x] 9))[w.heap.size]? = _
    simp
  rw [hp, Lib.cell_of_heap hh]
  simpa using hu

theorem beq_texts (x y : ByteArray) : (x.toList == y.toList) = decide (x = y) := by
  rw [Bool.eq_iff_iff]
  simp only [beq_iff_eq, decide_eq_true_eq]
  rw [Lib.toList_data, Lib.toList_data]
  constructor
  · intro h
    exact ByteArray.ext (Array.toList_inj.1 h)
  · intro h; rw [h]
theorem same_step (xs ys : List ByteArray) (k : Nat) (hx : k < xs.length) (hy : k < ys.length) (h : xs.take k = ys.take k) :
    decide (xs.take (k + 1) = ys.take (k + 1)) = ((xs.getD k ByteArray.empty).toList == (ys.getD k ByteArray.empty).toList) := by
  rw [beq_texts, List.take_succ_eq_append_getElem hx, List.take_succ_eq_append_getElem hy, h]
  rw [List.getD_eq_getElem?_getD, List.getElem?_eq_getElem hx, List.getD_eq_getElem?_getD, List.getElem?_eq_getElem hy]
  rw [Bool.eq_iff_iff, decide_eq_true_eq, decide_eq_true_eq, ← List.take_succ_eq_append_getElem hy, List.take_succ_eq_append_getElem hy]
  constructor
  · intro e
    have := List.append_cancel_left e
    simpa using this
  · intro e
    simp only [Option.getD_some] at e
    rw [e]
def SameAt (xs ys : List ByteArray) (w : World) (s i : Value) (wr : World) : Prop :=
  ∃ k : Nat, k ≤ xs.length ∧ i = .int .i64 k ∧ s = .bool (decide (xs.take k = ys.take k)) ∧ Below w.heap.size w wr
theorem same_stop (xs ys : List ByteArray) (k : Nat) (h : ¬ xs.take k = ys.take k) : decide (xs = ys) = false := by
  rw [decide_eq_false_iff_not]
  intro e
  exact h (by rw [e])
theorem same_all (xs ys : List ByteArray) (k : Nat) (h1 : k = xs.length) (h2 : k = ys.length) (h : xs.take k = ys.take k) : decide (xs = ys) = true := by
  rw [decide_eq_true_eq]
  rw [List.take_of_length_le (by omega), List.take_of_length_le (by omega)] at h
  exact h

def StillAt (w : World) (s i : Value) (wr : World) : Prop := s = .bool false ∧ i = .int .i64 0 ∧ wr = w

set_option maxHeartbeats 1000000 in
theorem same_len (a a' : Option Addr) (n n' cap cap' : Nat) (w : World) (_hl : n ≤ 100000) (_hm : n' ≤ 100000) (hne : ((n : Int) == n') = false) :
    Calls Tryd.prog 20 #[.slice a n cap, .slice a' n' cap'] w fun e w' => e = .returned (.bool false) ∧ w = w' := by
  go_enter Tryd.func20, Tryd.ntmps20
  go_wp2_with fail
  go_loopw [5, 6] (fun s i wr => StillAt w s i wr) (fun _ i _ => 0 - (intOf i).toNat)
  case atStart => exact ⟨rfl, rfl, rfl⟩
  case round =>
    obtain ⟨rfl, rfl, rfl⟩ := hrel
    go_wp2_with fail
    go_ret
    exact ⟨rfl, rfl⟩
set_option maxHeartbeats 1000000 in
theorem same_nil (a a' : Option Addr) (cap cap' : Nat) (w : World) :
    Calls Tryd.prog 20 #[.slice a 0 cap, .slice a' 0 cap'] w fun e w' => e = .returned (.bool true) ∧ w = w' := by
  go_enter Tryd.func20, Tryd.ntmps20
  go_wp2_with fail
  go_loopw [5, 6] (fun s i wr => s = .bool true ∧ i = .int .i64 0 ∧ wr = w) (fun _ i _ => 0 - (intOf i).toNat)
  case atStart => exact ⟨rfl, rfl, rfl⟩
  case round =>
    obtain ⟨rfl, rfl, rfl⟩ := hrel
    go_wp2_with fail
    go_ret
    exact ⟨rfl, rfl⟩

set_option maxHeartbeats 1000000 in
theorem same_both (xs ys : List ByteArray) (b off cap b' off' cap' : Nat) (w : World) (hl : xs.length ≤ 100000) (he : xs.length = ys.length) (h3 : b < w.heap.size) (g3 : b' < w.heap.size)
    (h4 : ∀ i, i < xs.length → w.cell? ⟨b, off + i, none⟩ = some (.string (xs.getD i ByteArray.empty))) (g4 : ∀ i, i < ys.length → w.cell? ⟨b', off' + i, none⟩ = some (.string (ys.getD i ByteArray.empty))) :
    Calls Tryd.prog 20 #[.slice (some ⟨b, off, none⟩) xs.length cap, .slice (some ⟨b', off', none⟩) ys.length cap'] w fun e w' => e = .returned (.bool (decide (xs = ys))) ∧ Below w.heap.size w w' := by
  have HX := Lib.hid h4
  have HY := Lib.hid g4
  have HE := Lib.hid he
  have hm : ys.length ≤ 100000 := by omega
  have e1 : ((xs.length : Int) == ys.length) = true := beq_iff_eq.2 (by omega)
  clear h4 g4 he
  go_enter Tryd.func20, Tryd.ntmps20
  go_wp2_with fail
  go_loopw [5, 6] (fun s i wr => SameAt xs ys w s i wr) (fun _ i _ => xs.length - (intOf i).toNat)
  case atStart => exact ⟨0, Nat.zero_le _, rfl, by simp, Below.refl _ _⟩
  case round =>
    obtain ⟨k, hk, rfl, rfl, hb⟩ := hrel
    by_cases hs : xs.take k = ys.take k
    · have HQ := Lib.hid hs
      have hd : decide (xs.take k = ys.take k) = true := decide_eq_true hs
      rw [hd]
      clear hs hd
      by_cases hlt : k < xs.length
      · have hlt' : k < ys.length := by have := HE.out; omega
        have hc : wr.cell? ⟨b, off + k, none⟩ = some (.string (xs.getD k ByteArray.empty)) := by
          rw [hb.cell (p := ⟨b, off + k, none⟩) h3]; exact HX.out k hlt
        have hc' : wr.cell? ⟨b', off' + k, none⟩ = some (.string (ys.getD k ByteArray.empty)) := by
          rw [hb.cell (p := ⟨b', off' + k, none⟩) g3]; exact HY.out k hlt'
        have HG := Lib.hid (same_step xs ys k hlt hlt' HQ.out)
        generalize xs.getD k ByteArray.empty = x at *
        generalize ys.getD k ByteArray.empty = y at *
        go_wp2_with fail
        go_quiet (fail)
        go_wp2_with fail
        go_roundw
        case rel => exact ⟨k + 1, by omega, by simp, by rw [HG.out], below_drewN hb _⟩
        case measure => simp [intOf]; omega
      · have HG := Lib.hid (same_all xs ys k (by omega) (by have := HE.out; omega) HQ.out)
        go_wp2_with fail
        go_ret
        exact ⟨by rw [HG.out]; rfl, hb⟩
    · have HQ := Lib.hid (same_stop xs ys k hs)
      have hd : decide (xs.take k = ys.take k) = false := decide_eq_false hs
      rw [hd]
      clear hs hd
      go_wp2_with fail
      go_ret
      exact ⟨by rw [HQ.out]; rfl, hb⟩

theorem same_any (v u : Value) (xs ys : List ByteArray) (w : World) (hx : Reads w v xs) (hy : Reads w u ys) (hl : xs.length ≤ 100000) (hm : ys.length ≤ 100000) :
    Calls Tryd.prog 20 #[v, u] w fun e w' => e = .returned (.bool (decide (xs = ys))) ∧ Below w.heap.size w w' := by
  by_cases he : xs.length = ys.length
  · rcases hx with ⟨a, cap, rfl, rfl⟩ | ⟨h0, b, off, cap, rfl, h1, h2, h3, h4⟩
    · rcases hy with ⟨a', cap', rfl, rfl⟩ | ⟨g0, b', off', cap', rfl, g1, g2, g3, g4⟩
      · refine (same_nil a a' cap cap' w).mono fun e w' h => ?_
        obtain ⟨rfl, rfl⟩ := h
        exact ⟨rfl, Below.refl _ _⟩
      · simp at he; omega
    · rcases hy with ⟨a', cap', rfl, rfl⟩ | ⟨g0, b', off', cap', rfl, g1, g2, g3, g4⟩
      · simp at he; subst he; simp at h0
      · exact same_both xs ys b off cap b' off' cap' w hl he h3 g3 h4 g4
  · have hd : decide (xs = ys) = false := by rw [decide_eq_false_iff_not]; intro e; exact he (by rw [e])
    obtain ⟨a, cap, rfl⟩ : ∃ a cap, v = .slice a xs.length cap := by
      rcases hx with ⟨a, cap, rfl, rfl⟩ | ⟨h0, b, off, cap, rfl, h1, h2, h3, h4⟩
      · exact ⟨a, cap, rfl⟩
      · exact ⟨_, cap, rfl⟩
    obtain ⟨a', cap', rfl⟩ : ∃ a cap, u = .slice a ys.length cap := by
      rcases hy with ⟨a, cap, rfl, rfl⟩ | ⟨h0, b, off, cap, rfl, h1, h2, h3, h4⟩
      · exact ⟨a, cap, rfl⟩
      · exact ⟨_, cap, rfl⟩
    rw [hd]
    refine (same_len a a' xs.length ys.length cap cap' w hl hm (beq_eq_false_iff_ne.2 (by omega))).mono fun e w' h => ?_
    obtain ⟨rfl, rfl⟩ := h
    exact ⟨rfl, Below.refl _ _⟩
end Go.Proofs.YtpmhajpaijngmaaDoor.Glyph
