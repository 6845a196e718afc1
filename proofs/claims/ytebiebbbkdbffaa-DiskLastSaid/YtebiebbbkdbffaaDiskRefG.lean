/-
  The document's disk: Crash.
-/
import Derived.Test.YtebiebbbkdbffaaDiskRefF
namespace Go.Proofs.Ytebiebbbkdbffaa.Disk
open Go Go.RowKit
open Go.Proofs.Ytebiebbbkdbffaa.Sha (Kept wp_region_drawn_tail wp_region_kept_tail quiet_load_row)

/-- The last place below k that is kept. -/
def lastI (ks : List Bool) : Nat → Int
  | 0 => -1
  | k + 1 => if ks.getD k false then (k : Int) else lastI ks k
theorem lastI_lt (ks : List Bool) : ∀ k, lastI ks k < k ∧ -1 ≤ lastI ks k
  | 0 => by unfold lastI; omega
  | k + 1 => by
    have := lastI_lt ks k
    unfold lastI
    split <;> omega
theorem lastI_at (ks : List Bool) : ∀ (k m : Nat), lastI ks k = (m : Int) → ks.getD m false = true ∧ m < k
  | 0, m, h => by unfold lastI at h; omega
  | k + 1, m, h => by
    unfold lastI at h
    split at h
    · rename_i hk
      have : m = k := by omega
      subst this
      exact ⟨hk, Nat.lt_succ_self _⟩
    · have := lastI_at ks k m h
      exact ⟨this.1, by omega⟩
theorem lastI_behind (ks : List Bool) : ∀ (k i : Nat), lastI ks k < (i : Int) → i < k → ks.getD i false = false
  | 0, i, _, h => by omega
  | k + 1, i, h, hi => by
    unfold lastI at h
    split at h
    · omega
    · rename_i hk
      by_cases e : i = k
      · subst e; simpa using hk
      · exact lastI_behind ks k i h (by omega)
theorem chosen_cut : ∀ (ws : List Wr) (ks : List Bool), chosen (ws.take ks.length) ks = chosen ws ks
  | [], ks => by simp
  | x :: ws, [] => by simp [chosen_none]
  | x :: ws, k :: ks => by
    show (if k then x :: chosen (ws.take ks.length) ks else chosen (ws.take ks.length) ks) = (if k then x :: chosen ws ks else chosen ws ks)
    rw [chosen_cut ws ks]
theorem chosen_none_from (ws : List Wr) (ks : List Bool) (m : Nat) : ∀ k, m ≤ k → k ≤ ws.length → (∀ i, m ≤ i → i < k → ks.getD i false = false) → chosen (ws.take k) ks = chosen (ws.take m) ks
  | 0, h, _, _ => by have : m = 0 := by omega
                     subst this; rfl
  | k + 1, h, hk, hf => by
    by_cases e : m = k + 1
    · rw [e]
    · rw [chosen_take (ks := ks) (List.getElem?_eq_getElem (show k < ws.length by omega)), hf k (by omega) (by omega), chosen_none_from ws ks m k (by omega) (by omega) fun i h1 h2 => hf i h1 (by omega)]
      simp
/-- What those that are kept are, by the last of them. -/
theorem chosen_last {ws : List Wr} {ks : List Bool} {m : Nat} {x : Wr} (h : lastI ks (min ws.length ks.length) = (m : Int)) (hx : ws[m]? = some x) : chosen ws ks = chosen (ws.take m) ks ++ [x] := by
  obtain ⟨h1, h2⟩ := lastI_at ks _ m h
  have hm : m < ws.length := by omega
  have e := chosen_none_from ws ks (m + 1) (min ws.length ks.length) (by omega) (by omega) fun i h3 h4 => lastI_behind ks _ i (by omega) h4
  have e2 : chosen (ws.take (min ws.length ks.length)) ks = chosen ws ks := by
    rcases Nat.le_total ws.length ks.length with hl | hl
    · rw [Nat.min_eq_left hl, List.take_length]
    · rw [Nat.min_eq_right hl, chosen_cut]
  rw [← e2, e, chosen_take hx, h1]
  rfl
theorem chosen_no {ws : List Wr} {ks : List Bool} (h : lastI ks (min ws.length ks.length) = -1) : chosen ws ks = [] := by
  have e := chosen_none_from ws ks 0 (min ws.length ks.length) (Nat.zero_le _) (by omega) fun i h3 h4 => lastI_behind ks _ i (by omega) h4
  have e2 : chosen (ws.take (min ws.length ks.length)) ks = chosen ws ks := by
    rcases Nat.le_total ws.length ks.length with hl | hl
    · rw [Nat.min_eq_left hl, List.take_length]
    · rw [Nat.min_eq_right hl, chosen_cut]
  rw [← e2, e]
  simp [chosen_nil]
/-- What is durable behind so many steps of the second loop. -/
def durAt (z : Nat) (torn : Int) (L : List ByteArray) (ws : List Wr) (ks : List Bool) (last : Int) (k : Nat) : List ByteArray :=
  if (k : Int) ≤ last then landL L (chosen (ws.take k) ks) else crashL z torn L (chosen ws ks)
section
variable {z : Nat} {torn : Int} {L : List ByteArray} {ws : List Wr} {ks : List Bool} {last : Int}
theorem durAt_length (k : Nat) : (durAt z torn L ws ks last k).length = L.length := by
  unfold durAt
  split
  · exact landL_length _ _
  · exact crashL_length _ _ _ _
theorem durAt_zero (hl : last = lastI ks (min ws.length ks.length)) : durAt z torn L ws ks last 0 = L := by
  unfold durAt
  split
  · simp [chosen_nil, landL_nil]
  · rename_i h
    have := lastI_lt ks (min ws.length ks.length)
    rw [chosen_no (by omega)]
    rfl
theorem durAt_skip (hl : last = lastI ks (min ws.length ks.length)) {k : Nat} {x : Wr} (hk : (k : Int) ≤ last) (hx : ws[k]? = some x) (hn : ks.getD k false = false) : durAt z torn L ws ks last (k + 1) = durAt z torn L ws ks last k := by
  have hne : (k : Int) ≠ last := fun e => by
    have := (lastI_at ks _ k (hl.symm.trans e.symm)).1
    rw [hn] at this
    cases this
  unfold durAt
  rw [if_pos hk, if_pos (by omega), chosen_take hx, hn]
  simp
theorem durAt_land (hl : last = lastI ks (min ws.length ks.length)) {k : Nat} {x : Wr} (hk : (k : Int) < last) (hx : ws[k]? = some x) (hn : ks.getD k false = true) : durAt z torn L ws ks last (k + 1) = (durAt z torn L ws ks last k).set x.p x.s := by
  unfold durAt
  rw [if_pos (by omega), if_pos (by omega), chosen_take hx, hn]
  exact landL_snoc _ _ _
theorem durAt_last (hl : last = lastI ks (min ws.length ks.length)) {k : Nat} {x : Wr} (hk : (k : Int) = last) (hx : ws[k]? = some x) : durAt z torn L ws ks last (k + 1) = (durAt z torn L ws ks last k).set x.p (tear z torn (durAt z torn L ws ks last k) x).s := by
  unfold durAt
  rw [if_neg (by omega), if_pos (by omega), chosen_last (hl.symm.trans hk.symm) hx, crashL_snoc]
theorem durAt_fit {n : Nat} (h : Fit z n L ws) (k : Nat) : Fit z n (durAt z torn L ws ks last k) [] := by
  unfold durAt
  split
  · exact h.take _ fun w hw => List.mem_of_mem_take (chosen_mem _ _ hw)
  · have h1 : Fit z n L (chosen ws ks) := ⟨h.len, h.size, fun w hw => h.wr w (chosen_mem _ _ hw)⟩
    exact h1.upto _
end
end Go.Proofs.Ytebiebbbkdbffaa.Disk
