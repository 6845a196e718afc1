/-
  Walks of Write and of what reads a change: the program's and the document's.
-/
import Derived.Test.YtkbeppmjdjddhaaDoorBatchWalkB
import Derived.Test.YtkbeppmjdjddhaaDoorNetsRefTexts
namespace Go.Proofs.YtkbeppmjdjddhaaDoor.Batch
open Go Go.RowKit
open Go.Proofs.YtkbeppmjdjddhaaDoor.Nets (Tab Reads Small rowS textsS str)

theorem reads_two (w : World) (a b : ByteArray) : Reads (w.alloc (.cells #[.string a, .string b] 9)) (.slice (some ⟨w.heap.size, 0, none⟩) 2 2) [a, b] := by
  refine .inr ⟨by simp, w.heap.size, 0, 2, rfl, by simp, by decide, by simp, fun i hi => ?_⟩
  have h := heap_alloc_new w (.cells #[.string a, .string b] 9)
  rw [cell_of_row _ w.heap.size (0 + i) _ _ _ h]
  match i, hi with
  | 0, _ => rfl
  | 1, _ => rfl
theorem reads_three (w : World) (a b c : ByteArray) : Reads (w.alloc (.cells #[.string a, .string b, .string c] 9)) (.slice (some ⟨w.heap.size, 0, none⟩) 3 3) [a, b, c] := by
  refine .inr ⟨by simp, w.heap.size, 0, 3, rfl, by simp, by decide, by simp, fun i hi => ?_⟩
  have h := heap_alloc_new w (.cells #[.string a, .string b, .string c] 9)
  rw [cell_of_row _ w.heap.size (0 + i) _ _ _ h]
  match i, hi with
  | 0, _ => rfl
  | 1, _ => rfl
  | 2, _ => rfl
/-- What can be written. -/
def Fine (c : Chg) : Prop := c.key.size ≤ 100000 ∧ c.val.size ≤ 100000
theorem small_parts {c : Chg} (h : Fine c) : Small (parts c) := by
  unfold parts
  split
  · refine ⟨by simp, fun s hs => ?_⟩
    simp only [List.mem_cons, List.not_mem_nil, or_false] at hs
    rcases hs with rfl | rfl
    · decide
    · exact h.1
  · refine ⟨by simp, fun s hs => ?_⟩
    simp only [List.mem_cons, List.not_mem_nil, or_false] at hs
    rcases hs with rfl | rfl | rfl
    · decide
    · exact h.1
    · exact h.2
set_option maxHeartbeats 1000000 in
theorem write_any (c : Chg) (w : World) (hc : Fine c) (ht : Tab w) : Calls Tryd.prog 22 #[chV c] w fun e w' => e = .returned (str (writeS c)) ∧ Below w.heap.size w w' := by
  have hA : Below w.heap.size w (w.alloc (boxC chgT c)) := (Below.refl _ _).alloc (Nat.le_refl _) _
  have hs := small_parts hc
  have ew : writeS c = rowS ((parts c).map bl) := rfl
  have e1 : (w.alloc (boxC chgT c)).heap.size = w.heap.size + 1 := by simp
  obtain ⟨k, v, g⟩ := c
  cases g
  · have hp : parts ⟨k, v, false⟩ = [⟨#[43]⟩, k, v] := rfl
    have hB : Below w.heap.size w ((w.alloc (boxC chgT ⟨k, v, false⟩)).alloc (.cells #[.string ⟨#[43]⟩, .string k, .string v] 9)) := hA.alloc (by simp) _
    have hr := Nets.row_any _ _ _ (reads_three (w.alloc (boxC chgT ⟨k, v, false⟩)) ⟨#[43]⟩ k v) (by rw [← hp]; exact hs) (ht.below hB)
    rw [e1] at hr
    have HR := Lib.hid hr
    have HB := Lib.hid hB
    rw [ew, hp]
    clear hA hB hs ew hp hc e1 hr ht
    go_enter Tryd.func22, Tryd.ntmps22
    go_wp2_with fail
    refine HR.out.mono ?_
    rintro e w1 ⟨rfl, hb1⟩
    have HB1 := Lib.hid (HB.out.trans (hb1.mono HB.out.size))
    clear hb1
    go_wp2_with fail
    go_ret
    exact ⟨rfl, HB1.out⟩
  · have hp : parts ⟨k, v, true⟩ = [⟨#[45]⟩, k] := rfl
    have hB : Below w.heap.size w ((w.alloc (boxC chgT ⟨k, v, true⟩)).alloc (.cells #[.string ⟨#[45]⟩, .string k] 9)) := hA.alloc (by simp) _
    have hr := Nets.row_any _ _ _ (reads_two (w.alloc (boxC chgT ⟨k, v, true⟩)) ⟨#[45]⟩ k) (by rw [← hp]; exact hs) (ht.below hB)
    rw [e1] at hr
    have HR := Lib.hid hr
    have HB := Lib.hid hB
    rw [ew, hp]
    clear hA hB hs ew hp hc e1 hr ht
    go_enter Tryd.func22, Tryd.ntmps22
    go_wp2_with fail
    refine HR.out.mono ?_
    rintro e w1 ⟨rfl, hb1⟩
    have HB1 := Lib.hid (HB.out.trans (hb1.mono HB.out.size))
    clear hb1
    go_wp2_with fail
    go_ret
    exact ⟨rfl, HB1.out⟩
set_option maxHeartbeats 1000000 in
theorem refWrite_any (c : Chg) (w : World) (hc : Fine c) : Calls Tryd.prog 24 #[chV c] w fun e w' => e = .returned (str (writeS c)) ∧ Below w.heap.size w w' := by
  have hA : Below w.heap.size w (w.alloc (boxC refT c)) := (Below.refl _ _).alloc (Nat.le_refl _) _
  have hs := small_parts hc
  have ew : writeS c = rowS ((parts c).map bl) := rfl
  have e1 : (w.alloc (boxC refT c)).heap.size = w.heap.size + 1 := by simp
  obtain ⟨k, v, g⟩ := c
  cases g
  · have hp : parts ⟨k, v, false⟩ = [⟨#[43]⟩, k, v] := rfl
    have hB : Below w.heap.size w ((w.alloc (boxC refT ⟨k, v, false⟩)).alloc (.cells #[.string ⟨#[43]⟩, .string k, .string v] 9)) := hA.alloc (by simp) _
    have hr := Nets.refRow_any _ _ _ (reads_three (w.alloc (boxC refT ⟨k, v, false⟩)) ⟨#[43]⟩ k v) (by rw [← hp]; exact hs)
    rw [e1] at hr
    have HR := Lib.hid hr
    have HB := Lib.hid hB
    rw [ew, hp]
    clear hA hB hs ew hp hc e1 hr
    go_enter Tryd.func24, Tryd.ntmps24
    go_wp2_with fail
    refine HR.out.mono ?_
    rintro e w1 ⟨rfl, hb1⟩
    have HB1 := Lib.hid (HB.out.trans (hb1.mono HB.out.size))
    clear hb1
    go_wp2_with fail
    go_ret
    exact ⟨rfl, HB1.out⟩
  · have hp : parts ⟨k, v, true⟩ = [⟨#[45]⟩, k] := rfl
    have hB : Below w.heap.size w ((w.alloc (boxC refT ⟨k, v, true⟩)).alloc (.cells #[.string ⟨#[45]⟩, .string k] 9)) := hA.alloc (by simp) _
    have hr := Nets.refRow_any _ _ _ (reads_two (w.alloc (boxC refT ⟨k, v, true⟩)) ⟨#[45]⟩ k) (by rw [← hp]; exact hs)
    rw [e1] at hr
    have HR := Lib.hid hr
    have HB := Lib.hid hB
    rw [ew, hp]
    clear hA hB hs ew hp hc e1 hr
    go_enter Tryd.func24, Tryd.ntmps24
    go_wp2_with fail
    refine HR.out.mono ?_
    rintro e w1 ⟨rfl, hb1⟩
    have HB1 := Lib.hid (HB.out.trans (hb1.mono HB.out.size))
    clear hb1
    go_wp2_with fail
    go_ret
    exact ⟨rfl, HB1.out⟩

/-- A slice of texts, of so many, in memory: its texts' cells. -/
theorem reads_at {w : World} {v : Value} {ss : List ByteArray} (h : Reads w v ss) (h0 : 0 < ss.length) : ∃ b off cap, v = .slice (some ⟨b, off, none⟩) ss.length cap ∧ b < w.heap.size ∧ ∀ i, i < ss.length → w.cell? ⟨b, off + i, none⟩ = some (.string (ss.getD i ByteArray.empty)) := by
  rcases h with ⟨a, cap, rfl, rfl⟩ | ⟨_, b, off, cap, rfl, _, _, h3, h4⟩
  · simp at h0
  · exact ⟨b, off, cap, rfl, h3, h4⟩
theorem bytes_eq (a b : ByteArray) : (a.toList == b.toList) = decide (a = b) := key_eq a b
end Go.Proofs.YtkbeppmjdjddhaaDoor.Batch
