/-
  Walks of the chapter's example and of the four laws.
-/
import Derived.Test.YtpjbhcampfjgdaaDoorWalkE
namespace Go.Proofs.YtpjbhcampfjgdaaDoor
open Go.RowKit

theorem take_as (s : ByteArray) (a b : List UInt8) (c : Nat) (w : World) (hs : s.size ≤ 100000) (H : Hid (takeS (bl s) = (a, b, c))) :
    Calls Tryd.prog 8 #[.string s] w fun e w' => e = .returned (.tuple #[.string (ba a), .string (ba b), .int .i64 c]) ∧ Below w.heap.size w w' := by
  have h := take_any s w hs
  rw [H.out] at h
  exact h
theorem refTake_as (s : ByteArray) (a b : List UInt8) (c : Nat) (w : World) (hs : s.size ≤ 100000) (H : Hid (takeS (bl s) = (a, b, c))) :
    Calls Tryd.prog 9 #[.string s] w fun e w' => e = .returned (.tuple #[.string (ba a), .string (ba b), .int .i64 c]) ∧ Below w.heap.size w w' := by
  have h := refTake_any s w hs
  rw [H.out] at h
  exact h

theorem ex_take : takeS [50, 58, 104, 105, 44, 120] = ([104, 105], [120], 0) := by decide
theorem ex_put : putS [104, 105] = [50, 58, 104, 105, 44] := by
  unfold putS; rw [show ([104, 105] : List UInt8).length = 2 from rfl, Lib.decDigits_one (by decide)]; rfl
theorem ex_row : rowS [[97], []] = [49, 58, 97, 44, 48, 58, 44] := by
  unfold rowS putS
  simp only [List.map_cons, List.map_nil]
  rw [show ([97] : List UInt8).length = 1 from rfl, show ([] : List UInt8).length = 0 from rfl, Lib.decDigits_one (by decide), Lib.decDigits_one (by decide)]; rfl

theorem ex_takes (w : World) : Calls Tryd.prog 8 #[.string ⟨#[50, 58, 104, 105, 44, 120]⟩] w fun e w' => e = .returned (.tuple #[.string ⟨#[104, 105]⟩, .string ⟨#[120]⟩, .int .i64 0]) ∧ Below w.heap.size w w' := by
  have h := take_any ⟨#[50, 58, 104, 105, 44, 120]⟩ w (by decide)
  rw [show bl ⟨#[50, 58, 104, 105, 44, 120]⟩ = [50, 58, 104, 105, 44, 120] from rfl, ex_take] at h
  exact h
theorem ex_puts (w : World) (ht : Tab w) : Calls Tryd.prog 10 #[.string ⟨#[104, 105]⟩] w fun e w' => e = .returned (.string ⟨#[50, 58, 104, 105, 44]⟩) ∧ Below w.heap.size w w' := by
  have h := put_any ⟨#[104, 105]⟩ w (by decide) ht
  rw [show bl ⟨#[104, 105]⟩ = [104, 105] from rfl, ex_put] at h
  exact h
theorem ex_rows (w : World) (ht : Tab w) : Calls Tryd.prog 16 #[.slice (some ⟨w.heap.size, 0, none⟩) 2 2] (w.alloc (.cells #[.string ⟨#[97]⟩, .string ⟨#[]⟩] 9)) fun e w' => e = .returned (.string ⟨#[49, 58, 97, 44, 48, 58, 44]⟩) ∧ Below w.heap.size w w' := by
  have hb : Below w.heap.size w (w.alloc (.cells #[.string ⟨#[97]⟩, .string ⟨#[]⟩] 9)) := (Below.refl _ _).alloc (Nat.le_refl _) _
  have hh : (w.alloc (.cells #[.string ⟨#[97]⟩, .string ⟨#[]⟩] 9)).heap[w.heap.size]? = some (.cells #[.string ⟨#[97]⟩, .string ⟨#[]⟩] 9) := by
    show (w.heap.push _)[w.heap.size]? = _
    simp
  have hr : Reads (w.alloc (.cells #[.string ⟨#[97]⟩, .string ⟨#[]⟩] 9)) (.slice (some ⟨w.heap.size, 0, none⟩) 2 2) [⟨#[97]⟩, ⟨#[]⟩] := by
    refine .inr ⟨by decide, w.heap.size, 0, 2, rfl, by decide, by decide, by simp, fun i hi => ?_⟩
    rw [Lib.cell_of_heap hh]
    match i, hi with
    | 0, _ => rfl
    | 1, _ => rfl
  have h := row_any _ _ _ hr ⟨by decide, by intro s hs; simp at hs; rcases hs with rfl | rfl <;> decide⟩ (ht.below hb)
  rw [show ([⟨#[97]⟩, ⟨#[]⟩] : List ByteArray).map bl = [[97], []] from rfl, ex_row] at h
  refine h.mono fun e w' hx => ?_
  exact ⟨hx.1, hb.trans (hx.2.mono (by simp))⟩

set_option maxHeartbeats 1000000 in
theorem works_any (w : World) (ht : Tab w) : Calls Tryd.prog 7 #[] w fun e w' => e = .returned (.bool true) ∧ Below w.heap.size w w' := by
  have HT := Lib.hid ht
  clear ht
  go_enter Tryd.func7, Tryd.ntmps7
  go_wp2_with (first | (go_at_call 8; refine (ex_takes _).mono ?_; rintro e w1 ⟨rfl, hb1⟩) | (go_at_call 10; refine (ex_puts _ (HT.out.below hb1)).mono ?_; rintro e w2 ⟨rfl, hb2⟩; have HB : Hid (Below w.heap.size w w2) := hb1.trans (hb2.mono hb1.size)) | (go_at_call 16; refine (ex_rows _ (HT.out.below HB.out)).mono ?_; rintro e w3 ⟨rfl, hb3⟩))
  go_ret
  exact ⟨rfl, HB.out.trans (hb3.mono HB.out.size)⟩

set_option maxHeartbeats 1000000 in
theorem netsTakes_any (s t : ByteArray) (w : World) (hs : s.size ≤ 9223372036854775807) (hl : t.size ≤ 9223372036854775807) (ht : Tab w) : Calls Tryd.prog 3 #[.string s, .string t] w fun e w' => e = .returned (.bool true) ∧ Below w.heap.size w w' := by
  have HT := Lib.hid ht
  clear ht
  by_cases h1 : s.size ≤ 3000 ∧ t.size ≤ 3000
  · obtain ⟨h1, h2⟩ := h1
    obtain ⟨a, b, c, hT⟩ : ∃ a b c, takeS (bl t) = (a, b, c) := ⟨_, _, _, rfl⟩
    have H := Lib.hid hT
    clear hT
    go_enter Tryd.func3, Tryd.ntmps3
    go_wp2_with (first | (go_at_call 8; refine (take_as _ _ _ _ _ (by omega) H).mono ?_; rintro e w1 ⟨rfl, hb1⟩) | (go_at_call 9; refine (refTake_as _ _ _ _ _ (by omega) H).mono ?_; rintro e w2 ⟨rfl, hb2⟩; have HB2 : Hid (Below w.heap.size w w2) := hb1.trans (hb2.mono hb1.size)) | (go_at_call 10; refine (put_any _ _ (by omega) (HT.out.below HB2.out)).mono ?_; rintro e w3 ⟨rfl, hb3⟩; have HB3 : Hid (Below w.heap.size w w3) := HB2.out.trans (hb3.mono HB2.out.size)) | (go_at_call 11; refine (refPut_any _ _ (by omega)).mono ?_; rintro e w4 ⟨rfl, hb4⟩; have HB4 : Hid (Below w.heap.size w w4) := HB3.out.trans (hb4.mono HB3.out.size)) | (go_at_call 7; refine (works_any _ (HT.out.below HB4.out)).mono ?_; rintro e w5 ⟨rfl, hb5⟩))
    go_ret
    exact ⟨rfl, HB4.out.trans (hb5.mono HB4.out.size)⟩
  · by_cases h2 : s.size ≤ 3000
    · have h3 : 3000 < t.size := by omega
      clear h1
      go_enter Tryd.func3, Tryd.ntmps3
      go_wp2_with (go_at_call 7; refine (works_any _ HT.out).mono ?_; rintro e w5 ⟨rfl, hb5⟩)
      go_ret
      exact ⟨rfl, hb5⟩
    · have h3 : 3000 < s.size := by omega
      clear h1 h2
      go_enter Tryd.func3, Tryd.ntmps3
      go_wp2_with (go_at_call 7; refine (works_any _ HT.out).mono ?_; rintro e w5 ⟨rfl, hb5⟩)
      go_ret
      exact ⟨rfl, hb5⟩
end Go.Proofs.YtpjbhcampfjgdaaDoor
