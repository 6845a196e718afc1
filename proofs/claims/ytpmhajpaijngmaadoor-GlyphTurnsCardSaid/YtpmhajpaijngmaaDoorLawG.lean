/-
  The chapter's example and the law GlyphTurns, walked.
-/
import Derived.Test.YtpmhajpaijngmaaDoorGlyphRefC
namespace Go.Proofs.YtpmhajpaijngmaaDoor
open Go.RowKit
open Go.Proofs.YtpmhajpaijngmaaDoor.Glyph

theorem eq_sp : (ByteArray.mk #[97, 123, 101, 57, 125, 123, 98, 97, 100, 125]).toList = [97, 123, 101, 57, 125, 123, 98, 97, 100, 125] := toList_bl _
theorem eq_fd : (ByteArray.mk #[97, 98, 45, 99]).toList = [97, 98, 45, 99] := toList_bl _
theorem eq_cl : (ByteArray.mk #[97, 32, 98]).toList = [97, 32, 98] := toList_bl _
theorem ex_spell (w : World) (ht : Tab w) : Calls Tryd.prog 18 #[.string ⟨#[97, 195, 169, 255]⟩] w fun e w' => e = .returned (.string ⟨#[97, 123, 101, 57, 125, 123, 98, 97, 100, 125]⟩) ∧ Below w.heap.size w w' := by
  have h := spell_any ⟨#[97, 195, 169, 255]⟩ w (by decide) ht
  rw [show spellL (bl ⟨#[97, 195, 169, 255]⟩) = [97, 123, 101, 57, 125, 123, 98, 97, 100, 125] from eat_sp] at h
  exact h
theorem ex_count (w : World) : Calls Tryd.prog 11 #[.string ⟨#[97, 195, 169, 255]⟩] w fun e w' => e = .returned (.int .i64 3) ∧ Below w.heap.size w w' := by
  have h := count_any ⟨#[97, 195, 169, 255]⟩ w (by decide)
  rw [show (signs (bl ⟨#[97, 195, 169, 255]⟩)).length = 3 from eat_ct] at h
  exact h
theorem ex_fold (w : World) : Calls Tryd.prog 14 #[.string ⟨#[97, 66, 45, 67]⟩] w fun e w' => e = .returned (.string ⟨#[97, 98, 45, 99]⟩) ∧ Below w.heap.size w w' := by
  have h := fold_any ⟨#[97, 66, 45, 67]⟩ w (by decide)
  rw [show foldL (bl ⟨#[97, 66, 45, 67]⟩) = [97, 98, 45, 99] from eat_fd] at h
  exact h
theorem ex_valid (w : World) : Calls Tryd.prog 9 #[.string ⟨#[255]⟩] w fun e w' => e = .returned (.bool false) ∧ Below w.heap.size w w' := by
  have h := valid_any ⟨#[255]⟩ w
  rw [show validB (bl ⟨#[255]⟩) = false from eat_vl] at h
  exact h
theorem ex_clean (w : World) : Calls Tryd.prog 16 #[.string ⟨#[97, 9, 98]⟩] w fun e w' => e = .returned (.string ⟨#[97, 32, 98]⟩) ∧ Below w.heap.size w w' := by
  have h := clean_any ⟨#[97, 9, 98]⟩ w (by decide)
  rw [show cleanL (bl ⟨#[97, 9, 98]⟩) = [97, 32, 98] from eat_cl] at h
  exact h
set_option maxRecDepth 100000 in
set_option maxHeartbeats 1000000 in
theorem works_any (w : World) (ht : Tab w) : Calls Tryd.prog 7 #[] w fun e w' => e = .returned (.bool true) ∧ Below w.heap.size w w' := by
  have z1 := eq_sp
  have z2 := eq_fd
  have z3 := eq_cl
  go_enter Tryd.func7, Tryd.ntmps7
  go_wp2_with fail
  refine (ex_spell _ ht).mono ?_
  rintro e w1 ⟨rfl, hb1⟩
  have HB := Lib.hid hb1
  clear hb1
  go_wp2_with fail
  refine (ex_count _).mono ?_
  rintro e w2 ⟨rfl, hb2⟩
  have HB := Lib.hid (HB.out.trans (hb2.mono HB.out.size))
  clear hb2
  go_wp2_with fail
  refine (ex_fold _).mono ?_
  rintro e w3 ⟨rfl, hb3⟩
  have HB := Lib.hid (HB.out.trans (hb3.mono HB.out.size))
  clear hb3
  go_wp2_with fail
  refine (ex_valid _).mono ?_
  rintro e w4 ⟨rfl, hb4⟩
  have HB := Lib.hid (HB.out.trans (hb4.mono HB.out.size))
  clear hb4
  go_wp2_with fail
  refine (ex_clean _).mono ?_
  rintro e w5 ⟨rfl, hb5⟩
  have HB := Lib.hid (HB.out.trans (hb5.mono HB.out.size))
  clear hb5
  go_wp2
  go_ret
  exact ⟨rfl, HB.out⟩

theorem wordsA_len : ∀ (l w : List UInt8), (wordsA w l).length ≤ l.length + 1 := by
  intro l
  induction l with
  | nil =>
    intro w
    unfold wordsA
    split <;> simp
  | cons c t ih =>
    intro w
    unfold wordsA
    have h0 := ih []
    have h1 := ih (w ++ [c])
    split
    · split
      · simp only [List.length_cons]; omega
      · simp only [List.length_cons]; omega
    · simp only [List.length_cons]; omega
/-- The words of a text, as the law's walks hold them. -/
def textsOf (s : ByteArray) : List ByteArray := (wordsA [] (bl s)).map ba
theorem textsOf_len (s : ByteArray) (h : s.size ≤ 10000) : (textsOf s).length ≤ 100000 := by
  unfold textsOf
  rw [List.length_map]
  have := wordsA_len (bl s) []
  rw [bl_len] at this
  omega
theorem same_here (v u : Value) (xs : List ByteArray) (w : World) (hx : Reads w v xs) (hy : Reads w u xs) (hl : xs.length ≤ 100000) :
    Calls Tryd.prog 20 #[v, u] w fun e w' => e = .returned (.bool true) ∧ Below w.heap.size w w' := by
  have h := same_any v u xs xs w hx hy hl hl
  rw [decide_eq_true rfl] at h
  exact h
set_option maxRecDepth 100000 in
set_option maxHeartbeats 1000000 in
theorem glyphTurns_most (s : ByteArray) (w : World) (hs : s.size ≤ 500) (ht : Tab w) :
    Calls Tryd.prog 4 #[.string s] w fun e w' => e = .returned (.bool true) ∧ Below w.heap.size w w' := by
  have d1 : decide ((500 : Int) < (s.size : Int)) = false := by simp; omega
  have HB : Hid (Below w.heap.size w w) := Below.refl _ _
  have HT := Lib.hid ht
  have hl := Lib.hid (textsOf_len s (by omega))
  have C1 := Lib.hid (fun w => fold_any s w (by omega))
  have C2 := Lib.hid (fun w => refFold_any s w (by omega))
  have C3 := Lib.hid (fun w => clean_any s w (by omega))
  have C4 := Lib.hid (fun w => refClean_any s w (by omega))
  have C5 := Lib.hid (fun w ht => spell_any s w (by omega) ht)
  have C6 := Lib.hid (fun w => refSpell_any s w (by omega))
  have C7 := Lib.hid (fun w => words_any s w (by omega))
  have C8 := Lib.hid (fun w => refWords_any s w (by omega))
  generalize ba (foldL (bl s)) = x1 at C1 C2
  generalize ba (cleanL (bl s)) = x2 at C3 C4
  generalize ba (spellL (bl s)) = x3 at C5 C6
  clear ht
  go_enter Tryd.func4, Tryd.ntmps4
  go_wp2_with fail
  refine (C1.out _).mono ?_
  rintro e w1 ⟨rfl, hb⟩
  have HB := Lib.hid (HB.out.trans (hb.mono HB.out.size))
  clear hb
  go_wp2_with fail
  refine (C2.out _).mono ?_
  rintro e w2 ⟨rfl, hb⟩
  have HB := Lib.hid (HB.out.trans (hb.mono HB.out.size))
  clear hb
  go_wp2_with fail
  refine (C3.out _).mono ?_
  rintro e w3 ⟨rfl, hb⟩
  have HB := Lib.hid (HB.out.trans (hb.mono HB.out.size))
  clear hb
  go_wp2_with fail
  refine (C4.out _).mono ?_
  rintro e w4 ⟨rfl, hb⟩
  have HB := Lib.hid (HB.out.trans (hb.mono HB.out.size))
  clear hb
  go_wp2_with fail
  refine (C5.out _ (HT.out.below HB.out)).mono ?_
  rintro e w5 ⟨rfl, hb⟩
  have HB := Lib.hid (HB.out.trans (hb.mono HB.out.size))
  clear hb
  go_wp2_with fail
  refine (C6.out _).mono ?_
  rintro e w6 ⟨rfl, hb⟩
  have HB := Lib.hid (HB.out.trans (hb.mono HB.out.size))
  clear hb
  go_wp2_with fail
  refine (C7.out _).mono ?_
  rintro e w7 ⟨v, rfl, hv, hb⟩
  have HV := Lib.hid hv
  have HB := Lib.hid (HB.out.trans (hb.mono HB.out.size))
  clear hb hv
  go_wp2_with fail
  refine (C8.out _).mono ?_
  rintro e w8 ⟨u, rfl, hu, hb⟩
  have HV := Lib.hid (HV.out.below hb)
  have HU := Lib.hid hu
  have HB := Lib.hid (HB.out.trans (hb.mono HB.out.size))
  clear hb hu
  go_wp2_with fail
  refine (same_here v u (textsOf s) _ HV.out HU.out hl.out).mono ?_
  rintro e w9 ⟨rfl, hb⟩
  have HB := Lib.hid (HB.out.trans (hb.mono HB.out.size))
  clear hb
  go_wp2_with fail
  refine (works_any _ (HT.out.below HB.out)).mono ?_
  rintro e w10 ⟨rfl, hb⟩
  have HB := Lib.hid (HB.out.trans (hb.mono HB.out.size))
  clear hb
  go_wp2
  go_ret
  exact ⟨rfl, HB.out⟩
set_option maxRecDepth 100000 in
set_option maxHeartbeats 1000000 in
theorem glyphTurns_any (s : ByteArray) (w : World) (hs : s.size ≤ 9223372036854775807) (ht : Tab w) :
    Calls Tryd.prog 4 #[.string s] w fun e w' => e = .returned (.bool true) ∧ Below w.heap.size w w' := by
  by_cases h : s.size ≤ 500
  · exact glyphTurns_most s w h ht
  · have d1 : decide ((500 : Int) < (s.size : Int)) = true := by simp; omega
    go_enter Tryd.func4, Tryd.ntmps4
    go_wp2_with fail
    refine (works_any _ ht).mono ?_
    rintro e w1 ⟨rfl, hb⟩
    go_wp2
    go_ret
    exact ⟨rfl, hb⟩
end Go.Proofs.YtpmhajpaijngmaaDoor
