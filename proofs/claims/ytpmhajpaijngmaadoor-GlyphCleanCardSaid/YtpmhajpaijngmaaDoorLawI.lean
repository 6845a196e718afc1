/-
  The laws GlyphClean and GlyphClips, walked.
-/
import Derived.Test.YtpmhajpaijngmaaDoorLawG
namespace Go.Proofs.YtpmhajpaijngmaaDoor
open Go.RowKit
open Go.Proofs.YtpmhajpaijngmaaDoor.Glyph

theorem valid_clean (s : ByteArray) : validB (bl (ba (cleanL (bl s)))) = true := by
  rw [bl_ba]
  exact decide_eq_true (cleanL_valid (bl s))
theorem print_spell (s : ByteArray) : printB (bl (ba (spellL (bl s)))) = true := by
  rw [bl_ba]
  exact decide_eq_true (spellL_plain (bl s))
set_option maxRecDepth 100000 in
set_option maxHeartbeats 2000000 in
theorem glyphClean_most (s : ByteArray) (w : World) (hs : s.size ≤ 500) (ht : Tab w) :
    Calls Tryd.prog 5 #[.string s] w fun e w' => e = .returned (.bool true) ∧ Below w.heap.size w w' := by
  have d1 : decide ((500 : Int) < (s.size : Int)) = false := by simp; omega
  have HT := Lib.hid ht
  have z1 : (ba (cleanL (bl s))).size ≤ 2000 := by
    rw [ba_size]
    have := cleanL_le (bl s)
    rw [bl_len] at this
    omega
  have z2 : (ba (foldL (bl s))).size = s.size := by rw [ba_size]; unfold foldL; rw [List.length_map, bl_len]
  have z3 : (ba (spellL (bl s))).size ≤ 4000 := by
    rw [ba_size]
    have := spellL_le (bl s)
    rw [bl_len] at this
    omega
  have A1 := Lib.hid (fun w => clean_any s w (by omega))
  have A2 := Lib.hid (fun w => fold_any s w (by omega))
  have A3 := Lib.hid (fun w ht => spell_any s w (by omega) ht)
  have A4 := Lib.hid (fun w => count_any s w (by omega))
  have B1 := Lib.hid (fun w => valid_any (ba (cleanL (bl s))) w)
  have B2 := Lib.hid (fun w => clean_any (ba (cleanL (bl s))) w (by omega))
  have B3 := Lib.hid (fun w => count_any (ba (cleanL (bl s))) w (by omega))
  have B4 := Lib.hid (fun w => fold_any (ba (foldL (bl s))) w (by omega))
  have B5 := Lib.hid (fun w => count_any (ba (foldL (bl s))) w (by omega))
  have B6 := Lib.hid (fun w => print_any (ba (spellL (bl s))) w)
  rw [valid_clean] at B1
  rw [print_spell] at B6
  rw [bl_ba, cleanL_cleanL] at B2
  rw [bl_ba, cleanL_len] at B3
  rw [bl_ba, foldL_foldL] at B4
  rw [bl_ba, signs_len, fold_len, ← signs_len] at B5
  generalize ba (cleanL (bl s)) = c at *
  generalize ba (foldL (bl s)) = f at *
  generalize ba (spellL (bl s)) = p at *
  generalize (signs (bl s)).length = n at *
  have Z2 := Lib.hid z2
  have z2' : ((f.size : Int) == (s.size : Int)) = true := by rw [z2]; exact beq_self_eq_true _
  clear ht z2
  go_enter Tryd.func5, Tryd.ntmps5
  go_wp2_with fail
  refine (works_any _ HT.out).mono ?_
  rintro e w1 ⟨rfl, hb⟩
  have HB := Lib.hid hb
  clear hb
  go_wp2_with fail
  refine (A1.out _).mono ?_
  rintro e w2 ⟨rfl, hb⟩
  have HB := Lib.hid (HB.out.trans (hb.mono HB.out.size))
  clear hb
  go_wp2_with fail
  refine (A2.out _).mono ?_
  rintro e w3 ⟨rfl, hb⟩
  have HB := Lib.hid (HB.out.trans (hb.mono HB.out.size))
  clear hb
  go_wp2_with fail
  refine (B1.out _).mono ?_
  rintro e w4 ⟨rfl, hb⟩
  have HB := Lib.hid (HB.out.trans (hb.mono HB.out.size))
  clear hb
  go_wp2_with fail
  refine (B2.out _).mono ?_
  rintro e w5 ⟨rfl, hb⟩
  have HB := Lib.hid (HB.out.trans (hb.mono HB.out.size))
  clear hb
  go_wp2_with fail
  refine (B3.out _).mono ?_
  rintro e w6 ⟨rfl, hb⟩
  have HB := Lib.hid (HB.out.trans (hb.mono HB.out.size))
  clear hb
  go_wp2_with fail
  refine (A4.out _).mono ?_
  rintro e w7 ⟨rfl, hb⟩
  have HB := Lib.hid (HB.out.trans (hb.mono HB.out.size))
  clear hb
  go_wp2_with fail
  refine (B4.out _).mono ?_
  rintro e w8 ⟨rfl, hb⟩
  have HB := Lib.hid (HB.out.trans (hb.mono HB.out.size))
  clear hb
  go_wp2_with fail
  refine (B5.out _).mono ?_
  rintro e w9 ⟨rfl, hb⟩
  have HB := Lib.hid (HB.out.trans (hb.mono HB.out.size))
  clear hb
  go_wp2_with fail
  refine (A4.out _).mono ?_
  rintro e w10 ⟨rfl, hb⟩
  have HB := Lib.hid (HB.out.trans (hb.mono HB.out.size))
  clear hb
  go_wp2_with fail
  refine (A3.out _ (HT.out.below HB.out)).mono ?_
  rintro e w11 ⟨rfl, hb⟩
  have HB := Lib.hid (HB.out.trans (hb.mono HB.out.size))
  clear hb
  go_wp2_with fail
  refine (B6.out _).mono ?_
  rintro e w12 ⟨rfl, hb⟩
  have HB := Lib.hid (HB.out.trans (hb.mono HB.out.size))
  clear hb
  go_wp2
  go_ret
  exact ⟨rfl, HB.out⟩
set_option maxRecDepth 100000 in
set_option maxHeartbeats 1000000 in
theorem glyphClean_any (s : ByteArray) (w : World) (hs : s.size ≤ 9223372036854775807) (ht : Tab w) :
    Calls Tryd.prog 5 #[.string s] w fun e w' => e = .returned (.bool true) ∧ Below w.heap.size w w' := by
  by_cases h : s.size ≤ 500
  · exact glyphClean_most s w h ht
  · have d1 : decide ((500 : Int) < (s.size : Int)) = true := by simp; omega
    go_enter Tryd.func5, Tryd.ntmps5
    go_wp2_with fail
    refine (works_any _ ht).mono ?_
    rintro e w1 ⟨rfl, hb⟩
    go_wp2
    go_ret
    exact ⟨rfl, hb⟩

theorem clip_len (s : ByteArray) (n : Int) : (ba (clipL (bl s) n)).size = cl (bl s) n.toNat := by
  rw [ba_size]
  unfold clipL
  rw [List.length_take, Nat.min_eq_left (cl_le _ _)]
theorem clip_head (s : ByteArray) (n : Int) : s.extract 0 (ba (clipL (bl s) n)).size = ba (clipL (bl s) n) := by
  apply ba_ext
  rw [bl_to, bl_ba, clip_len]
  rfl
theorem clip_count (s : ByteArray) (n : Nat) : (signs (bl (ba (clipL (bl s) n)))).length = min n (signs (bl s)).length := by
  rw [bl_ba]
  unfold clipL
  rw [signs_take, List.length_take]
  rfl
theorem clip_clip (s : ByteArray) (a b : Nat) (h : a ≤ b) : clipL (bl (ba (clipL (bl s) b))) a = clipL (bl s) a := by
  rw [bl_ba]
  unfold clipL
  show List.take (cl (List.take (cl (bl s) b) (bl s)) a) (List.take (cl (bl s) b) (bl s)) = List.take (cl (bl s) a) (bl s)
  rw [cl_cl _ a b h, List.take_take, Nat.min_eq_left (cl_mono _ a b h)]
def wide (s : ByteArray) : ByteArray := ⟨#[32]⟩ ++ s ++ ⟨#[13, 10, 9]⟩
theorem wide_texts (s : ByteArray) : textsOf (wide s) = textsOf s := by
  unfold textsOf
  congr 1
  have : bl (wide s) = 32 :: (bl s ++ [13, 10, 9]) := by
    unfold wide bl
    rw [ByteArray.data_append, ByteArray.data_append]
    simp
  rw [this, words_more]
theorem wide_size (s : ByteArray) : (wide s).size = s.size + 4 := by
  unfold wide
  rw [ByteArray.size_append, ByteArray.size_append]
  show 1 + s.size + 3 = _
  omega
set_option maxRecDepth 100000 in
set_option maxHeartbeats 2000000 in
theorem glyphClips_most (s : ByteArray) (a b : Nat) (w : World) (hs : s.size ≤ 500) (hab : a ≤ b) (hb1 : b ≤ 1000) (ht : Tab w) :
    Calls Tryd.prog 6 #[.string s, .int .i64 a, .int .i64 b] w fun e w' => e = .returned (.bool true) ∧ Below w.heap.size w w' := by
  have d1 : decide ((500 : Int) < (s.size : Int)) = false := by simp; omega
  have d2 : ¬ (a : Int) < 0 := by omega
  have d3 : ¬ (b : Int) < (a : Int) := by omega
  have d4 : ¬ (1000 : Int) < (b : Int) := by omega
  have HT := Lib.hid ht
  have hl := Lib.hid (textsOf_len s (by omega))
  have zx : (ba (clipL (bl s) a)).size ≤ (ba (clipL (bl s) b)).size := by
    rw [clip_len, clip_len]
    exact cl_mono _ _ _ hab
  have zy : (ba (clipL (bl s) b)).size ≤ s.size := by
    rw [clip_len, ← bl_len]
    exact cl_le _ _
  have hx := clip_head s (a : Int)
  have hy := clip_head s (b : Int)
  have A1 := Lib.hid (fun w => clip_any s (a : Int) w (by omega) (by omega) (by omega))
  have A2 := Lib.hid (fun w => clip_any s (b : Int) w (by omega) (by omega) (by omega))
  have A3 := Lib.hid (fun w => count_any (ba (clipL (bl s) a)) w (by omega))
  have A4 := Lib.hid (fun w => count_any s w (by omega))
  have A5 := Lib.hid (fun w => clip_any (ba (clipL (bl s) b)) (a : Int) w (by omega) (by omega) (by omega))
  have A6 := Lib.hid (fun w => words_any s w (by omega))
  have A7 := Lib.hid (fun w => words_any (wide s) w (by rw [wide_size]; omega))
  have hwd := Lib.hid (wide_texts s)
  rw [clip_count s a] at A3
  rw [clip_clip s a b hab] at A5
  generalize ba (clipL (bl s) a) = x at *
  generalize ba (clipL (bl s) b) = y at *
  generalize (signs (bl s)).length = n at *
  have zx' : (x.size : Int) ≤ (y.size : Int) := by omega
  have hmin : (min (a : Int) (n : Int)) = ((min a n : Nat) : Int) := by omega
  clear ht
  go_enter Tryd.func6, Tryd.ntmps6
  go_wp2_with fail
  refine (works_any _ HT.out).mono ?_
  rintro e w1 ⟨rfl, hb⟩
  have HB := Lib.hid hb
  clear hb
  go_wp2_with fail
  refine (A1.out _).mono ?_
  rintro e w2 ⟨rfl, hb⟩
  have HB := Lib.hid (HB.out.trans (hb.mono HB.out.size))
  clear hb
  go_wp2_with fail
  refine (A2.out _).mono ?_
  rintro e w3 ⟨rfl, hb⟩
  have HB := Lib.hid (HB.out.trans (hb.mono HB.out.size))
  clear hb
  go_wp2_with fail
  refine (A3.out _).mono ?_
  rintro e w4 ⟨rfl, hb⟩
  have HB := Lib.hid (HB.out.trans (hb.mono HB.out.size))
  clear hb
  go_wp2_with fail
  refine (A4.out _).mono ?_
  rintro e w5 ⟨rfl, hb⟩
  have HB := Lib.hid (HB.out.trans (hb.mono HB.out.size))
  clear hb
  go_wp2_with fail
  refine (A5.out _).mono ?_
  rintro e w6 ⟨rfl, hb⟩
  have HB := Lib.hid (HB.out.trans (hb.mono HB.out.size))
  clear hb
  go_wp2_with fail
  refine (A6.out _).mono ?_
  rintro e w7 ⟨v, rfl, hv, hb⟩
  have HV := Lib.hid hv
  have HB := Lib.hid (HB.out.trans (hb.mono HB.out.size))
  clear hb hv
  go_wp2_with fail
  refine (A7.out _).mono ?_
  rintro e w8 ⟨u, rfl, hu, hb⟩
  have HV := Lib.hid (HV.out.below hb)
  have HU : Hid (Reads _ u (textsOf s)) := Lib.hid (by rw [← hwd.out]; exact hu)
  have HB := Lib.hid (HB.out.trans (hb.mono HB.out.size))
  clear hb hu
  go_wp2_with fail
  refine (same_here v u (textsOf s) _ HV.out HU.out hl.out).mono ?_
  rintro e w9 ⟨rfl, hb⟩
  have HB := Lib.hid (HB.out.trans (hb.mono HB.out.size))
  clear hb
  go_wp2
  go_ret
  exact ⟨rfl, HB.out⟩
set_option maxRecDepth 100000 in
set_option maxHeartbeats 2000000 in
theorem glyphClips_any (s : ByteArray) (a b : Int) (w : World) (hs : s.size ≤ 9223372036854775807) (a1 : -9223372036854775808 ≤ a) (a2 : a ≤ 9223372036854775807) (b1 : -9223372036854775808 ≤ b) (b2 : b ≤ 9223372036854775807) (ht : Tab w) :
    Calls Tryd.prog 6 #[.string s, .int .i64 a, .int .i64 b] w fun e w' => e = .returned (.bool true) ∧ Below w.heap.size w w' := by
  by_cases h : 500 < s.size
  · have d1 : decide ((500 : Int) < (s.size : Int)) = true := by simp; omega
    go_enter Tryd.func6, Tryd.ntmps6
    go_wp2_with fail
    refine (works_any _ ht).mono ?_
    rintro e w1 ⟨rfl, hb⟩
    go_wp2
    go_ret
    exact ⟨rfl, hb⟩
  have d1 : decide ((500 : Int) < (s.size : Int)) = false := by simp; omega
  by_cases h2 : a < 0
  · clear a1 a2 b1 b2 h
    go_enter Tryd.func6, Tryd.ntmps6
    go_wp2_with fail
    refine (works_any _ ht).mono ?_
    rintro e w1 ⟨rfl, hb⟩
    go_wp2
    go_ret
    exact ⟨rfl, hb⟩
  by_cases h3 : b < a
  · clear a1 a2 b1 b2 h
    go_enter Tryd.func6, Tryd.ntmps6
    go_wp2_with fail
    refine (works_any _ ht).mono ?_
    rintro e w1 ⟨rfl, hb⟩
    go_wp2
    go_ret
    exact ⟨rfl, hb⟩
  by_cases h4 : 1000 < b
  · clear a1 a2 b1 b2 h
    go_enter Tryd.func6, Tryd.ntmps6
    go_wp2_with fail
    refine (works_any _ ht).mono ?_
    rintro e w1 ⟨rfl, hb⟩
    go_wp2
    go_ret
    exact ⟨rfl, hb⟩
  obtain ⟨n, rfl⟩ : ∃ n : Nat, a = n := ⟨a.toNat, by omega⟩
  obtain ⟨m, rfl⟩ : ∃ m : Nat, b = m := ⟨b.toNat, by omega⟩
  exact glyphClips_most s n m w (by omega) (by omega) (by omega) ht
end Go.Proofs.YtpmhajpaijngmaaDoor
