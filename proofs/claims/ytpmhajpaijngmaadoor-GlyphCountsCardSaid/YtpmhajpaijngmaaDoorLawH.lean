/-
  The law GlyphCounts, walked.
-/
import Derived.Test.YtpmhajpaijngmaaDoorLawG
namespace Go.Proofs.YtpmhajpaijngmaaDoor
open Go.RowKit
open Go.Proofs.YtpmhajpaijngmaaDoor.Glyph

def allB (P : Int → Bool) (S : List Int) (j : Nat) : Bool := (S.take j).all P
theorem allB_next (P : Int → Bool) (S : List Int) (j : Nat) (h : j < S.length) : allB P S (j + 1) = (allB P S j && P (S.getD j 0)) := by
  unfold allB
  rw [List.take_succ_eq_append_getElem h, List.all_append, List.getD_eq_getElem?_getD, List.getElem?_eq_getElem h]
  simp
theorem allB_end (P : Int → Bool) (S : List Int) (j : Nat) (h : S.length ≤ j) : allB P S j = S.all P := by
  unfold allB; rw [List.take_of_length_le h]
def posB (n : Int) : Bool := decide (0 ≤ n)
theorem all_valid (l : List UInt8) : (signs l).all posB = validB l := by
  unfold validB posB
  rw [Bool.eq_iff_iff]
  simp
theorem all_print (l : List UInt8) : (signs l).all plainB = printB l := by
  unfold printB plainB
  rw [Bool.eq_iff_iff]
  simp
def FlagsAt (S : List Int) (w : World) (v p i : Value) (wr : World) : Prop :=
  ∃ j : Nat, j ≤ S.length ∧ i = .int .i64 j ∧ v = .bool (allB posB S j) ∧ p = .bool (allB plainB S j) ∧ Below w.heap.size w wr
set_option maxRecDepth 100000 in
set_option maxHeartbeats 2000000 in
theorem glyphCounts_most (s : ByteArray) (n : Int) (w : World) (hs : s.size ≤ 500) (h1 : -9223372036854775808 ≤ n) (h2 : n ≤ 9223372036854775807) (ht : Tab w) :
    Calls Tryd.prog 3 #[.string s, .int .i64 n] w fun e w' => e = .returned (.bool true) ∧ Below w.heap.size w w' := by
  have d1 : decide ((500 : Int) < (s.size : Int)) = false := by simp; omega
  have HT := Lib.hid ht
  have C1 := Lib.hid (fun w => valid_any s w)
  have C2 := Lib.hid (fun w => print_any s w)
  have C3 := Lib.hid (fun w => count_any s w (by omega))
  have C4 := Lib.hid (fun w => clip_any s n w (by omega) h1 h2)
  have C5 := Lib.hid (fun w => refClip_any s n w (by omega) h1 h2)
  have E1 := Lib.hid (all_valid (bl s))
  have E2 := Lib.hid (all_print (bl s))
  have hS := signs_le (bl s)
  rw [bl_len] at hS
  generalize ba (clipL (bl s) n) = x1 at C4 C5
  generalize validB (bl s) = b1 at C1 E1
  generalize printB (bl s) = b2 at C2 E2
  clear ht
  go_enter Tryd.func3, Tryd.ntmps3
  go_wp2_with fail
  refine (signs_any s _ (by omega)).mono ?_
  rintro e w1 ⟨v, rfl, hR, hb⟩
  generalize signs (bl s) = S at *
  obtain ⟨a, cap, rfl, hR⟩ := hR
  have HR := Lib.hid hR
  have HB := Lib.hid hb
  clear hR hb
  have HI : Hid (FlagsAt S w1 (.bool true) (.bool true) (.int .i64 0) w1) := ⟨0, Nat.zero_le _, rfl, rfl, rfl, Below.refl _ _⟩
  go_wp2
  go_loopw [6, 7, 8] (fun v p i wr => FlagsAt S w1 v p i wr) (fun _ _ i _ => S.length - (intOf i).toNat)
  case atStart => exact HI.out
  case round =>
    clear HI
    obtain ⟨j, hj, rfl, rfl, rfl, hb⟩ := hrel
    by_cases hlt : j < S.length
    · have hlt' : (j : Int) < (S.length : Int) := by omega
      obtain ⟨g, rfl, hg1, hg2⟩ := HR.out j hlt
      rw [← hb.cell (p := ⟨g, j, none⟩) hg1] at hg2
      have N1 := Lib.hid (allB_next posB S j hlt)
      have N2 := Lib.hid (allB_next plainB S j hlt)
      have HB2 := Lib.hid hb
      have hP : ∀ m : Int, plainB m = (decide (32 ≤ m) && decide (m ≤ 126)) := fun _ => rfl
      have hQ : ∀ m : Int, posB m = decide (0 ≤ m) := fun _ => rfl
      have HP := Lib.hid hP
      have HQ := Lib.hid hQ
      clear hP hQ hb
      generalize S.getD j 0 = m at *
      generalize allB posB S j = f1 at N1 ⊢
      generalize allB plainB S j = f2 at N2 ⊢
      have hfin : ∀ a b : Bool, (f1 && decide (0 ≤ m)) = a → (f2 && (decide (32 ≤ m) && decide (m ≤ 126))) = b → FlagsAt S w1 (.bool a) (.bool b) (.int .i64 ((j : Int) + 1)) wr := by
        rintro a b rfl rfl
        exact ⟨j + 1, hlt, int_eq (by omega), by rw [N1.out, HQ.out], by rw [N2.out, HP.out], HB2.out⟩
      have HF := Lib.hid hfin
      clear hfin
      cases f1
      all_goals cases f2
      all_goals cases k1 : decide (0 ≤ m)
      all_goals cases k2 : decide (32 ≤ m)
      all_goals cases k3 : decide (m ≤ 126)
      all_goals
        go_wp2
        go_roundw
        case rel => exact HF.out _ _ (by rw [k1]; rfl) (by rw [k2, k3]; rfl)
        case measure => simp [intOf]; omega
    · have hlt' : ¬ (j : Int) < (S.length : Int) := by omega
      have e1 := allB_end posB S j (by omega)
      have e2 := allB_end plainB S j (by omega)
      rw [E1.out] at e1
      rw [E2.out] at e2
      rw [e1, e2]
      have HB := Lib.hid (HB.out.trans (hb.mono HB.out.size))
      clear e1 e2 hb
      go_wp2_with fail
      refine (C1.out _).mono ?_
      rintro e w2 ⟨rfl, hb⟩
      have HB := Lib.hid (HB.out.trans (hb.mono HB.out.size))
      clear hb
      go_wp2_with fail
      refine (C2.out _).mono ?_
      rintro e w3 ⟨rfl, hb⟩
      have HB := Lib.hid (HB.out.trans (hb.mono HB.out.size))
      clear hb
      go_wp2_with fail
      refine (C3.out _).mono ?_
      rintro e w4 ⟨rfl, hb⟩
      have HB := Lib.hid (HB.out.trans (hb.mono HB.out.size))
      clear hb
      go_wp2_with fail
      refine (C4.out _).mono ?_
      rintro e w5 ⟨rfl, hb⟩
      have HB := Lib.hid (HB.out.trans (hb.mono HB.out.size))
      clear hb
      go_wp2_with fail
      refine (C5.out _).mono ?_
      rintro e w6 ⟨rfl, hb⟩
      have HB := Lib.hid (HB.out.trans (hb.mono HB.out.size))
      clear hb
      go_wp2_with fail
      refine (works_any _ (HT.out.below HB.out)).mono ?_
      rintro e w7 ⟨rfl, hb⟩
      have HB := Lib.hid (HB.out.trans (hb.mono HB.out.size))
      clear hb
      go_wp2
      go_ret
      exact ⟨rfl, HB.out⟩
set_option maxRecDepth 100000 in
set_option maxHeartbeats 1000000 in
theorem glyphCounts_any (s : ByteArray) (n : Int) (w : World) (hs : s.size ≤ 9223372036854775807) (h1 : -9223372036854775808 ≤ n) (h2 : n ≤ 9223372036854775807) (ht : Tab w) :
    Calls Tryd.prog 3 #[.string s, .int .i64 n] w fun e w' => e = .returned (.bool true) ∧ Below w.heap.size w w' := by
  by_cases h : s.size ≤ 500
  · exact glyphCounts_most s n w h h1 h2 ht
  · have d1 : decide ((500 : Int) < (s.size : Int)) = true := by simp; omega
    go_enter Tryd.func3, Tryd.ntmps3
    go_wp2_with fail
    refine (works_any _ ht).mono ?_
    rintro e w1 ⟨rfl, hb⟩
    go_wp2
    go_ret
    exact ⟨rfl, hb⟩
end Go.Proofs.YtpmhajpaijngmaaDoor
