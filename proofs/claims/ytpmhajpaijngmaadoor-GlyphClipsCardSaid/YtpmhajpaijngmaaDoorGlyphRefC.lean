/-
  The document's Words, and the chapter's example.
-/
import Derived.Test.YtpmhajpaijngmaaDoorGlyphWords
namespace Go.Proofs.YtpmhajpaijngmaaDoor.Glyph
open Go.RowKit

def RWordsAt (s : ByteArray) (w : World) (v cur i : Value) (wr : World) : Prop :=
  ∃ (j : Nat) (acc : List ByteArray) (c : ByteArray), j ≤ s.size + 1 ∧ i = .int .i64 j ∧ cur = .string c ∧ c.size ≤ j ∧ acc.length ≤ j ∧ wr.ownsRow w.heap.size 9 1 v acc.length (acc.map Value.string) ∧ Below w.heap.size w wr ∧
    Hid (j = s.size + 1 → c.size = 0) ∧ Hid (acc.map bl ++ wordsA (bl c) ((bl s).drop j) = wordsA [] (bl s))
theorem drop_cons (s : ByteArray) (j : Nat) (h : j < s.size) : (bl s).drop j = s[j]'h :: (bl s).drop (j + 1) := List.drop_eq_getElem_cons (by rw [bl_len]; exact h)
theorem bl_nil {c : ByteArray} (h : c.size = 0) : bl c = [] := List.length_eq_zero_iff.1 (by rw [bl_len]; exact h)
theorem bl_ne {c : ByteArray} (h : c.size ≠ 0) : bl c ≠ [] := fun e => h (by rw [← bl_len, e]; rfl)
theorem words_flush {s : ByteArray} {j : Nat} {acc : List ByteArray} {c : ByteArray} (hc : c.size ≠ 0) (hb : j = s.size ∨ ∃ h : j < s.size, blank (s[j]'h) = true)
    (hx : acc.map bl ++ wordsA (bl c) ((bl s).drop j) = wordsA [] (bl s)) : (acc ++ [c]).map bl ++ wordsA (bl (ByteArray.mk #[])) ((bl s).drop (j + 1)) = wordsA [] (bl s) := by
  rw [← hx, List.map_append, List.append_assoc]
  congr 1
  rcases hb with rfl | ⟨h, hb⟩
  · rw [drop_end s s.size (by omega), drop_end s (s.size + 1) (by omega), wordsA, wordsA, if_neg (bl_ne hc), if_pos rfl]
    rfl
  · rw [drop_cons s j h, wordsA, if_pos hb, if_neg (bl_ne hc)]
    rfl
theorem words_skip {s : ByteArray} {j : Nat} {acc : List ByteArray} {c : ByteArray} (hc : c.size = 0) (hb : j = s.size ∨ ∃ h : j < s.size, blank (s[j]'h) = true)
    (hx : acc.map bl ++ wordsA (bl c) ((bl s).drop j) = wordsA [] (bl s)) : acc.map bl ++ wordsA (bl (ByteArray.mk #[])) ((bl s).drop (j + 1)) = wordsA [] (bl s) := by
  rw [← hx]
  congr 1
  rcases hb with rfl | ⟨h, hb⟩
  · rw [drop_end s s.size (by omega), drop_end s (s.size + 1) (by omega), bl_nil hc]
  · rw [drop_cons s j h, wordsA, if_pos hb, if_pos (bl_nil hc)]
theorem words_take {s : ByteArray} {j : Nat} {acc : List ByteArray} {c : ByteArray} (h : j < s.size) (hb : blank (s[j]'h) = false)
    (hx : acc.map bl ++ wordsA (bl c) ((bl s).drop j) = wordsA [] (bl s)) : acc.map bl ++ wordsA (bl (c ++ s.extract j (j + 1))) ((bl s).drop (j + 1)) = wordsA [] (bl s) := by
  rw [← hx, drop_cons s j h, wordsA, if_neg (by rw [hb]; decide), one_ext s j h]
  congr 2
set_option maxRecDepth 100000 in
set_option maxHeartbeats 4000000 in
theorem refWords_any (s : ByteArray) (w : World) (hs : s.size ≤ 1000000) : Calls Tryd.prog 22 #[.string s] w (WordsGives s w) := by
  obtain ⟨i0, hi, hz0, hz1, hz2⟩ := info_parts infoString
  have HI : Hid (RWordsAt s w (.slice none 0 0) (.string ⟨#[]⟩) (.int .i64 0) w) := ⟨0, [], ⟨#[]⟩, Nat.zero_le _, rfl, rfl, Nat.le_refl _, Nat.le_refl _, World.ownsRow_nil _ _ _ _, Below.refl _ _, Lib.hid (fun h => rfl), Lib.hid (by rfl)⟩
  go_enter Tryd.func22, Tryd.ntmps22
  go_wp2
  go_loopw [3, 4, 5] (fun v cur i wr => RWordsAt s w v cur i wr) (fun _ _ i _ => s.size + 1 - (intOf i).toNat)
  case atStart => exact HI.out
  case round =>
    clear HI
    obtain ⟨j, acc, c, hj, rfl, rfl, hcj, hal, hown, hb, hend, hx⟩ := hrel
    have hbs := hb.size
    by_cases hle : j ≤ s.size
    · have hle' : (j : Int) ≤ (s.size : Int) := by omega
      by_cases htake : ∃ h : j < s.size, blank (s[j]'h) = false
      · obtain ⟨hlt, hbl⟩ := htake
        have hlt' : (j : Int) < (s.size : Int) := by omega
        have HX := Lib.hid (words_take hlt hbl hx.out)
        have hn := of_decide_eq_false hbl
        have n1 : (((s[j]'hlt).toNat : Int) != 32) = true := by simp; omega
        have n2 : (((s[j]'hlt).toNat : Int) != 9) = true := by simp; omega
        have n3 : (((s[j]'hlt).toNat : Int) != 13) = true := by simp; omega
        have n4 : (((s[j]'hlt).toNat : Int) != 10) = true := by simp; omega
        have hez : (s.extract j (j + 1)).size = 1 := by rw [one_ext s j hlt, ba_size]; rfl
        clear hbl hn hx hend
        go_wp2
        go_roundw
        case rel => exact ⟨j + 1, acc, c ++ s.extract j (j + 1), by omega, int_eq (by omega), rfl, by rw [ByteArray.size_append, hez]; omega, by omega, hown, hb, Lib.hid (fun h => by omega), HX⟩
        case measure => simp [intOf]; omega
      · have hfl : Hid (j = s.size ∨ ∃ h : j < s.size, blank (s[j]'h) = true) := Lib.hid (by
          by_cases h : j < s.size
          · refine .inr ⟨h, ?_⟩
            cases hb : blank (s[j]'h)
            · exact absurd ⟨h, hb⟩ htake
            · rfl
          · exact .inl (by omega))
        have hcase : (¬ (j : Int) < (s.size : Int)) ∨ ∃ h : j < s.size, ((s[j]'h).toNat = 32 ∨ (s[j]'h).toNat = 9 ∨ (s[j]'h).toNat = 13 ∨ (s[j]'h).toNat = 10) := by
          rcases hfl.out with h | ⟨h, hb⟩
          · exact .inl (by omega)
          · exact .inr ⟨h, of_decide_eq_true hb⟩
        clear htake
        by_cases hc0 : c.size = 0
        · have hE := emp_of c hc0
          have HX := Lib.hid (words_skip hc0 hfl.out hx.out)
          clear hx hend
          rcases hcase with hlt' | ⟨hlt, hcc⟩
          · go_wp2
            go_roundw
            case rel => exact ⟨j + 1, acc, ⟨#[]⟩, by omega, int_eq (by omega), rfl, Nat.zero_le _, by omega, hown, hb, Lib.hid (fun h => rfl), HX⟩
            case measure => simp [intOf]; omega
          · have hlt' : (j : Int) < (s.size : Int) := by omega
            rcases hcc with hcc | hcc | hcc | hcc
            all_goals
              go_wp2
              go_roundw
              case rel => exact ⟨j + 1, acc, ⟨#[]⟩, by omega, int_eq (by omega), rfl, Nat.zero_le _, by omega, hown, hb, Lib.hid (fun h => rfl), HX⟩
              case measure => simp [intOf]; omega
        · have hE := emp_not c (by omega)
          have HX := Lib.hid (words_flush hc0 hfl.out hx.out)
          clear hx hend
          rcases hcase with hlt' | ⟨hlt, hcc⟩
          · go_wp2_with (at_builtin; refine wpList_append_own _ rfl _ _ 31 rfl w.heap.size 9 i0 (.string ⟨#[]⟩) 1 16 Tryd.underlying31 hi hz0 hz1 hz2 rfl (by decide) _ _ _ rfl (hown.alloc _) ⟨wr.heap.size, 0, none⟩ 1 1 [.string c] rfl rfl (new_cell wr _) (by intro u hu; simp at hu; subst hu; rfl) (by unfold maxLen; omega) (by omega) (by simp; omega) ?_)
            intro v' w2 hown3 hgrow _
            have HB2 := Lib.hid (((hb.alloc (by omega) _)).grown hgrow (by simp; omega) (fun k hk => (hown.lt k hk).1))
            clear hgrow
            go_wp2
            go_roundw
            case rel => exact ⟨j + 1, acc ++ [c], ⟨#[]⟩, by omega, int_eq (by omega), rfl, Nat.zero_le _, by simp; omega, by simpa using hown3, HB2.out, Lib.hid (fun h => rfl), HX⟩
            case measure => simp [intOf]; omega
          · have hlt' : (j : Int) < (s.size : Int) := by omega
            rcases hcc with hcc | hcc | hcc | hcc
            all_goals
              go_wp2_with (at_builtin; refine wpList_append_own _ rfl _ _ 31 rfl w.heap.size 9 i0 (.string ⟨#[]⟩) 1 16 Tryd.underlying31 hi hz0 hz1 hz2 rfl (by decide) _ _ _ rfl (hown.alloc _) ⟨wr.heap.size, 0, none⟩ 1 1 [.string c] rfl rfl (new_cell wr _) (by intro u hu; simp at hu; subst hu; rfl) (by unfold maxLen; omega) (by omega) (by simp; omega) ?_)
              intro v' w2 hown3 hgrow _
              have HB2 := Lib.hid (((hb.alloc (by omega) _)).grown hgrow (by simp; omega) (fun k hk => (hown.lt k hk).1))
              clear hgrow
              go_wp2
              go_roundw
              case rel => exact ⟨j + 1, acc ++ [c], ⟨#[]⟩, by omega, int_eq (by omega), rfl, Nat.zero_le _, by simp; omega, by simpa using hown3, HB2.out, Lib.hid (fun h => rfl), HX⟩
              case measure => simp [intOf]; omega
    · have hle' : ¬ (j : Int) ≤ (s.size : Int) := by omega
      have HX : Hid (acc.map bl = wordsA [] (bl s)) := Lib.hid (by
        have h0 := hend.out (by omega)
        rw [← hx.out, bl_nil h0, drop_end s j (by omega)]
        simp [wordsA])
      clear hx hend
      go_wp2
      go_ret
      exact WordsGives.of hown hb HX.out

theorem eat_sp : spellL [97, 195, 169, 255] = [97, 123, 101, 57, 125, 123, 98, 97, 100, 125] := by decide +kernel
theorem eat_ct : (signs [97, 195, 169, 255]).length = 3 := by decide +kernel
theorem eat_fd : foldL [97, 66, 45, 67] = [97, 98, 45, 99] := by decide +kernel
theorem eat_vl : validB [255] = false := by decide +kernel
theorem eat_cl : cleanL [97, 9, 98] = [97, 32, 98] := by decide +kernel
end Go.Proofs.YtpmhajpaijngmaaDoor.Glyph
