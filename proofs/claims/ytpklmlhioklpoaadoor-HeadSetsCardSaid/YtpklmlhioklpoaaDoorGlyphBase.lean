/-
  The small tests of runes at this program, and the runes of a text as the range over a string gives them.
-/
import Derived.Test.YtpklmlhioklpoaaDoorGlyphPlain
import Derived.Test.YtpklmlhioklpoaaDoorProg
import Derived.WalkKit
import Derived.WalkSpells
import Derived.WalkLawsBesides
import Derived.WalkSmall
import Derived.ShutString
import Derived.RegionTactic
import Derived.Lib.Walk
import Derived.Lib.Strings
import Derived.Lib.OthersKept
import Derived.Lib.Hide
import Derived.Below
import Derived.Laws.BitsAllLaws
import Derived.Laws.BytesArg
import Derived.Laws.Rows
import Derived.Laws.Tables
import Derived.Outline
namespace Go.Proofs.YtpklmlhioklpoaaDoor.Glyph
open Go.RowKit

theorem ret_int {k : IntKind} {a b : Int} (h : a = b) : Ending.returned (.int k a) = .returned (.int k b) := by rw [h]
theorem int_eq {k : IntKind} {a b : Int} (h : a = b) : Value.int k a = .int k b := by rw [h]
abbrev bl (s : ByteArray) : List UInt8 := s.data.toList
abbrev ba (l : List UInt8) : ByteArray := ⟨l.toArray⟩
theorem bl_len (s : ByteArray) : (bl s).length = s.size := by show s.data.toList.length = _; rw [← Lib.size_eq]
theorem ba_size (l : List UInt8) : (ba l).size = l.length := by simp [ByteArray.size]
theorem bl_ba (l : List UInt8) : bl (ba l) = l := by simp
theorem ba_bl (s : ByteArray) : ba (bl s) = s := by simp
theorem ba_append (l m : List UInt8) : ba l ++ ba m = ba (l ++ m) := by
  apply ByteArray.ext
  rw [ByteArray.data_append]
  simp
theorem toList_bl (a : ByteArray) : a.toList = bl a := Lib.toList_data a
theorem bl_extract (s : ByteArray) (a b : Nat) : bl (s.extract a b) = ((bl s).drop a).take (b - a) := by
  exact Lib.extract_data s a b
theorem bl_from (s : ByteArray) (a : Nat) : bl (s.extract a s.size) = (bl s).drop a := by
  rw [bl_extract, List.take_of_length_le]
  rw [List.length_drop, bl_len]
  omega
theorem bl_to (s : ByteArray) (b : Nat) : bl (s.extract 0 b) = (bl s).take b := by rw [bl_extract]; simp
theorem ba_ext {a b : ByteArray} (h : bl a = bl b) : a = b := by rw [← ba_bl a, h, ba_bl]
theorem drop_ne (s : ByteArray) (p : Nat) (h : p < s.size) : (bl s).drop p ≠ [] := by
  intro e
  have := congrArg List.length e
  rw [List.length_drop, bl_len, List.length_nil] at this
  omega
theorem drop_end (s : ByteArray) (p : Nat) (h : ¬ p < s.size) : (bl s).drop p = [] := List.drop_eq_nil_of_le (by rw [bl_len]; omega)
theorem drop_drop (l : List UInt8) (p k : Nat) : (l.drop p).drop k = l.drop (p + k) := List.drop_drop

theorem get_bl (s : ByteArray) (p i : Nat) : (s.get! (p + i)).toNat = at4 ((bl s).drop p) i := by
  unfold at4
  rw [List.getD_eq_getElem?_getD, List.getElem?_drop]
  by_cases h : p + i < s.size
  · rw [List.getElem?_eq_getElem (by rw [bl_len]; exact h)]
    show (s.data[p + i]!).toNat = (s.data.toList[p + i]'(by rw [bl_len]; exact h)).toNat
    rw [getElem!_pos s.data (p + i) h]
    rfl
  · rw [List.getElem?_eq_none (by rw [bl_len]; omega)]
    have : s.get! (p + i) = 0 := by
      show s.data[p + i]! = 0
      rw [getElem!_neg _ _ (by exact h)]
      rfl
    rw [this]; rfl
/-- The model's rune at a place is the rune that the rest of the text begins with. -/
theorem decode_dec (s : ByteArray) (p : Nat) : Utf8.decode s p = dec ((bl s).drop p) := by
  rw [Lib.decode_at]
  unfold dec
  rw [show s.get! p = s.get! (p + 0) from rfl, get_bl, get_bl, get_bl, get_bl, List.length_drop, bl_len]
/-- All that a round knows of the rune at hand. -/
def AtHand (s : ByteArray) (p r k : Nat) : Prop := Utf8.decode s p = (r, k) ∧ dec ((bl s).drop p) = (r, k) ∧ wd ((bl s).drop p) = k
theorem at_hand (s : ByteArray) (p : Nat) (h : p < s.size) : ∃ r k, Hid (AtHand s p r k) ∧ Utf8.decode s p = (r, k) ∧ 1 ≤ k ∧ p + k ≤ s.size ∧ r ≤ 1114111 := by
  have hne := drop_ne s p h
  have h1 := wd_pos _ hne
  have h2 := dec_le _ hne
  rw [List.length_drop, bl_len] at h1
  have hd := decode_dec s p
  obtain ⟨r, k⟩ : Nat × Nat := dec ((bl s).drop p)
  refine ⟨(dec ((bl s).drop p)).1, (dec ((bl s).drop p)).2, ⟨hd, rfl, rfl⟩, hd, h1.1, ?_, h2⟩
  unfold wd at h1
  omega
theorem AtHand.drop {s : ByteArray} {p r k : Nat} (H : AtHand s p r k) : ((bl s).drop p).drop (wd ((bl s).drop p)) = (bl s).drop (p + k) := by
  rw [H.2.2, drop_drop]
theorem AtHand.one {s : ByteArray} {p r k : Nat} (H : AtHand s p r k) : (dec ((bl s).drop p)).1 = r := by rw [H.2.1]

theorem below_iter (w : World) (s : ByteArray) (p : Nat) : Below w.heap.size w (w.iter s p) := (Below.refl _ w).alloc (Nat.le_refl _) _

def plainB (r : Int) : Bool := decide (32 ≤ r) && decide (r ≤ 126)
def ctlB (r : Int) : Bool := decide (r < 32) || (decide (126 < r) && decide (r ≤ 159))
def blankB (r : Int) : Bool := (r == 32) || (r == 9) || (r == 13) || (r == 10)
end Go.Proofs.YtpklmlhioklpoaaDoor.Glyph
