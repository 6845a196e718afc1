/-
  What all texts on nets share: bytes as lists, strings as values.
-/
import Derived.Test.YtkbeppmjdjddhaaDoorProg
import Derived.Test.YtkbeppmjdjddhaaDoorNetsPlain
import Derived.WalkKit
import Derived.WalkSpells
import Derived.WalkLawsBesides
import Derived.Lib.Hide
import Derived.Lib.Strings
import Derived.Lib.IndexBytes
import Derived.WalkSmall
import Derived.ShutString
import Derived.RegionTactic
import Derived.Deep.QuietTactic
import Derived.BigQuiet
import Derived.Laws.IdiomStrings
import Derived.Laws.BytesArg
import Derived.Deep.RegionWith
namespace Go.Proofs.YtkbeppmjdjddhaaDoor.Nets
open Go.RowKit

theorem ret_int {k : IntKind} {a b : Int} (h : a = b) : Ending.returned (.int k a) = .returned (.int k b) := by rw [h]
abbrev bl (s : ByteArray) : List UInt8 := s.data.toList
theorem bl_get (s : ByteArray) (k : Nat) (h : k < s.size) : (bl s)[k]'(by simpa using h) = s[k] := rfl
theorem take_snoc (s : ByteArray) (k : Nat) (h : k < s.size) : (bl s).take (k + 1) = (bl s).take k ++ [s[k]] := by
  rw [List.take_succ_eq_append_getElem (by simpa using h)]; rfl
theorem emp_true (s : ByteArray) (h : s.toList.isEmpty = true) : bl s = [] := by
  rw [Lib.toList_data] at h
  exact List.isEmpty_iff.1 h
theorem emp_of (s : ByteArray) (h : s.size = 0) : s.toList.isEmpty = true := by
  rw [Lib.toList_data, List.isEmpty_iff]
  exact List.length_eq_zero_iff.1 (by simpa using h)
theorem emp_not (s : ByteArray) (h : 0 < s.size) : s.toList.isEmpty = false := by
  rcases hb : s.toList.isEmpty with _ | _
  · rfl
  · have := emp_true s hb
    have e : (bl s).length = s.size := by simp
    rw [this] at e
    simp at e
    omega
theorem some_u8 (c k : UInt8) : (some c = some k) ↔ c.toNat = k.toNat := by
  constructor
  · intro h; rw [Option.some.inj h]
  · intro h; rw [UInt8.toNat.inj h]
theorem bl_get? (s : ByteArray) (k : Nat) (h : k < s.size) : (bl s)[k]? = some s[k] := by
  rw [List.getElem?_eq_getElem (by simpa using h)]; rfl
theorem bl_ne (s : ByteArray) (h : 0 < s.size) : bl s ≠ [] := by
  intro e
  have : (bl s).length = s.size := by simp
  rw [e] at this
  simp at this
  omega
abbrev str (l : List UInt8) : Value := .string ⟨l.toArray⟩
/-- A string's parts, as lists. -/
theorem str_extract (s : ByteArray) (a b : Nat) : Value.string (s.extract a b) = str (((bl s).drop a).take (b - a)) := by
  have h := Lib.extract_data s a b
  show _ = Value.string ⟨((s.data.toList.drop a).take (b - a)).toArray⟩
  rw [← h]
theorem str_of (x : ByteArray) (l : List UInt8) (h : bl x = l) : Value.string x = str l := by subst h; rfl
end Go.Proofs.YtkbeppmjdjddhaaDoor.Nets
