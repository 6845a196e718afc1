/-
  Valid, Plain, Count and Clip: by ranges over the text.
-/
import Derived.Test.YtpklmlhioklpoaaDoorGlyphBase
namespace Go.Proofs.YtpklmlhioklpoaaDoor.Glyph
open Go.RowKit

theorem AtHand.signs {s : ByteArray} {p r k : Nat} (hp : p < s.size) (H : AtHand s p r k) : signs ((bl s).drop p) = sg ((bl s).drop p) :: signs ((bl s).drop (p + k)) := by
  rw [signs_cons _ (drop_ne s p hp), H.drop]
theorem next_at {P : Program} (w : World) (s : ByteArray) (p r k : Nat) (hp : p < s.size) (hd : Utf8.decode s p = (r, k)) (ty : TypeId) :
    (Instr.next (.pointer (some ⟨w.heap.size, 0, none⟩)) true ty).run P (w.iter s p) = .ok (.tuple #[.bool true, .int .i64 p, .int .i32 r]) (w.iter s (p + k)) := by
  have := run_next_any (P := P) w s p ty hp
  rw [hd] at this
  exact this
def validB (l : List UInt8) : Bool := decide (∀ n ∈ signs l, 0 ≤ n)
theorem valid_end (s : ByteArray) (p : Nat) (h : ¬ p < s.size) : validB ((bl s).drop p) = true := by
  rw [drop_end s p h]; rfl
theorem valid_next {s : ByteArray} {p r k : Nat} (hp : p < s.size) (H : AtHand s p r k) : validB ((bl s).drop p) = (!decide (sg ((bl s).drop p) = -1) && validB ((bl s).drop (p + k))) := by
  unfold validB
  rw [H.signs hp, Bool.eq_iff_iff]
  simp only [decide_eq_true_eq, Bool.and_eq_true, Bool.not_eq_true', decide_eq_false_iff_not, List.forall_mem_cons]
  have h0 : 0 ≤ sg ((bl s).drop p) ↔ ¬ sg ((bl s).drop p) = -1 := by
    rcases sg_cases _ (drop_ne s p hp) with h | ⟨r, t, _, _, h⟩ <;> omega
  rw [h0]
def printB (l : List UInt8) : Bool := decide (∀ n ∈ signs l, 32 ≤ n ∧ n ≤ 126)
theorem print_end (s : ByteArray) (p : Nat) (h : ¬ p < s.size) : printB ((bl s).drop p) = true := by
  rw [drop_end s p h]; rfl
theorem print_next {s : ByteArray} {p r k : Nat} (hp : p < s.size) (H : AtHand s p r k) : printB ((bl s).drop p) = (plainB r && printB ((bl s).drop (p + k))) := by
  unfold printB plainB
  rw [H.signs hp, Bool.eq_iff_iff]
  simp only [decide_eq_true_eq, Bool.and_eq_true, List.forall_mem_cons]
  have h0 : (32 ≤ sg ((bl s).drop p) ∧ sg ((bl s).drop p) ≤ 126) ↔ (32 ≤ (r : Int) ∧ (r : Int) ≤ 126) := by
    by_cases hb : sg ((bl s).drop p) = -1
    · have := sg_bad _ hb
      have hr := H.2.1
      rw [this] at hr
      obtain ⟨rfl, _⟩ := Prod.mk.inj hr
      rw [hb]
      decide
    · rw [sg_of_good _ hb, H.one]
  rw [h0]
def clipL (l : List UInt8) (n : Int) : List UInt8 := l.take (cl l n.toNat)
theorem clip_next {s : ByteArray} {p r k : Nat} (hp : p < s.size) (H : AtHand s p r k) (n : Int) (hn : ¬ n < 1) : cl ((bl s).drop p) n.toNat = k + cl ((bl s).drop (p + k)) (n - 1).toNat := by
  have e : n.toNat = (n - 1).toNat + 1 := by omega
  rw [e, cl_cons _ (drop_ne s p hp), H.drop, H.2.2]
end Go.Proofs.YtpklmlhioklpoaaDoor.Glyph
