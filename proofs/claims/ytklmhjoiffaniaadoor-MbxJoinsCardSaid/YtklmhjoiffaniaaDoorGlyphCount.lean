/-
  Valid, Plain, Count and Clip: by ranges over the text.
-/
import Derived.Test.YtklmhjoiffaniaaDoorGlyphBase
namespace Go.Proofs.YtklmhjoiffaniaaDoor.Glyph
open Go.RowKit

theorem AtHand.signs {s : ByteArray} {p r k : Nat} (hp : p < s.size) (H : AtHand s p r k) : signs ((bl s).drop p) = sg ((bl s).drop p) :: signs ((bl s).drop (p + k)) := by
  rw [signs_cons _ (drop_ne s p hp), H.drop]
theorem next_at {P : Program} (w : World) (s : ByteArray) (p r k : Nat) (hp : p < s.size) (hd : Utf8.decode s p = (r, k)) (ty : TypeId) :
    (Instr.next (.pointer (some ⟨w.heap.size, 0, none⟩)) true ty).run P (w.iter s p) = .ok (.tuple #[.bool true, .int .i64 p, .int .i32 r]) (w.iter s (p + k)) := by
  have := run_next_any (P := P) w s p ty hp
  rw [hd] at this
  exact this
def validB (l : List UInt8) : Bool := decide (∀ n ∈ signs l, 0 ≤ n)
theorem valid_end (s : ByteArray) (p : Nat) (h : ¬ p < s.size) : validB ((bl s).drop p) = true := by
  rw [drop_end s p h]; rfl
theorem valid_next {s : ByteArray} {p r k : Nat} (hp : p < s.size) (H : AtHand s p r k) : validB ((bl s).drop p) = (!decide (sg ((bl s).drop p) = -1) && validB ((bl s).drop (p + k))) := by
  unfold validB
  rw [H.signs hp, Bool.eq_iff_iff]
  simp only [decide_eq_true_eq, Bool.and_eq_true, Bool.not_eq_true', decide_eq_false_iff_not, List.forall_mem_cons]
  have h0 : 0 ≤ sg ((bl s).drop p) ↔ ¬ sg ((bl s).drop p) = -1 := by
    rcases sg_cases _ (drop_ne s p hp) with h | ⟨r, t, _, _, h⟩ <;> omega
  rw [h0]
def printB (l : List UInt8) : Bool := decide (∀ n ∈ signs l, 32 ≤ n ∧ n ≤ 126)
theorem print_end (s : ByteArray) (p : Nat) (h : ¬ p < s.size) : printB ((bl s).drop p) = true := by
  rw [drop_end s p h]; rfl
theorem print_next {s : ByteArray} {p r k : Nat} (hp : p < s.size) (H : AtHand s p r k) : printB ((bl s).drop p) = (plainB r && printB ((bl s).drop (p + k))) := by
  unfold printB plainB
  rw [H.signs hp, Bool.eq_iff_iff]
  simp only [decide_eq_true_eq, Bool.and_eq_true, List.forall_mem_cons]
  have h0 : (32 ≤ sg ((bl s).drop p) ∧ sg ((bl s).drop p) ≤ 126) ↔ (32 ≤ (r : Int) ∧ (r : Int) ≤ 126) := by
    by_cases hb : sg ((bl s).drop p) = -1
    · have := sg_bad _ hb
      have hr := H.2.1
      rw [this] at hr
      obtain ⟨rfl, _⟩ := Prod.mk.inj hr
      rw [hb]
      decide
    · rw [sg_of_good _ hb, H.one]
  rw [h0]
set_option maxRecDepth 100000 in
set_option maxHeartbeats 1000000 in
theorem print_any (s : ByteArray) (w : World) :
    Calls Tryd.prog 60 #[.string s] w fun e w' => e = .returned (.bool (printB (bl s))) ∧ Below w.heap.size w w' := by
  go_enter Tryd.func60, Tryd.ntmps60
  go_wp2
  go_loopw [] (fun wr => ∃ p, wr = w.iter s p ∧ Hid (printB (bl s) = printB ((bl s).drop p))) (fun wr => s.size - wr.iterPos w.heap.size)
  case atStart => exact ⟨0, rfl, Lib.hid rfl⟩
  case round =>
    obtain ⟨p, rfl, hc⟩ := hrel
    by_cases hp : p < s.size
    · obtain ⟨r, k, H, hd, hk, hk2, hr⟩ := at_hand s p hp
      have hnx := next_at (P := Tryd.prog) w s p r k hp hd
      have hi := fun W => plain_any r W
      have hn := Lib.hid (print_next hp H.out)
      clear hd
      cases hv : plainB r
      · rw [hv] at hi
        go_wp2_with fail
        refine (hi _).mono ?_
        rintro e w' ⟨rfl, rfl⟩
        go_wp2
        go_ret
        exact ⟨by rw [hc.out, hn.out, hv]; rfl, below_iter w s _⟩
      · rw [hv] at hi
        go_wp2_with fail
        refine (hi _).mono ?_
        rintro e w' ⟨rfl, rfl⟩
        go_wp2
        go_roundw
        case rel => exact ⟨p + k, rfl, Lib.hid (by rw [hc.out, hn.out, hv]; rfl)⟩
        case measure => simp; omega
    · have hnx := fun ty => run_next_end (P := Tryd.prog) w s p ty hp
      have hn := Lib.hid (print_end s p hp)
      go_wp2
      go_ret
      exact ⟨by rw [hc.out, hn.out]; rfl, below_iter w s _⟩
def clipL (l : List UInt8) (n : Int) : List UInt8 := l.take (cl l n.toNat)
theorem clip_next {s : ByteArray} {p r k : Nat} (hp : p < s.size) (H : AtHand s p r k) (n : Int) (hn : ¬ n < 1) : cl ((bl s).drop p) n.toNat = k + cl ((bl s).drop (p + k)) (n - 1).toNat := by
  have e : n.toNat = (n - 1).toNat + 1 := by omega
  rw [e, cl_cons _ (drop_ne s p hp), H.drop, H.2.2]
end Go.Proofs.YtklmhjoiffaniaaDoor.Glyph
