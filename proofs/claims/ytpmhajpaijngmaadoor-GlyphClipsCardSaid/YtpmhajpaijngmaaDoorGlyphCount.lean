/-
  Valid, Plain, Count and Clip: by ranges over the text.
-/
import Derived.Test.YtpmhajpaijngmaaDoorGlyphBase
namespace Go.Proofs.YtpmhajpaijngmaaDoor.Glyph
open Go.RowKit

theorem AtHand.signs {s : ByteArray} {p r k : Nat} (hp : p < s.size) (H : AtHand s p r k) : signs ((bl s).drop p) = sg ((bl s).drop p) :: signs ((bl s).drop (p + k)) := by
  rw [signs_cons _ (drop_ne s p hp), H.drop]
theorem next_at {P : Program} (w : World) (s : ByteArray) (p r k : Nat) (hp : p < s.size) (hd : Utf8.decode s p = (r, k)) (ty : TypeId) :
    (Instr.next (.pointer (some ⟨w.heap.size, 0, none⟩)) true ty).run P (w.iter s p) = .ok (.tuple #[.bool true, .int .i64 p, .int .i32 r]) (w.iter s (p + k)) := by
  have := run_next_any (P := P) w s p ty hp
  rw [hd] at this
  exact this
def validB (l : List UInt8) : Bool := decide (∀ n ∈ signs l, 0 ≤ n)
theorem valid_end (s : ByteArray) (p : Nat) (h : ¬ p < s.size) : validB ((bl s).drop p) = true := by
  rw [drop_end s p h]; rfl
theorem valid_next {s : ByteArray} {p r k : Nat} (hp : p < s.size) (H : AtHand s p r k) : validB ((bl s).drop p) = (!decide (sg ((bl s).drop p) = -1) && validB ((bl s).drop (p + k))) := by
  unfold validB
  rw [H.signs hp, Bool.eq_iff_iff]
  simp only [decide_eq_true_eq, Bool.and_eq_true, Bool.not_eq_true', decide_eq_false_iff_not, List.forall_mem_cons]
  have h0 : 0 ≤ sg ((bl s).drop p) ↔ ¬ sg ((bl s).drop p) = -1 := by
    rcases sg_cases _ (drop_ne s p hp) with h | ⟨r, t, _, _, h⟩ <;> omega
  rw [h0]
set_option maxHeartbeats 1000000 in
theorem valid_any (s : ByteArray) (w : World) :
    Calls Tryd.prog 9 #[.string s] w fun e w' => e = .returned (.bool (validB (bl s))) ∧ Below w.heap.size w w' := by
  go_enter Tryd.func9, Tryd.ntmps9
  go_wp2
  go_loopw [] (fun wr => ∃ p, wr = w.iter s p ∧ Hid (validB (bl s) = validB ((bl s).drop p))) (fun wr => s.size - wr.iterPos w.heap.size)
  case atStart => exact ⟨0, rfl, Lib.hid rfl⟩
  case round =>
    obtain ⟨p, rfl, hc⟩ := hrel
    by_cases hp : p < s.size
    · obtain ⟨r, k, H, hd, hk, hk2, hr⟩ := at_hand s p hp
      have hnx := next_at (P := Tryd.prog) w s p r k hp hd
      have hi := fun W => invalid_at s p r k hp H W
      have hn := Lib.hid (valid_next hp H.out)
      clear hd
      cases hv : decide (sg ((bl s).drop p) = -1)
      · rw [hv] at hi
        go_wp2_with fail
        refine (hi _).mono ?_
        rintro e w' ⟨rfl, rfl⟩
        go_wp2
        go_roundw
        case rel => exact ⟨p + k, rfl, Lib.hid (by rw [hc.out, hn.out, hv]; rfl)⟩
        case measure => simp; omega
      · rw [hv] at hi
        go_wp2_with fail
        refine (hi _).mono ?_
        rintro e w' ⟨rfl, rfl⟩
        go_wp2
        go_ret
        exact ⟨by rw [hc.out, hn.out, hv]; rfl, below_iter w s _⟩
    · have hnx := fun ty => run_next_end (P := Tryd.prog) w s p ty hp
      have hn := Lib.hid (valid_end s p hp)
      go_wp2
      go_ret
      exact ⟨by rw [hc.out, hn.out]; rfl, below_iter w s _⟩
def printB (l : List UInt8) : Bool := decide (∀ n ∈ signs l, 32 ≤ n ∧ n ≤ 126)
theorem print_end (s : ByteArray) (p : Nat) (h : ¬ p < s.size) : printB ((bl s).drop p) = true := by
  rw [drop_end s p h]; rfl
theorem print_next {s : ByteArray} {p r k : Nat} (hp : p < s.size) (H : AtHand s p r k) : printB ((bl s).drop p) = (plainB r && printB ((bl s).drop (p + k))) := by
  unfold printB plainB
  rw [H.signs hp, Bool.eq_iff_iff]
  simp only [decide_eq_true_eq, Bool.and_eq_true, List.forall_mem_cons]
  have h0 : (32 ≤ sg ((bl s).drop p) ∧ sg ((bl s).drop p) ≤ 126) ↔ (32 ≤ (r : Int) ∧ (r : Int) ≤ 126) := by
    by_cases hb : sg ((bl s).drop p) = -1
    · have := sg_bad _ hb
      have hr := H.2.1
      rw [this] at hr
      obtain ⟨rfl, _⟩ := Prod.mk.inj hr
      rw [hb]
      decide
    · rw [sg_of_good _ hb, H.one]
  rw [h0]
set_option maxHeartbeats 1000000 in
theorem print_any (s : ByteArray) (w : World) :
    Calls Tryd.prog 10 #[.string s] w fun e w' => e = .returned (.bool (printB (bl s))) ∧ Below w.heap.size w w' := by
  go_enter Tryd.func10, Tryd.ntmps10
  go_wp2
  go_loopw [] (fun wr => ∃ p, wr = w.iter s p ∧ Hid (printB (bl s) = printB ((bl s).drop p))) (fun wr => s.size - wr.iterPos w.heap.size)
  case atStart => exact ⟨0, rfl, Lib.hid rfl⟩
  case round =>
    obtain ⟨p, rfl, hc⟩ := hrel
    by_cases hp : p < s.size
    · obtain ⟨r, k, H, hd, hk, hk2, hr⟩ := at_hand s p hp
      have hnx := next_at (P := Tryd.prog) w s p r k hp hd
      have hi := fun W => plain_any r W
      have hn := Lib.hid (print_next hp H.out)
      clear hd
      cases hv : plainB r
      · rw [hv] at hi
        go_wp2_with fail
        refine (hi _).mono ?_
        rintro e w' ⟨rfl, rfl⟩
        go_wp2
        go_ret
        exact ⟨by rw [hc.out, hn.out, hv]; rfl, below_iter w s _⟩
      · rw [hv] at hi
        go_wp2_with fail
        refine (hi _).mono ?_
        rintro e w' ⟨rfl, rfl⟩
        go_wp2
        go_roundw
        case rel => exact ⟨p + k, rfl, Lib.hid (by rw [hc.out, hn.out, hv]; rfl)⟩
        case measure => simp; omega
    · have hnx := fun ty => run_next_end (P := Tryd.prog) w s p ty hp
      have hn := Lib.hid (print_end s p hp)
      go_wp2
      go_ret
      exact ⟨by rw [hc.out, hn.out]; rfl, below_iter w s _⟩
set_option maxHeartbeats 1000000 in
theorem count_any (s : ByteArray) (w : World) (hs : s.size ≤ 1000000) :
    Calls Tryd.prog 11 #[.string s] w fun e w' => e = .returned (.int .i64 (signs (bl s)).length) ∧ Below w.heap.size w w' := by
  go_enter Tryd.func11, Tryd.ntmps11
  go_wp2
  go_loopw [3] (fun v wr => ∃ p n : Nat, wr = w.iter s p ∧ v = .int .i64 n ∧ n ≤ p ∧ p ≤ s.size ∧ Hid ((signs (bl s)).length = n + (signs ((bl s).drop p)).length)) (fun _ wr => s.size - wr.iterPos w.heap.size)
  case atStart => exact ⟨0, 0, rfl, rfl, Nat.le_refl _, Nat.zero_le _, Lib.hid (by rw [List.drop_zero]; omega)⟩
  case round =>
    obtain ⟨p, n, rfl, rfl, hn, hps, hc⟩ := hrel
    by_cases hp : p < s.size
    · obtain ⟨r, k, H, hd, hk, hk2, hr⟩ := at_hand s p hp
      have hnx := next_at (P := Tryd.prog) w s p r k hp hd
      clear hd
      go_wp2
      go_roundw
      case rel => exact ⟨p + k, n + 1, rfl, int_eq (by omega), by omega, hk2, Lib.hid (by rw [hc.out, H.out.signs hp, List.length_cons]; omega)⟩
      case measure => simp; omega
    · have hnx := fun ty => run_next_end (P := Tryd.prog) w s p ty hp
      go_wp2
      go_ret
      refine ⟨ret_int ?_, below_iter w s _⟩
      rw [hc.out, drop_end s p hp, signs_nil, List.length_nil]
      omega
def clipL (l : List UInt8) (n : Int) : List UInt8 := l.take (cl l n.toNat)
theorem clip_next {s : ByteArray} {p r k : Nat} (hp : p < s.size) (H : AtHand s p r k) (n : Int) (hn : ¬ n < 1) : cl ((bl s).drop p) n.toNat = k + cl ((bl s).drop (p + k)) (n - 1).toNat := by
  have e : n.toNat = (n - 1).toNat + 1 := by omega
  rw [e, cl_cons _ (drop_ne s p hp), H.drop, H.2.2]
set_option maxHeartbeats 1000000 in
theorem clip_any (s : ByteArray) (n : Int) (w : World) (_hs : s.size ≤ 1000000) (h1 : -9223372036854775808 ≤ n) (h2 : n ≤ 9223372036854775807) :
    Calls Tryd.prog 12 #[.string s, .int .i64 n] w fun e w' => e = .returned (.string (ba (clipL (bl s) n))) ∧ Below w.heap.size w w' := by
  go_enter Tryd.func12, Tryd.ntmps12
  go_wp2
  go_loopw [1] (fun v wr => ∃ (p : Nat) (m : Int), wr = w.iter s p ∧ v = .int .i64 m ∧ p ≤ s.size ∧ -9223372036854775808 ≤ m ∧ m ≤ 9223372036854775807 ∧ Hid (cl (bl s) n.toNat = p + cl ((bl s).drop p) m.toNat)) (fun _ wr => s.size - wr.iterPos w.heap.size)
  case atStart => exact ⟨0, n, rfl, rfl, Nat.zero_le _, h1, h2, Lib.hid (by rw [List.drop_zero]; omega)⟩
  case round =>
    obtain ⟨p, m, rfl, rfl, hps, m1, m2, hc⟩ := hrel
    by_cases hp : p < s.size
    · obtain ⟨r, k, H, hd, hk, hk2, hr⟩ := at_hand s p hp
      have hnx := next_at (P := Tryd.prog) w s p r k hp hd
      clear hd
      by_cases hm : m < 1
      · go_wp2
        go_ret
        refine ⟨?_, below_iter w s _⟩
        have e := hc.out
        rw [show m.toNat = 0 by omega, cl_zero] at e
        show Ending.returned (.string (s.extract 0 p)) = _
        refine congrArg (fun x => Ending.returned (.string x)) (ba_ext ?_)
        rw [bl_to, bl_ba]
        unfold clipL
        rw [e]; rfl
      · have hq := Lib.hid (clip_next hp H.out m hm)
        go_wp2
        go_roundw
        case rel => exact ⟨p + k, m - 1, rfl, rfl, hk2, by omega, by omega, Lib.hid (by rw [hc.out, hq.out]; omega)⟩
        case measure => simp; omega
    · have hnx := fun ty => run_next_end (P := Tryd.prog) w s p ty hp
      go_wp2
      go_ret
      refine ⟨?_, below_iter w s _⟩
      have e := hc.out
      rw [drop_end s p hp, cl_nil] at e
      show Ending.returned (.string s) = _
      refine congrArg (fun x => Ending.returned (.string x)) (ba_ext ?_)
      rw [bl_ba]
      unfold clipL
      rw [e, List.take_of_length_le (by rw [bl_len]; omega)]
end Go.Proofs.YtpmhajpaijngmaaDoor.Glyph
