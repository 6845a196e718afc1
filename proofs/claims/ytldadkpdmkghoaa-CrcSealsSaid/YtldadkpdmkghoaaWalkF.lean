/-
  Walk of the law CrcSeals where the second string has four bytes or more.
-/
import Derived.Test.YtldadkpdmkghoaaWalkG
import Derived.Test.YtldadkpdmkghoaaKept
namespace Go.Proofs.Ytldadkpdmkghoaa
open Go.RowKit

theorem fits_back (t : ByteArray) (w : World) (ht : t.size ≤ 1000) (h4 : 4 ≤ t.size) :
    Calls Try.prog 15 #[.string t] w fun e w' => e = .returned (.bool ((t.extract (t.size - 4) t.size).toList == (bytesB (sumS (bl (t.extract 0 (t.size - 4))))).toList)) ∧ Below w.heap.size w w' := by
  have h := fits_any t w (by omega) h4
  rw [← fits_eq t h4] at h
  exact h

set_option maxHeartbeats 1000000 in
theorem crcSeals_long (s t : ByteArray) (w : World) (hs : s.size ≤ 1000) (ht : t.size ≤ 1000) (h4 : 4 ≤ t.size) :
    Calls Try.prog 4 #[.string s, .string t] w fun e w' => e = .returned (.bool true) ∧ Below w.heap.size w w' := by
  have hz := bytesB_size
  have hx : (t.extract 0 (t.size - 4)).size ≤ 1000 := by simp [ByteArray.size_extract]; omega
  have hN : ((t.size : Int) - 4).toNat = t.size - 4 := by omega
  have d1 : decide ((1000 : Int) < (s.size : Int)) = false := by simp; omega
  have d2 : decide ((1000 : Int) < (t.size : Int)) = false := by simp; omega
  have d3 : decide ((4 : Int) ≤ (t.size : Int)) = true := by simp; omega
  go_enter Try.func4, Try.ntmps4
  go_wp2
  refine wp_region_kept (by kernel_rfl) (by kernel_rfl) ?_
  repeat (go_big_quiet_step ((first | (exact fun _ => rfl) | (intro hk; go_at_call 11; exact hk.call_same (refSum_0 _ _ (by omega))) | (intro hk; go_at_call 9; exact hk.call (refBytes_any _ _ (sum_lt _))))))
  refine wpQuiet_nil ?_
  intro w1 hk
  have HB := Lib.hid hk.below
  clear hk
  go_wp2_with (first | (go_at_call 14; refine (seal_cat _ _ (by omega)).mono ?_; rintro e w1 ⟨rfl, hb⟩; have HB := Lib.hid (HB.out.trans (hb.mono HB.out.size)); clear hb) | (go_at_call 11; refine (refSum_0 _ _ (by omega)).mono ?_; rintro e w' ⟨rfl, rfl⟩) | (go_at_call 9; refine (refBytes_any _ _ (sum_lt _)).mono ?_; rintro e w1 ⟨rfl, hb⟩; have HB := Lib.hid (HB.out.trans (hb.mono HB.out.size)); clear hb) | (go_at_call 15; refine (fits_back _ _ (by omega) (by omega)).mono ?_; rintro e w1 ⟨rfl, hb⟩; have HB := Lib.hid (HB.out.trans (hb.mono HB.out.size)); clear hb) | (go_at_call 7; refine (works_any _).mono ?_; rintro e w1 ⟨rfl, hb⟩; have HB := Lib.hid (HB.out.trans (hb.mono HB.out.size)); clear hb))
  go_ret
  exact ⟨rfl, HB.out⟩

set_option maxHeartbeats 1000000 in
theorem crcSeals_any (s t : ByteArray) (w : World) (hs : s.size ≤ 9223372036854775807) (ht : t.size ≤ 9223372036854775807) :
    Calls Try.prog 4 #[.string s, .string t] w fun e w' => e = .returned (.bool true) ∧ Below w.heap.size w w' := by
  have HB : Hid (Below w.heap.size w w) := Below.refl _ _
  by_cases h1 : s.size ≤ 1000
  · by_cases h2 : t.size ≤ 1000
    · by_cases h4 : 4 ≤ t.size
      · exact crcSeals_long s t w h1 h2 h4
      · exact crcSeals_short s t w h1 (by omega)
    · have h3 : 1000 < t.size := by omega
      clear h2
      go_enter Try.func4, Try.ntmps4
      go_wp2_with (go_at_call 7; refine (works_any _).mono ?_; rintro e w1 ⟨rfl, hb⟩; have HB := Lib.hid (HB.out.trans (hb.mono HB.out.size)); clear hb)
      go_ret
      exact ⟨rfl, HB.out⟩
  · have h3 : 1000 < s.size := by omega
    clear h1
    go_enter Try.func4, Try.ntmps4
    go_wp2_with (go_at_call 7; refine (works_any _).mono ?_; rintro e w1 ⟨rfl, hb⟩; have HB := Lib.hid (HB.out.trans (hb.mono HB.out.size)); clear hb)
    go_ret
    exact ⟨rfl, HB.out⟩
end Go.Proofs.Ytldadkpdmkghoaa
