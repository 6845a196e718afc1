/-
  Walk of the law CrcSeals.
-/
import Derived.Test.YtldadkpdmkghoaaWalkD
import Derived.IntWalk
namespace Go.Proofs.Ytldadkpdmkghoaa
open Go.RowKit

theorem seal_cat (s : ByteArray) (w : World) (hs : s.size ≤ 100000) :
    Calls Try.prog 14 #[.string s] w fun e w' => e = .returned (.string (s ++ bytesB (sumS (bl s)))) ∧ Below w.heap.size w w' := seal_any s w hs

set_option maxHeartbeats 1000000 in
theorem crcSeals_short (s t : ByteArray) (w : World) (hs : s.size ≤ 1000) (h4 : t.size < 4) :
    Calls Try.prog 4 #[.string s, .string t] w fun e w' => e = .returned (.bool true) ∧ Below w.heap.size w w' := by
  have hz := bytesB_size
  have d1 : decide ((1000 : Int) < (s.size : Int)) = false := by simp; omega
  have d2 : decide ((1000 : Int) < (t.size : Int)) = false := by simp; omega
  have d3 : decide ((4 : Int) ≤ (t.size : Int)) = false := by simp; omega
  go_enter Try.func4, Try.ntmps4
  go_wp2
  go_quiet (fail)
  have HB := Lib.hid (below_drewN (Below.refl w.heap.size w) nq)
  go_wp2_with (first | (go_at_call 14; refine (seal_cat _ _ (by omega)).mono ?_; rintro e w1 ⟨rfl, hb⟩; have HB := Lib.hid (HB.out.trans (hb.mono HB.out.size)); clear hb) | (go_at_call 11; refine (refSum_0 _ _ (by omega)).mono ?_; rintro e w' ⟨rfl, rfl⟩) | (go_at_call 9; refine (refBytes_any _ _ (sum_lt _)).mono ?_; rintro e w1 ⟨rfl, hb⟩; have HB := Lib.hid (HB.out.trans (hb.mono HB.out.size)); clear hb) | (go_at_call 15; refine (fits_short _ _ (by omega)).mono ?_; rintro e w1 ⟨rfl, hb⟩; have HB := Lib.hid (HB.out.trans (hb.mono HB.out.size)); clear hb) | (go_at_call 7; refine (works_any _).mono ?_; rintro e w1 ⟨rfl, hb⟩; have HB := Lib.hid (HB.out.trans (hb.mono HB.out.size)); clear hb))
  go_ret
  exact ⟨rfl, HB.out⟩

end Go.Proofs.Ytldadkpdmkghoaa
