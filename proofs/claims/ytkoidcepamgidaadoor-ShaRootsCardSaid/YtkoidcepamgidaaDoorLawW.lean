/-
  The laws ShaSums and ShaRoots, walked.
-/
import Derived.Test.YtkoidcepamgidaaDoorWorks
import Derived.Test.YtkoidcepamgidaaDoorRefSum
import Derived.Test.YtkoidcepamgidaaDoorRootD
namespace Go.Proofs.YtkoidcepamgidaaDoor
open Go.RowKit

set_option maxHeartbeats 400000 in
theorem shaSums_any (s : ByteArray) (w : World) (hs : s.size ≤ 9223372036854775807) (ht : Tab w) : Calls Tryd.prog 3 #[.string s] w fun e w' => e = .returned (.bool true) ∧ Below w.heap.size w w' := by
  have HT := Lib.hid ht
  clear ht
  by_cases h : s.size ≤ 300
  · have hS := fun W hT => sum_any s W hT (by omega)
    have hR := fun W => refSum_any s W (by omega)
    generalize ba (digest (bl s)) = D at hS hR
    go_enter Tryd.func3, Tryd.ntmps3
    go_wp2_with fail
    refine (hS _ HT.out).mono ?_
    rintro e W1 ⟨rfl, hb1⟩
    have HX := Lib.hid (And.intro hb1 (HT.out.next hb1))
    clear hb1
    go_wp2_with fail
    refine (hR _).mono ?_
    rintro e W2 ⟨rfl, hb2⟩
    have HY := Lib.hid (And.intro (HX.out.1.trans (hb2.mono HX.out.1.size)) (HX.out.2.next hb2))
    clear hb2
    go_wp2_with fail
    refine (works_any _ HY.out.2).mono ?_
    rintro e W3 ⟨rfl, hb3⟩
    go_wp2
    go_ret
    exact ⟨rfl, HY.out.1.trans (hb3.mono HY.out.1.size)⟩
  · have h2 : 300 < s.size := by omega
    clear h
    go_enter Tryd.func3, Tryd.ntmps3
    go_wp2_with (go_at_call 6; refine (works_any _ HT.out).mono ?_; rintro e W1 ⟨rfl, hb1⟩)
    go_ret
    exact ⟨rfl, hb1⟩

set_option maxHeartbeats 400000 in
theorem shaRoots_any (w : World) (ht : Tab w) : Calls Tryd.prog 4 #[] w fun e w' => e = .returned (.bool true) ∧ Below w.heap.size w w' := by
  have HT := Lib.hid ht
  clear ht
  have hS0 := fun W hT => sum_any ⟨#[]⟩ W hT (by decide)
  have hR0 := fun W => refSum_any ⟨#[]⟩ W (by decide)
  have hS1 := fun W hT => sum_any ⟨#[97, 98, 99]⟩ W hT (by decide)
  have hR1 := fun W => refSum_any ⟨#[97, 98, 99]⟩ W (by decide)
  generalize ba (digest (bl ⟨#[]⟩)) = D0 at hS0 hR0
  generalize ba (digest (bl ⟨#[97, 98, 99]⟩)) = D1 at hS1 hR1
  go_enter Tryd.func4, Tryd.ntmps4
  go_wp2_with fail
  refine (byRoots_any _).mono ?_
  rintro e W1 ⟨rfl, hb1⟩
  have HX1 := Lib.hid (And.intro hb1 (HT.out.next hb1))
  clear hb1
  go_wp2_with fail
  refine (hR0 _).mono ?_
  rintro e W2 ⟨rfl, hb2⟩
  have HX2 := Lib.hid (And.intro (HX1.out.1.trans (hb2.mono HX1.out.1.size)) (HX1.out.2.next hb2))
  clear hb2
  go_wp2_with fail
  refine (hS0 _ HX2.out.2).mono ?_
  rintro e W3 ⟨rfl, hb3⟩
  have HX3 := Lib.hid (And.intro (HX2.out.1.trans (hb3.mono HX2.out.1.size)) (HX2.out.2.next hb3))
  clear hb3
  go_wp2_with fail
  refine (hR1 _).mono ?_
  rintro e W4 ⟨rfl, hb4⟩
  have HX4 := Lib.hid (And.intro (HX3.out.1.trans (hb4.mono HX3.out.1.size)) (HX3.out.2.next hb4))
  clear hb4
  go_wp2_with fail
  refine (hS1 _ HX4.out.2).mono ?_
  rintro e W5 ⟨rfl, hb5⟩
  have HX5 := Lib.hid (And.intro (HX4.out.1.trans (hb5.mono HX4.out.1.size)) (HX4.out.2.next hb5))
  clear hb5
  go_wp2_with fail
  refine (works_any _ HX5.out.2).mono ?_
  rintro e W6 ⟨rfl, hb6⟩
  go_wp2
  go_ret
  exact ⟨rfl, HX5.out.1.trans (hb6.mono HX5.out.1.size)⟩
end Go.Proofs.YtkoidcepamgidaaDoor
