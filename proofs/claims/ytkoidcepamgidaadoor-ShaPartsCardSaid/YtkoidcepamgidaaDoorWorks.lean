/-
  The chapter's example.
-/
import Derived.Test.YtkoidcepamgidaaDoorWalkH
namespace Go.Proofs.YtkoidcepamgidaaDoor
open Go.RowKit

theorem digest_abc : digest [97, 98, 99] = [186, 120, 22, 191, 143, 1, 207, 234, 65, 65, 64, 222, 93, 174, 34, 35, 176, 3, 97, 163, 150, 23, 122, 156, 180, 16, 255, 97, 242, 0, 21, 173] := by decide +kernel
def abcB : ByteArray := ⟨#[186, 120, 22, 191, 143, 1, 207, 234, 65, 65, 64, 222, 93, 174, 34, 35, 176, 3, 97, 163, 150, 23, 122, 156, 180, 16, 255, 97, 242, 0, 21, 173]⟩
theorem abc_size : abcB.size = 32 := rfl
theorem abc_head : (abcB.extract 0 4).toList = [186, 120, 22, 191] := by decide +kernel
theorem abc_last (W : World) : (Instr.index 9 (.string abcB) (.int .i64 31)).run Tryd.prog W = .ok (.int .u8 173) W := by
  rw [run_index_string W 9 abcB .i64 31 Tryd.underlying9, dif_pos ⟨by decide, by rw [abc_size]; decide⟩]
  rfl
theorem abc_any (w : World) (ht : Tab w) : Calls Tryd.prog 7 #[.string ⟨#[97, 98, 99]⟩] w fun e w' => e = .returned (.string abcB) ∧ Below w.heap.size w w' := by
  have h := sum_any ⟨#[97, 98, 99]⟩ w ht (by decide)
  have e : digest (bl ⟨#[97, 98, 99]⟩) = [186, 120, 22, 191, 143, 1, 207, 234, 65, 65, 64, 222, 93, 174, 34, 35, 176, 3, 97, 163, 150, 23, 122, 156, 180, 16, 255, 97, 242, 0, 21, 173] := digest_abc
  rw [e] at h
  exact h
theorem none_any (w : World) (ht : Tab w) : Calls Tryd.prog 7 #[.string ⟨#[]⟩] w fun e w' => e = .returned (.string (ba (digest []))) ∧ Below w.heap.size w w' := sum_any ⟨#[]⟩ w ht (by decide)
set_option maxRecDepth 100000 in
set_option maxHeartbeats 400000 in
theorem works_any (w : World) (ht : Tab w) : Calls Tryd.prog 6 #[] w fun e w' => e = .returned (.bool true) ∧ Below w.heap.size w w' := by
  have hw := ht.1
  have HT := Lib.hid ht
  clear ht
  go_enter Tryd.func6, Tryd.ntmps6
  go_wp2_with fail
  refine (abc_any _ HT.out).mono ?_
  rintro e W1 ⟨rfl, hb1⟩
  have z1 := abc_size
  have z2 := abc_head
  have z3 := abc_last
  generalize abcB = S at z1 z2 z3 ⊢
  have HX := Lib.hid (And.intro hb1 (HT.out.next hb1))
  have hz := hb1.size
  clear hb1
  go_wp2_with fail
  refine (new_any _).mono ?_
  rintro e W2 ⟨H, hH, rfl, hA2, hB2⟩
  have HY := Lib.hid (And.intro hA2 (And.intro (HX.out.1.trans (hB2.mono HX.out.1.size)) (HX.out.2.next hB2)))
  clear hA2 hB2
  go_wp2_with fail
  refine (hashSum_any _ _ _ HY.out.1 (by omega) HY.out.2.2 (by decide)).mono ?_
  rintro e W3 ⟨rfl, hB3⟩
  have HZ := Lib.hid (And.intro (HY.out.2.1.trans (hB3.mono HY.out.2.1.size)) (HY.out.2.2.next hB3))
  clear hB3
  go_wp2_with fail
  refine (none_any _ HZ.out.2).mono ?_
  rintro e W4 ⟨rfl, hB4⟩
  have HB := Lib.hid (HZ.out.1.trans (hB4.mono HZ.out.1.size))
  clear hB4
  go_wp2
  go_ret
  exact ⟨rfl, HB.out⟩
end Go.Proofs.YtkoidcepamgidaaDoor
