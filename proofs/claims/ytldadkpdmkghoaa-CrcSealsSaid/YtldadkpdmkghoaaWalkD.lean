/-
  Walks of the seal: Seal, Fits, the book's Below, the chapter's example.
-/
import Derived.Test.YtldadkpdmkghoaaWalkA
import Derived.Test.YtldadkpdmkghoaaWalkB
import Derived.Test.YtldadkpdmkghoaaWalkC
import Derived.Deep.RegionWith
namespace Go.Proofs.Ytldadkpdmkghoaa
open Go.RowKit

theorem sum_lt (l : List UInt8) : sumS l < 4294967296 := addS_lt 0 l
def sealB (s : ByteArray) : ByteArray := s ++ bytesB (sumS (bl s))
theorem sealB_bl (s : ByteArray) : bl (sealB s) = sealS (bl s) := by
  unfold sealB sealS bl
  rw [ByteArray.data_append]
  simp [bytesB]
theorem sealB_size (s : ByteArray) : (sealB s).size = s.size + 4 := by
  unfold sealB; rw [ByteArray.size_append, bytesB_size]

set_option maxHeartbeats 400000 in
theorem seal_any (s : ByteArray) (w : World) (hs : s.size ≤ 100000) :
    Calls Try.prog 14 #[.string s] w fun e w' => e = .returned (.string (sealB s)) ∧ Below w.heap.size w w' := by
  have hz := bytesB_size
  go_enter Try.func14, Try.ntmps14
  go_wp2_with (first | (go_at_call 12; refine (sum_any _ _ (by omega)).mono ?_; rintro e w' ⟨rfl, rfl⟩) | (go_at_call 13; refine (bytes_any _ _ (sum_lt _)).mono ?_; rintro e w1 ⟨rfl, hb⟩))
  go_ret
  exact ⟨rfl, hb⟩

set_option maxHeartbeats 400000 in
theorem below_any (x : Int) (n : Nat) (w : World) (h1 : -9223372036854775808 ≤ x) (h2 : x ≤ 9223372036854775807) (hn : 4 ≤ n) (hn2 : n ≤ 100000) :
    Calls Try.prog 16 #[.int .i64 x, .int .i64 n] w fun e w' => e = .returned (.int .i64 (x % (n : Int))) ∧ w = w' := by
  have hE : x % (n : Int) = if x.tmod n < 0 then x.tmod n + n else x.tmod n := by
    have hp := Int.emod_nonneg x (show (n : Int) ≠ 0 by omega)
    have hl := Int.emod_lt_of_pos x (show (0 : Int) < n by omega)
    have h : x.tmod (n : Int) = x % (n : Int) - ((if 0 ≤ x ∨ (n : Int) ∣ x then 0 else Int.natAbs (n : Int) : Nat) : Int) := Int.tmod_eq_emod
    by_cases hc : 0 ≤ x ∨ (n : Int) ∣ x
    · rw [if_pos hc] at h
      rw [if_neg (by omega)]
      omega
    · rw [if_neg hc, Int.natAbs_natCast] at h
      rw [if_pos (by omega)]
      omega
  have hl := Int.tmod_lt_of_pos x (show (0 : Int) < n by omega)
  have hg : -(n : Int) < x.tmod n := Int.lt_tmod_of_pos x (by omega)
  have HE := Lib.hid hE
  clear hE
  go_enter Try.func16, Try.ntmps16
  go_wp2
  · go_ret
    exact ⟨ret_int (by rw [HE.out, if_pos (by assumption)]), rfl⟩
  · go_ret
    exact ⟨ret_int (by rw [HE.out, if_neg (by omega)]), rfl⟩

set_option maxHeartbeats 400000 in
theorem fits_short (s : ByteArray) (w : World) (hs : s.size < 4) :
    Calls Try.prog 15 #[.string s] w fun e w' => e = .returned (.bool false) ∧ Below w.heap.size w w' := by
  go_enter Try.func15, Try.ntmps15
  go_wp2
  go_ret
  exact ⟨rfl, Below.refl _ _⟩
theorem fits_eq (s : ByteArray) (h4 : 4 ≤ s.size) : ((s.extract (s.size - 4) s.size).toList == (bytesB (sumS (bl (s.extract 0 (s.size - 4))))).toList) = fitsS (bl s) := by
  have e : (bl s).length = s.size := by simp
  have e1 : bl (s.extract (s.size - 4) s.size) = (bl s).drop (s.size - 4) := Lib.extract_to_end s (s.size - 4)
  have e2 : bl (s.extract 0 (s.size - 4)) = (bl s).take (s.size - 4) := by
    have := Lib.extract_data s 0 (s.size - 4)
    simp only [List.drop_zero, Nat.sub_zero] at this
    exact this
  rw [Lib.toList_data, Lib.toList_data]
  show (bl (s.extract (s.size - 4) s.size) == bl (bytesB (sumS (bl (s.extract 0 (s.size - 4)))))) = _
  rw [e1, e2, bytesB_bl]
  unfold fitsS
  rw [e]
  simp [h4, Bool.beq_eq_decide_eq]
theorem ret_fits (s : ByteArray) (h4 : 4 ≤ s.size) : Ending.returned (.bool ((s.extract (s.size - 4) s.size).toList == (bytesB (sumS (bl (s.extract 0 (s.size - 4))))).toList)) = .returned (.bool (fitsS (bl s))) := by rw [fits_eq s h4]

set_option maxHeartbeats 400000 in
theorem fits_any (s : ByteArray) (w : World) (hs : s.size ≤ 100000) (h4 : 4 ≤ s.size) :
    Calls Try.prog 15 #[.string s] w fun e w' => e = .returned (.bool (fitsS (bl s))) ∧ Below w.heap.size w w' := by
  have HF := Lib.hid (ret_fits s h4)
  have hx : (s.extract 0 (s.size - 4)).size ≤ 100000 := by simp [ByteArray.size_extract]; omega
  have hN : ((s.size : Int) - 4).toNat = s.size - 4 := by omega
  go_enter Try.func15, Try.ntmps15
  go_wp2
  go_region_with ((first | (go_at_call 12; refine (sum_any _ _ hx).mono ?_; rintro e w' ⟨rfl, rfl⟩) | (go_at_call 13; refine (bytes_any _ _ (sum_lt _)).mono ?_; rintro e w1 ⟨rfl, hb⟩)))
  all_goals
    go_wp2
    go_ret
    exact ⟨HF.out, Below.trans (below_drewN (Below.refl _ _) _) hb⟩
theorem fits_sealed (s : ByteArray) (w : World) (hs : s.size ≤ 1000) :
    Calls Try.prog 15 #[.string (sealB s)] w fun e w' => e = .returned (.bool true) ∧ Below w.heap.size w w' := by
  have h := fits_any (sealB s) w (by rw [sealB_size]; omega) (by rw [sealB_size]; omega)
  rw [sealB_bl, fits_seal] at h
  exact h
theorem fits_as (s : ByteArray) (b : Bool) (w : World) (hs : s.size ≤ 100000) (h4 : 4 ≤ s.size) (H : Hid (fitsS (bl s) = b)) :
    Calls Try.prog 15 #[.string s] w fun e w' => e = .returned (.bool b) ∧ Below w.heap.size w w' := by
  have h := fits_any s w hs h4
  rw [H.out] at h
  exact h

theorem ex_sum (w : World) : Calls Try.prog 12 #[.string ⟨#[49, 50, 51, 52, 53, 54, 55, 56, 57]⟩] w fun e w' => e = .returned (.int .u32 3808858755) ∧ w = w' := by
  have h := sum_any ⟨#[49, 50, 51, 52, 53, 54, 55, 56, 57]⟩ w (by decide)
  rw [show sumS (bl ⟨#[49, 50, 51, 52, 53, 54, 55, 56, 57]⟩) = 3808858755 by decide +kernel] at h
  exact h
theorem ex_bytes (w : World) : Calls Try.prog 13 #[.int .u32 16909060] w fun e w' => e = .returned (.string ⟨#[4, 3, 2, 1]⟩) ∧ Below w.heap.size w w' := by
  have h := bytes_any 16909060 w (by decide)
  rw [show bytesB 16909060 = ⟨#[4, 3, 2, 1]⟩ by decide +kernel] at h
  exact h
theorem ex_seal (w : World) : Calls Try.prog 14 #[.string ⟨#[97]⟩] w fun e w' => e = .returned (.string (sealB ⟨#[97]⟩)) ∧ Below w.heap.size w w' := seal_any _ w (by decide)
theorem ex_fits (w : World) : Calls Try.prog 15 #[.string (sealB ⟨#[97]⟩)] w fun e w' => e = .returned (.bool true) ∧ Below w.heap.size w w' := fits_sealed _ w (by decide)

set_option maxHeartbeats 1000000 in
theorem works_any (w : World) : Calls Try.prog 7 #[] w fun e w' => e = .returned (.bool true) ∧ Below w.heap.size w w' := by
  have HB : Hid (Below w.heap.size w w) := Below.refl _ _
  go_enter Try.func7, Try.ntmps7
  go_wp2_with (first | (go_at_call 12; refine (ex_sum _).mono ?_; rintro e w' ⟨rfl, rfl⟩) | (go_at_call 13; refine (ex_bytes _).mono ?_; rintro e w1 ⟨rfl, hb⟩; have HB := Lib.hid (HB.out.trans (hb.mono HB.out.size)); clear hb) | (go_at_call 14; refine (ex_seal _).mono ?_; rintro e w1 ⟨rfl, hb⟩; have HB := Lib.hid (HB.out.trans (hb.mono HB.out.size)); clear hb) | (go_at_call 15; refine (ex_fits _).mono ?_; rintro e w1 ⟨rfl, hb⟩; have HB := Lib.hid (HB.out.trans (hb.mono HB.out.size)); clear hb))
  go_ret
  exact ⟨rfl, HB.out⟩
end Go.Proofs.Ytldadkpdmkghoaa
