/-
  Walks of the laws CrcSums and CrcParts.
-/
import Derived.Test.YtldadkpdmkghoaaWalkD
namespace Go.Proofs.Ytldadkpdmkghoaa
open Go.RowKit

theorem num_lt (l : List UInt8) (h : l.length ≤ 4) : numS l < 4294967296 := by
  match l, h with
  | [], _ => decide
  | [a], _ => have := byte_lt a; show a.toNat + 256 * 0 < _; omega
  | [a, b], _ => have := byte_lt a; have := byte_lt b; show a.toNat + 256 * (b.toNat + 256 * 0) < _; omega
  | [a, b, c], _ => have := byte_lt a; have := byte_lt b; have := byte_lt c; show a.toNat + 256 * (b.toNat + 256 * (c.toNat + 256 * 0)) < _; omega
  | [a, b, c, d], _ => have := byte_lt a; have := byte_lt b; have := byte_lt c; have := byte_lt d; show a.toNat + 256 * (b.toNat + 256 * (c.toNat + 256 * (d.toNat + 256 * 0))) < _; omega
theorem bytes_back (s : ByteArray) (h : s.size = 4) : ((bytesB (numS (bl s))).toList == s.toList) = true := by
  rw [Lib.toList_data, Lib.toList_data]
  show (bytesS (numS (bl s)) == bl s) = true
  have e : (bl s).length = 4 := by simp [h]
  generalize bl s = l at *
  match l, e with
  | [a, b, c, d], _ => rw [bytes_num]; simp
theorem number_bytes (n : Nat) (w : World) (hn : n < 4294967296) :
    Calls Try.prog 8 #[.string (bytesB n)] w fun e w' => e = .returned (.tuple #[.int .u32 n, .int .i64 0]) ∧ w = w' := by
  have h := number_yes (bytesB n) w (bytesB_size n)
  rw [bytesB_bl, num_bytes n hn] at h
  exact h
theorem sum_cat (s t : ByteArray) (w : World) (hs : s.size ≤ 1000) (ht : t.size ≤ 1000) :
    Calls Try.prog 12 #[.string (s ++ t)] w fun e w' => e = .returned (.int .u32 (addS (sumS (bl s)) (bl t))) ∧ w = w' := by
  have h := sum_any (s ++ t) w (by rw [ByteArray.size_append]; omega)
  rw [show bl (s ++ t) = bl s ++ bl t by unfold bl; rw [ByteArray.data_append]; simp, sum_append] at h
  exact h
theorem add_empty (n : Nat) (w : World) (hn : n < 4294967296) :
    Calls Try.prog 10 #[.int .u32 n, .string ⟨#[]⟩] w fun e w' => e = .returned (.int .u32 n) ∧ w = w' := by
  have h := add_any n ⟨#[]⟩ w hn (by decide)
  rw [show bl ⟨#[]⟩ = [] from rfl, addS_nil n hn] at h
  exact h

set_option maxHeartbeats 1000000 in
theorem crcSums_any (n : Nat) (s : ByteArray) (w : World) (hn : n < 4294967296) (hs : s.size ≤ 9223372036854775807) :
    Calls Try.prog 3 #[.int .u32 n, .string s] w fun e w' => e = .returned (.bool true) ∧ Below w.heap.size w w' := by
  have HB : Hid (Below w.heap.size w w) := Below.refl _ _
  by_cases h1 : s.size ≤ 1000
  · by_cases h4 : s.size = 4
    · have hnum : numS (bl s) < 4294967296 := num_lt _ (by simp [h4])
      have H4 := Lib.hid h4
      have hB := bytes_back s h4
      have e4 : ((s.size : Int) == 4) = true := by simp; omega
      have g1 : 4 ≤ s.size := by omega
      have g2 : s.size ≤ 4 := by omega
      clear h4
      go_enter Try.func3, Try.ntmps3
      go_wp2_with (first | (go_at_call 8; refine (number_yes _ _ H4.out).mono ?_; rintro e w' ⟨rfl, rfl⟩) | (go_at_call 9; refine (refBytes_any _ _ (by assumption)).mono ?_; rintro e w1 ⟨rfl, hb⟩; have HB := Lib.hid (HB.out.trans (hb.mono HB.out.size)); clear hb) | (go_at_call 10; refine (add_any _ _ _ (by assumption) (by omega)).mono ?_; rintro e w' ⟨rfl, rfl⟩) | (go_at_call 11; (first | ((with_reducible refine (refSum_0 _ _ (by omega)).mono ?_)) | ((with_reducible refine (refSum_any _ _ _ (by assumption) (by omega)).mono ?_))); rintro e w' ⟨rfl, rfl⟩) | (go_at_call 12; refine (sum_any _ _ (by omega)).mono ?_; rintro e w' ⟨rfl, rfl⟩) | (go_at_call 13; refine (bytes_any _ _ (by assumption)).mono ?_; rintro e w1 ⟨rfl, hb⟩; have HB := Lib.hid (HB.out.trans (hb.mono HB.out.size)); clear hb) | (go_at_call 7; refine (works_any _).mono ?_; rintro e w1 ⟨rfl, hb⟩; have HB := Lib.hid (HB.out.trans (hb.mono HB.out.size)); clear hb))
      go_ret
      exact ⟨rfl, HB.out⟩
    · have e4 : ((s.size : Int) == 4) = false := by simp; omega
      have e5 : ((s.size : Int) != 4) = true := by simp; omega
      have g : s.size < 4 ∨ 4 < s.size := by omega
      have G := Lib.hid g
      clear h4 g
      go_enter Try.func3, Try.ntmps3
      go_wp2_with (first | (go_at_call 8; refine (number_no _ _ (by omega) G.out).mono ?_; rintro e w' ⟨rfl, rfl⟩) | (go_at_call 9; refine (refBytes_any _ _ (by assumption)).mono ?_; rintro e w1 ⟨rfl, hb⟩; have HB := Lib.hid (HB.out.trans (hb.mono HB.out.size)); clear hb) | (go_at_call 10; refine (add_any _ _ _ (by assumption) (by omega)).mono ?_; rintro e w' ⟨rfl, rfl⟩) | (go_at_call 11; (first | ((with_reducible refine (refSum_0 _ _ (by omega)).mono ?_)) | ((with_reducible refine (refSum_any _ _ _ (by assumption) (by omega)).mono ?_))); rintro e w' ⟨rfl, rfl⟩) | (go_at_call 12; refine (sum_any _ _ (by omega)).mono ?_; rintro e w' ⟨rfl, rfl⟩) | (go_at_call 13; refine (bytes_any _ _ (by assumption)).mono ?_; rintro e w1 ⟨rfl, hb⟩; have HB := Lib.hid (HB.out.trans (hb.mono HB.out.size)); clear hb) | (go_at_call 7; refine (works_any _).mono ?_; rintro e w1 ⟨rfl, hb⟩; have HB := Lib.hid (HB.out.trans (hb.mono HB.out.size)); clear hb))
      go_ret
      exact ⟨rfl, HB.out⟩
  · have h2 : 1000 < s.size := by omega
    clear h1
    go_enter Try.func3, Try.ntmps3
    go_wp2_with (go_at_call 7; refine (works_any _).mono ?_; rintro e w1 ⟨rfl, hb⟩; have HB := Lib.hid (HB.out.trans (hb.mono HB.out.size)); clear hb)
    go_ret
    exact ⟨rfl, HB.out⟩

set_option maxHeartbeats 1000000 in
theorem crcParts_any (s t : ByteArray) (w : World) (hs : s.size ≤ 9223372036854775807) (ht : t.size ≤ 9223372036854775807) :
    Calls Try.prog 5 #[.string s, .string t] w fun e w' => e = .returned (.bool true) ∧ Below w.heap.size w w' := by
  have HB : Hid (Below w.heap.size w w) := Below.refl _ _
  by_cases h1 : s.size ≤ 1000
  · by_cases h2 : t.size ≤ 1000
    · have hsum := sum_lt (bl s)
      go_enter Try.func5, Try.ntmps5
      go_wp2_with (first | (go_at_call 7; refine (works_any _).mono ?_; rintro e w1 ⟨rfl, hb⟩; have HB := Lib.hid (HB.out.trans (hb.mono HB.out.size)); clear hb) | (go_at_call 12; (first | ((with_reducible refine (sum_cat _ _ _ (by omega) (by omega)).mono ?_)) | ((with_reducible refine (sum_any _ _ (by omega)).mono ?_))); rintro e w' ⟨rfl, rfl⟩) | (go_at_call 13; refine (bytes_any _ _ (by assumption)).mono ?_; rintro e w1 ⟨rfl, hb⟩; have HB := Lib.hid (HB.out.trans (hb.mono HB.out.size)); clear hb) | (go_at_call 8; refine (number_bytes _ _ (by assumption)).mono ?_; rintro e w' ⟨rfl, rfl⟩) | (go_at_call 10; (first | ((with_reducible refine (add_empty _ _ (by assumption)).mono ?_)) | ((with_reducible refine (add_any _ _ _ (by assumption) (by omega)).mono ?_))); rintro e w' ⟨rfl, rfl⟩))
      go_ret
      exact ⟨rfl, HB.out⟩
    · have h3 : 1000 < t.size := by omega
      clear h2
      go_enter Try.func5, Try.ntmps5
      go_wp2_with (go_at_call 7; refine (works_any _).mono ?_; rintro e w1 ⟨rfl, hb⟩; have HB := Lib.hid (HB.out.trans (hb.mono HB.out.size)); clear hb)
      go_ret
      exact ⟨rfl, HB.out⟩
  · have h3 : 1000 < s.size := by omega
    clear h1
    go_enter Try.func5, Try.ntmps5
    go_wp2_with (go_at_call 7; refine (works_any _).mono ?_; rintro e w1 ⟨rfl, hb⟩; have HB := Lib.hid (HB.out.trans (hb.mono HB.out.size)); clear hb)
    go_ret
    exact ⟨rfl, HB.out⟩
end Go.Proofs.Ytldadkpdmkghoaa
