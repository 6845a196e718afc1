/-
  Walks of the program's own sums: Add, Sum.
-/
import Derived.Test.YtldadkpdmkghoaaBits
namespace Go.Proofs.Ytldadkpdmkghoaa
open Go.RowKit

set_option maxHeartbeats 400000 in
theorem add_any (n : Nat) (s : ByteArray) (w : World) (hn : n < 4294967296) (hs : s.size ≤ 100000) :
    Calls Try.prog 10 #[.int .u32 n, .string s] w fun e w' => e = .returned (.int .u32 (addS n (bl s))) ∧ w = w' := by
  have HI := Lib.hid (invM n hn)
  go_enter Try.func10, Try.ntmps10
  go_wp2
  go_loop [5, 6, 11] (fun x _ i => ∃ k : Nat, k ≤ s.size ∧ i = .int .i64 k ∧ x = .int .u32 (run (4294967295 - n) ((bl s).take k))) (fun _ _ i => s.size - (intOf i).toNat)
  case atStart => exact ⟨0, Nat.zero_le _, rfl, by rw [HI.out]; rfl⟩
  case round =>
    obtain ⟨k, hk, rfl, rfl⟩ := hrel
    have hlt := run_lt ((bl s).take k) (x := 4294967295 - n) (by omega)
    by_cases hks : k < s.size
    · have HS : Hid (run (4294967295 - n) ((bl s).take (k + 1)) = addB (run (4294967295 - n) ((bl s).take k)) s[k]) := by
        show run (4294967295 - n) ((bl s).take (k + 1)) = addB (run (4294967295 - n) ((bl s).take k)) s[k]
        rw [take_snoc s k hks, run_snoc]
      have hb := byte_lt s[k]
      go_wp2_with (go_at_call 17; refine (shift_xor _ _ _ (by omega) (by omega)).mono ?_; rintro e w' ⟨rfl, rfl⟩)
      go_round
      case rel => exact ⟨k + 1, by omega, by go_num, by rw [HS.out]; rfl⟩
      case measure => simp [intOf]; omega
    · have HE : Hid (addS n (bl s) = 4294967295 - run (4294967295 - n) ((bl s).take k)) := by
        show addS n (bl s) = 4294967295 - run (4294967295 - n) ((bl s).take k)
        rw [List.take_of_length_le (by simp; omega)]; rfl
      have HI2 := Lib.hid (invM _ hlt)
      go_wp2
      go_ret
      exact ⟨ret_int (by rw [HE.out, HI2.out]), rfl⟩
theorem add_0 (s : ByteArray) (w : World) (hs : s.size ≤ 100000) :
    Calls Try.prog 10 #[.int .u32 0, .string s] w fun e w' => e = .returned (.int .u32 (sumS (bl s))) ∧ w = w' := add_any 0 s w (by decide) hs
theorem sum_any (s : ByteArray) (w : World) (hs : s.size ≤ 100000) :
    Calls Try.prog 12 #[.string s] w fun e w' => e = .returned (.int .u32 (sumS (bl s))) ∧ w = w' := by
  go_enter Try.func12, Try.ntmps12
  go_wp2_with (go_at_call 10; refine (add_0 _ _ (by omega)).mono ?_; rintro e w' ⟨rfl, rfl⟩)
  go_ret
  exact ⟨rfl, rfl⟩
end Go.Proofs.Ytldadkpdmkghoaa
