/-
  Walks of the document's answer: Sum.
-/
import Derived.Test.YtldadkpdmkghoaaBits
namespace Go.Proofs.Ytldadkpdmkghoaa
open Go.RowKit

set_option maxHeartbeats 400000 in
theorem refSum_any (n : Nat) (s : ByteArray) (w : World) (hn : n < 4294967296) (hs : s.size ≤ 100000) :
    Calls Try.prog 11 #[.int .u32 n, .string s] w fun e w' => e = .returned (.int .u32 (addS n (bl s))) ∧ w = w' := by
  go_enter Try.func11, Try.ntmps11
  go_wp2
  go_loop [5, 6, 7, 8, 9] (fun x i _ _ _ => ∃ k : Nat, k ≤ s.size ∧ i = .int .i64 k ∧ x = .int .u32 (run (4294967295 - n) ((bl s).take k))) (fun _ i _ _ _ => s.size - (intOf i).toNat)
  case atStart => exact ⟨0, Nat.zero_le _, rfl, int_eq (by show (4294967295 - (n : Int)) = ((4294967295 - n : Nat) : Int); omega)⟩
  case round =>
    obtain ⟨k, hk, rfl, rfl⟩ := hrel
    have hlt := run_lt ((bl s).take k) (x := 4294967295 - n) (by omega)
    by_cases hks : k < s.size
    · have hb := byte_lt s[k]
      obtain ⟨x, hx⟩ : ∃ x, run (4294967295 - n) ((bl s).take k) = x := ⟨_, rfl⟩
      have HS : Hid (run (4294967295 - n) ((bl s).take (k + 1)) = addB x s[k]) := by
        show run (4294967295 - n) ((bl s).take (k + 1)) = addB x s[k]
        rw [take_snoc s k hks, run_snoc, hx]
      rw [hx] at hlt ⊢
      clear hx
      go_wp2
      go_loop [5, 7, 8, 9] (fun y c j _ => ∃ m : Nat, m ≤ 8 ∧ j = .int .i64 m ∧ y = .int .u32 (rsteps m x s[k].toNat) ∧ c = .int .u8 ((s[k].toNat / 2 ^ m : Nat) : Int)) (fun _ _ j _ => 8 - (intOf j).toNat)
      case atStart => exact ⟨0, by omega, rfl, rfl, by simp⟩
      case round =>
        obtain ⟨m, hm, rfl, rfl, rfl⟩ := hrel
        have hlt2 := rsteps_lt (c := s[k].toNat) hlt m
        have hc2 : s[k].toNat / 2 ^ m < 256 := Nat.lt_of_le_of_lt (Nat.div_le_self _ _) hb
        obtain ⟨y, hy⟩ : ∃ y, rsteps m x s[k].toNat = y := ⟨_, rfl⟩
        obtain ⟨c, hc⟩ : ∃ c, s[k].toNat / 2 ^ m = c := ⟨_, rfl⟩
        rw [hy] at hlt2 ⊢
        rw [hc] at hc2 ⊢
        by_cases hm8 : m < 8
        · have HR : Hid (rsteps (m + 1) x s[k].toNat = rstep y c) := by
            show rstep (rsteps m x s[k].toNat) (s[k].toNat / 2 ^ m) = rstep y c
            rw [hy, hc]
          have HC : Hid (s[k].toNat / 2 ^ (m + 1) = c / 2) := by
            show s[k].toNat / 2 ^ (m + 1) = c / 2
            rw [Nat.pow_succ, ← Nat.div_div_eq_div_mul, hc]
          clear hy hc
          by_cases hp : (y + c) % 2 = 1
          · have ht : (((y : Int) + (c : Int)) % 2 == 1) = true := by simp; omega
            have HP : Hid (bits .xor .u32 ((y : Int) / 2) 2197175160 = ((rstep y c : Nat) : Int)) := by
              show bits .xor .u32 ((y : Int) / 2) 2197175160 = ((rstep y c : Nat) : Int)
              rw [xorP y hlt2]; unfold rstep; rw [if_pos hp]
            clear hp
            go_wp2
            go_round
            case rel => exact ⟨m + 1, by omega, by go_num, by rw [HR.out, HP.out], by rw [HC.out]; rfl⟩
            case measure => simp [intOf]; omega
          · have ht : (((y : Int) + (c : Int)) % 2 == 1) = false := by simp; omega
            have HP : Hid ((y : Int) / 2 = ((rstep y c : Nat) : Int)) := by
              show (y : Int) / 2 = ((rstep y c : Nat) : Int)
              unfold rstep; rw [if_neg hp]; rfl
            clear hp
            go_wp2
            go_round
            case rel => exact ⟨m + 1, by omega, by go_num, by rw [HR.out, HP.out], by rw [HC.out]; rfl⟩
            case measure => simp [intOf]; omega
        · obtain rfl : m = 8 := by omega
          have HY : Hid (addB x s[k] = y) := by
            show addB x s[k] = y
            rw [← rsteps_byte, hy]
          clear hy hc
          go_wp2
          go_round
          case rel => exact ⟨k + 1, by omega, by go_num, by rw [HS.out, HY.out]⟩
          case measure => simp [intOf]; omega
    · have HE : Hid (addS n (bl s) = 4294967295 - run (4294967295 - n) ((bl s).take k)) := by
        show addS n (bl s) = 4294967295 - run (4294967295 - n) ((bl s).take k)
        rw [List.take_of_length_le (by simp; omega)]; rfl
      go_wp2
      go_ret
      exact ⟨ret_int (by rw [HE.out]; omega), rfl⟩
theorem refSum_0 (s : ByteArray) (w : World) (hs : s.size ≤ 100000) :
    Calls Try.prog 11 #[.int .u32 0, .string s] w fun e w' => e = .returned (.int .u32 (sumS (bl s))) ∧ w = w' := refSum_any 0 s w (by decide) hs
end Go.Proofs.Ytldadkpdmkghoaa
