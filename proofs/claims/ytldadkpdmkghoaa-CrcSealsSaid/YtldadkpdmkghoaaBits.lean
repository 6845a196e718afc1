/-
  The operators of numbers of 32 and of 8 bits, in the walk's spelling.
-/
import Derived.Test.YtldadkpdmkghoaaProg
import Derived.Test.YtldadkpdmkghoaaPlain
import Derived.WalkKit
import Derived.WalkSpells
import Derived.WalkLawsBesides
import Derived.Lib.Hide
import Derived.Lib.Strings
import Derived.Lib.IndexBytes
import Derived.WalkSmall
import Derived.ShutString
import Derived.RegionTactic
import Derived.Deep.QuietTactic
import Derived.BigQuiet
import Derived.Laws.BitsAllLaws
namespace Go.Proofs.Ytldadkpdmkghoaa
open Go.RowKit

theorem ret_int {k : IntKind} {a b : Int} (h : a = b) : Ending.returned (.int k a) = .returned (.int k b) := by rw [h]
theorem int_eq {k : IntKind} {a b : Int} (h : a = b) : Value.int k a = .int k b := by rw [h]
abbrev bl (s : ByteArray) : List UInt8 := s.data.toList
abbrev ba (l : List UInt8) : ByteArray := ⟨l.toArray⟩
theorem take_snoc (s : ByteArray) (k : Nat) (h : k < s.size) : (bl s).take (k + 1) = (bl s).take k ++ [s[k]] := by
  rw [List.take_succ_eq_append_getElem (by simpa using h)]; rfl

theorem and1 (x : Nat) (h : x < 4294967296) : bits .and .u32 (x : Int) 1 = ((x % 2 : Nat) : Int) := by
  have := u32_and_nat x 1 h (by decide)
  rw [Nat.and_one_is_mod] at this
  exact this
theorem xorP (x : Nat) (h : x < 4294967296) : bits .xor .u32 ((x : Int) / 2) 2197175160 = (((x / 2) ^^^ 2197175160 : Nat) : Int) := by
  have := u32_xor_nat (x / 2) 2197175160 (by omega) (by decide)
  exact this
theorem odd_t (x : Nat) (h : x < 4294967296) (hp : x % 2 = 1) : (bits BinOp.and IntKind.u32 (x : Int) 1 == 1) = true := by rw [and1 x h, hp]; rfl
theorem odd_f (x : Nat) (h : x < 4294967296) (hp : ¬ x % 2 = 1) : (bits BinOp.and IntKind.u32 (x : Int) 1 == 1) = false := by
  rw [and1 x h, show x % 2 = 0 by omega]; rfl
theorem inv_nat (n : Nat) (h : n < 4294967296) : 4294967295 ^^^ n = 4294967295 - n := by
  have e : (BitVec.allOnes 32 ^^^ BitVec.ofNat 32 n) = ~~~ BitVec.ofNat 32 n := by rw [BitVec.allOnes_xor]
  have e := congrArg BitVec.toNat e
  rw [BitVec.toNat_xor, BitVec.toNat_not, BitVec.toNat_ofNat, Nat.mod_eq_of_lt h] at e
  exact e
theorem inv32 (n : Nat) (h : n < 4294967296) : bits .xor .u32 4294967295 (n : Int) = ((4294967295 - n : Nat) : Int) := by
  have := u32_xor_nat 4294967295 n (by decide) h
  rw [inv_nat n h] at this
  exact this
theorem invM (n : Nat) (h : n < 4294967296) : bits .xor .u32 IntKind.u32.max (n : Int) = ((4294967295 - n : Nat) : Int) := inv32 n h

set_option maxHeartbeats 400000 in
theorem shift_any (n : Nat) (w : World) (hn : n < 4294967296) :
    Calls Try.prog 17 #[.int .u32 n] w fun e w' => e = .returned (.int .u32 (steps 8 n)) ∧ w = w' := by
  go_enter Try.func17, Try.ntmps17
  go_wp2
  go_loop [0, 3, 4] (fun x _ i => ∃ k : Nat, k ≤ 8 ∧ i = .int .i64 k ∧ x = .int .u32 (steps k n)) (fun _ _ i => 8 - (intOf i).toNat)
  case atStart => exact ⟨0, by omega, rfl, rfl⟩
  case round =>
    obtain ⟨k, hk, rfl, rfl⟩ := hrel
    have hlt := steps_lt hn k
    by_cases hk8 : k < 8
    · obtain ⟨x, hx⟩ : ∃ x, steps k n = x := ⟨_, rfl⟩
      have HX : Hid (steps (k + 1) n = step x) := by show step (steps k n) = step x; rw [hx]
      rw [hx] at hlt ⊢
      clear hx
      by_cases hp : x % 2 = 1
      · have ht := odd_t x hlt hp
        have HP : Hid (bits .xor .u32 ((x : Int) / 2) 2197175160 = ((step x : Nat) : Int)) := by
          show bits .xor .u32 ((x : Int) / 2) 2197175160 = ((step x : Nat) : Int)
          rw [xorP x hlt]; unfold step; rw [if_pos hp]
        clear hp
        go_wp2
        go_round
        case rel => exact ⟨k + 1, by omega, by go_num, by rw [HX.out, HP.out]⟩
        case measure => simp [intOf]; omega
      · have ht := odd_f x hlt hp
        have HP : Hid ((x : Int) / 2 = ((step x : Nat) : Int)) := by
          show (x : Int) / 2 = ((step x : Nat) : Int)
          unfold step; rw [if_neg hp]; rfl
        clear hp
        go_wp2
        go_round
        case rel => exact ⟨k + 1, by omega, by go_num, by rw [HX.out, HP.out]⟩
        case measure => simp [intOf]; omega
    · obtain rfl : k = 8 := by omega
      go_wp2
      go_ret
      exact ⟨rfl, rfl⟩
theorem shift_xor (x c : Nat) (w : World) (hx : x < 4294967296) (hc : c < 256) :
    Calls Try.prog 17 #[.int .u32 (bits .xor .u32 (x : Int) (c : Int))] w fun e w' => e = .returned (.int .u32 (steps 8 (x ^^^ c))) ∧ w = w' := by
  rw [u32_xor_nat x c hx (by omega)]
  exact shift_any _ w (xor_lt32 hx (by omega))
end Go.Proofs.Ytldadkpdmkghoaa
