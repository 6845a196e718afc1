/-
  The operators of numbers of 32 bits, in the walk's spelling; turning.
-/
import Derived.Test.YtnndifkilcommaaDoorProg
import Derived.Test.YtnndifkilcommaaDoorShaPlain
import Derived.WalkKit
import Derived.WalkSpells
import Derived.WalkLawsBesides
import Derived.Lib.Hide
import Derived.Lib.Strings
import Derived.Lib.IndexBytes
import Derived.WalkSmall
import Derived.ShutString
import Derived.RegionTactic
import Derived.Deep.QuietTactic
import Derived.BigQuiet
import Derived.Laws.BitsAllLaws
import Derived.Outline
namespace Go.Proofs.YtnndifkilcommaaDoor.Sha
open Go.RowKit

theorem ret_int {k : IntKind} {a b : Int} (h : a = b) : Ending.returned (.int k a) = .returned (.int k b) := by rw [h]
theorem int_eq {k : IntKind} {a b : Int} (h : a = b) : Value.int k a = .int k b := by rw [h]
abbrev bl (s : ByteArray) : List UInt8 := s.data.toList
abbrev ba (l : List UInt8) : ByteArray := ⟨l.toArray⟩

theorem xor_lt32 {a b : Nat} (ha : a < 4294967296) (hb : b < 4294967296) : a ^^^ b < 4294967296 := Nat.xor_lt_two_pow (n := 32) ha hb
theorem or_lt32 {a b : Nat} (ha : a < 4294967296) (hb : b < 4294967296) : a ||| b < 4294967296 := Nat.or_lt_two_pow (n := 32) ha hb
theorem and_lt32 {a b : Nat} (ha : a < 4294967296) : a &&& b < 4294967296 := Nat.lt_of_le_of_lt Nat.and_le_left ha
theorem rot_lt (x n : Nat) (hx : x < 4294967296) : rot x n < 4294967296 :=
  or_lt32 (Nat.lt_of_le_of_lt (Nat.div_le_self _ _) hx) (Nat.mod_lt _ (by decide))
theorem sE_lt (x : Nat) (hx : x < 4294967296) : sE x < 4294967296 := xor_lt32 (xor_lt32 (rot_lt x 7 hx) (rot_lt x 18 hx)) (by omega)
theorem sL_lt (x : Nat) (hx : x < 4294967296) : sL x < 4294967296 := xor_lt32 (xor_lt32 (rot_lt x 17 hx) (rot_lt x 19 hx)) (by omega)
theorem bA_lt (x : Nat) (hx : x < 4294967296) : bA x < 4294967296 := xor_lt32 (xor_lt32 (rot_lt x 2 hx) (rot_lt x 13 hx)) (rot_lt x 22 hx)
theorem bE_lt (x : Nat) (hx : x < 4294967296) : bE x < 4294967296 := xor_lt32 (xor_lt32 (rot_lt x 6 hx) (rot_lt x 11 hx)) (rot_lt x 25 hx)
theorem ch_lt (x y z : Nat) (hx : x < 4294967296) : ch x y z < 4294967296 := or_lt32 (and_lt32 hx) (and_lt32 (by omega))
theorem maj_lt (x y z : Nat) (hx : x < 4294967296) (hy : y < 4294967296) : maj x y z < 4294967296 := or_lt32 (or_lt32 (and_lt32 hx) (and_lt32 hx)) (and_lt32 hy)
theorem inv_nat (n : Nat) (h : n < 4294967296) : 4294967295 ^^^ n = 4294967295 - n := by
  have e : (BitVec.allOnes 32 ^^^ BitVec.ofNat 32 n) = ~~~ BitVec.ofNat 32 n := by rw [BitVec.allOnes_xor]
  have e := congrArg BitVec.toNat e
  rw [BitVec.toNat_xor, BitVec.toNat_not, BitVec.toNat_ofNat, Nat.mod_eq_of_lt h] at e
  exact e
theorem invM (n : Nat) (h : n < 4294967296) : bits .xor .u32 IntKind.u32.max (n : Int) = ((4294967295 - n : Nat) : Int) := by
  have := u32_xor_nat 4294967295 n (by decide) h
  rw [inv_nat n h] at this
  exact this
theorem rot_or (x n : Nat) (hx : x < 4294967296) : bits .or .u32 ((x : Int) / 2 ^ n) ((x : Int) * 2 ^ (32 - n) % 4294967296) = ((rot x n : Nat) : Int) := by
  have := u32_or_nat (x / 2 ^ n) (x * 2 ^ (32 - n) % 4294967296) (Nat.lt_of_le_of_lt (Nat.div_le_self _ _) hx) (Nat.mod_lt _ (by decide))
  have e1 : (x : Int) / 2 ^ n = ((x / 2 ^ n : Nat) : Int) := by simp
  have e2 : (x : Int) * 2 ^ (32 - n) % 4294967296 = ((x * 2 ^ (32 - n) % 4294967296 : Nat) : Int) := by simp
  rw [e1, e2, this]; rfl
theorem rot_ro (x n : Nat) (hx : x < 4294967296) : bits .or .u32 ((x : Int) * 2 ^ (32 - n) % 4294967296) ((x : Int) / 2 ^ n) = ((rot x n : Nat) : Int) := by
  have := u32_or_nat (x * 2 ^ (32 - n) % 4294967296) (x / 2 ^ n) (Nat.mod_lt _ (by decide)) (Nat.lt_of_le_of_lt (Nat.div_le_self _ _) hx)
  have e1 : (x : Int) / 2 ^ n = ((x / 2 ^ n : Nat) : Int) := by simp
  have e2 : (x : Int) * 2 ^ (32 - n) % 4294967296 = ((x * 2 ^ (32 - n) % 4294967296 : Nat) : Int) := by simp
  rw [e1, e2, this, Nat.or_comm]; rfl

set_option maxHeartbeats 400000 in
theorem left_at (x n m : Nat) (c : Int) (w : World) (hx : x < 4294967296) (hm : m < 32) (HN : Hid (m = 32 - n)) (hn : 1 ≤ n) (hn2 : n ≤ 31) (hc : bits .and .u64 (IntKind.u64.wrap c) 31 = (m : Int)) :
    Calls Tryd.prog 46 #[.int .u32 x, .int .i64 c] w fun e w' => e = .returned (.int .u32 (rot x n)) ∧ w = w' := by
  go_enter Tryd.func46, Tryd.ntmps46
  go_wp2
  go_ret
  refine ⟨ret_int ?_, rfl⟩
  have h := HN.out
  have e : 32 - m = n := by omega
  rw [e, h]
  exact rot_ro x n hx
theorem and31 : ∀ n : Nat, n < 32 → 1 ≤ n → bits .and .u64 (IntKind.u64.wrap (-(n : Int))) 31 = ((32 - n : Nat) : Int) := by decide +kernel
theorem left_any (x : Nat) (c : Int) (w : World) (hx : x < 4294967296) (h1 : 1 ≤ c) (h2 : c ≤ 31) :
    Calls Tryd.prog 46 #[.int .u32 x, .int .i64 (-c)] w fun e w' => e = .returned (.int .u32 (rot x c.toNat)) ∧ w = w' := by
  obtain ⟨n, rfl⟩ : ∃ n : Nat, c = n := ⟨c.toNat, by omega⟩
  exact left_at x n (32 - n) _ w hx (by omega) (Lib.hid rfl) (by omega) (by omega) (and31 n (by omega) (by omega))
set_option maxHeartbeats 400000 in
theorem rotate_any (x : Nat) (c : Int) (w : World) (hx : x < 4294967296) (h1 : 1 ≤ c) (h2 : c ≤ 31) :
    Calls Tryd.prog 39 #[.int .u32 x, .int .i64 c] w fun e w' => e = .returned (.int .u32 (rot x c.toNat)) ∧ w = w' := by
  go_enter Tryd.func39, Tryd.ntmps39
  go_wp2_with (go_at_call 46; refine (left_any _ _ _ hx h1 h2).mono ?_; rintro e w' ⟨rfl, rfl⟩)
  go_ret
  exact ⟨rfl, rfl⟩
set_option maxHeartbeats 400000 in
theorem turn_any (x n : Nat) (w : World) (hx : x < 4294967296) (h1 : 1 ≤ n) (h2 : n ≤ 31) :
    Calls Tryd.prog 25 #[.int .u32 x, .int .u64 n] w fun e w' => e = .returned (.int .u32 (rot x n)) ∧ w = w' := by
  have HR := Lib.hid (rot_or x n hx)
  go_enter Tryd.func25, Tryd.ntmps25
  go_wp2
  go_ret
  exact ⟨ret_int HR.out, rfl⟩
theorem xor3 (a b c : Nat) (ha : a < 4294967296) (hb : b < 4294967296) (hc : c < 4294967296) : bits .xor .u32 (bits .xor .u32 (a : Int) (b : Int)) (c : Int) = ((a ^^^ b ^^^ c : Nat) : Int) := by
  rw [u32_xor_nat a b ha hb, u32_xor_nat _ c (xor_lt32 ha hb) hc]
set_option maxHeartbeats 400000 in
theorem bE_any (x : Nat) (w : World) (hx : x < 4294967296) : Calls Tryd.prog 31 #[.int .u32 x] w fun e w' => e = .returned (.int .u32 (bE x)) ∧ w = w' := by
  have HR := Lib.hid (xor3 _ _ _ (rot_lt x 6 hx) (rot_lt x 11 hx) (rot_lt x 25 hx))
  go_enter Tryd.func31, Tryd.ntmps31
  go_wp2_with (go_at_call 39; refine (rotate_any _ _ _ hx (by decide) (by decide)).mono ?_; rintro e w' ⟨rfl, rfl⟩)
  go_ret
  exact ⟨ret_int HR.out, rfl⟩
set_option maxHeartbeats 400000 in
theorem bA_any (x : Nat) (w : World) (hx : x < 4294967296) : Calls Tryd.prog 33 #[.int .u32 x] w fun e w' => e = .returned (.int .u32 (bA x)) ∧ w = w' := by
  have HR := Lib.hid (xor3 _ _ _ (rot_lt x 2 hx) (rot_lt x 13 hx) (rot_lt x 22 hx))
  go_enter Tryd.func33, Tryd.ntmps33
  go_wp2_with (go_at_call 39; refine (rotate_any _ _ _ hx (by decide) (by decide)).mono ?_; rintro e w' ⟨rfl, rfl⟩)
  go_ret
  exact ⟨ret_int HR.out, rfl⟩
set_option maxHeartbeats 400000 in
theorem sL_any (x : Nat) (w : World) (hx : x < 4294967296) : Calls Tryd.prog 37 #[.int .u32 x] w fun e w' => e = .returned (.int .u32 (sL x)) ∧ w = w' := by
  have HR := Lib.hid (xor3 _ _ (x / 1024) (rot_lt x 17 hx) (rot_lt x 19 hx) (by omega))
  go_enter Tryd.func37, Tryd.ntmps37
  go_wp2_with (go_at_call 39; refine (rotate_any _ _ _ hx (by decide) (by decide)).mono ?_; rintro e w' ⟨rfl, rfl⟩)
  go_ret
  exact ⟨ret_int HR.out, rfl⟩
set_option maxHeartbeats 400000 in
theorem sE_any (x : Nat) (w : World) (hx : x < 4294967296) : Calls Tryd.prog 38 #[.int .u32 x] w fun e w' => e = .returned (.int .u32 (sE x)) ∧ w = w' := by
  have HR := Lib.hid (xor3 _ _ (x / 8) (rot_lt x 7 hx) (rot_lt x 18 hx) (by omega))
  go_enter Tryd.func38, Tryd.ntmps38
  go_wp2_with (go_at_call 39; refine (rotate_any _ _ _ hx (by decide) (by decide)).mono ?_; rintro e w' ⟨rfl, rfl⟩)
  go_ret
  exact ⟨ret_int HR.out, rfl⟩
theorem ch_eq (x y z : Nat) (hx : x < 4294967296) (hy : y < 4294967296) (hz : z < 4294967296) :
    bits .or .u32 (bits .and .u32 (x : Int) (y : Int)) (bits .and .u32 (bits .xor .u32 IntKind.u32.max (x : Int)) (z : Int)) = ((ch x y z : Nat) : Int) := by
  rw [invM x hx, u32_and_nat x y hx hy, u32_and_nat _ z (by omega) hz, u32_or_nat _ _ (and_lt32 hx) (and_lt32 (by omega))]; rfl
theorem maj_eq (x y z : Nat) (hx : x < 4294967296) (hy : y < 4294967296) (hz : z < 4294967296) :
    bits .or .u32 (bits .or .u32 (bits .and .u32 (x : Int) (y : Int)) (bits .and .u32 (x : Int) (z : Int))) (bits .and .u32 (y : Int) (z : Int)) = ((maj x y z : Nat) : Int) := by
  rw [u32_and_nat x y hx hy, u32_and_nat x z hx hz, u32_and_nat y z hy hz, u32_or_nat _ _ (and_lt32 hx) (and_lt32 hx), u32_or_nat _ _ (or_lt32 (and_lt32 hx) (and_lt32 hx)) (and_lt32 hy)]; rfl
set_option maxHeartbeats 400000 in
theorem ch_any (x y z : Nat) (w : World) (hx : x < 4294967296) (hy : y < 4294967296) (hz : z < 4294967296) :
    Calls Tryd.prog 32 #[.int .u32 x, .int .u32 y, .int .u32 z] w fun e w' => e = .returned (.int .u32 (ch x y z)) ∧ w = w' := by
  have HR := Lib.hid (ch_eq x y z hx hy hz)
  have hsg : IntKind.u32.signed = false := rfl
  go_enter Tryd.func32, Tryd.ntmps32
  go_wp2
  go_ret
  exact ⟨ret_int HR.out, rfl⟩
set_option maxHeartbeats 400000 in
theorem maj_any (x y z : Nat) (w : World) (hx : x < 4294967296) (hy : y < 4294967296) (hz : z < 4294967296) :
    Calls Tryd.prog 34 #[.int .u32 x, .int .u32 y, .int .u32 z] w fun e w' => e = .returned (.int .u32 (maj x y z)) ∧ w = w' := by
  have HR := Lib.hid (maj_eq x y z hx hy hz)
  go_enter Tryd.func34, Tryd.ntmps34
  go_wp2
  go_ret
  exact ⟨ret_int HR.out, rfl⟩
end Go.Proofs.YtnndifkilcommaaDoor.Sha
