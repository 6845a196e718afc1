/-
  HMAC over lists of bytes, without the program.
-/
import Derived.Test.YtnndifkilcommaaDoorShaPlainC
namespace Go.Proofs.YtnndifkilcommaaDoor.Mac
open Sha

def keyOf (k : List UInt8) : List UInt8 := if 64 < k.length then digest k else k
def padN (k : List UInt8) (b j : Nat) : Nat := byteAt (keyOf k) j ^^^ b
def padK (k : List UInt8) (b : Nat) : List UInt8 := (List.range 64).map fun j => byt (padN k b j)
def hmac (k s : List UInt8) : List UInt8 := digest (padK k 92 ++ digest (padK k 54 ++ s))
theorem digest_len (m : List UInt8) : (digest m).length = 32 := rfl
theorem hmac_len (k s : List UInt8) : (hmac k s).length = 32 := rfl
theorem keyOf_len (k : List UInt8) : (keyOf k).length ≤ 64 := by
  unfold keyOf
  split
  · rw [digest_len]; omega
  · omega
theorem byteAt_lt8 (b : List UInt8) (i : Nat) : byteAt b i < 256 := UInt8.toNat_lt _
theorem byteAt_out (b : List UInt8) (i : Nat) (h : b.length ≤ i) : byteAt b i = 0 := by
  unfold byteAt
  rw [List.getD_eq_getElem?_getD, List.getElem?_eq_none h]; rfl
theorem padN_lt (k : List UInt8) (b j : Nat) (hb : b < 256) : padN k b j < 256 := Nat.xor_lt_two_pow (n := 8) (byteAt_lt8 _ _) hb
theorem padK_len (k : List UInt8) (b : Nat) : (padK k b).length = 64 := by simp [padK]
/- A key with zeros behind it is the same key. -/
theorem byteAt_zeros (k : List UInt8) (n j : Nat) : byteAt (k ++ List.replicate n 0) j = byteAt k j := by
  rw [byteAt_append]
  split
  · rfl
  · rw [byteAt_out k j (by omega)]
    unfold byteAt
    rw [List.getD_eq_getElem?_getD, List.getElem?_replicate]
    split <;> rfl
theorem padK_zeros (k : List UInt8) (n b : Nat) (h : k.length + n ≤ 64) : padK (k ++ List.replicate n 0) b = padK k b := by
  unfold padK
  apply List.map_congr_left
  intro j _
  unfold padN keyOf
  rw [if_neg (by simp; omega), if_neg (by omega), byteAt_zeros]
theorem hmac_zeros (k s : List UInt8) (n : Nat) (h : k.length + n ≤ 64) : hmac (k ++ List.replicate n 0) s = hmac k s := by
  unfold hmac
  rw [padK_zeros k n _ h, padK_zeros k n _ h]
/- How two lists differ, in their first k bytes. -/
def diff (a b : List UInt8) : Nat → Nat
  | 0 => 0
  | k + 1 => diff a b k ||| (byteAt a k ^^^ byteAt b k)
theorem xor_lt8 (a b : List UInt8) (k : Nat) : byteAt a k ^^^ byteAt b k < 256 := Nat.xor_lt_two_pow (n := 8) (byteAt_lt8 _ _) (byteAt_lt8 _ _)
theorem diff_lt (a b : List UInt8) : ∀ k, diff a b k < 256
  | 0 => by show 0 < 256; decide
  | k + 1 => Nat.or_lt_two_pow (n := 8) (diff_lt a b k) (xor_lt8 a b k)
theorem xor_zero (a b : Nat) : a ^^^ b = 0 ↔ a = b := by
  constructor
  · intro h
    apply Nat.eq_of_testBit_eq
    intro i
    have := congrArg (fun x : Nat => x.testBit i) h
    simpa [Nat.testBit_xor] using this
  · rintro rfl
    exact Nat.xor_self a
theorem diff_zero (a b : List UInt8) : ∀ k, diff a b k = 0 ↔ ∀ j, j < k → byteAt a j = byteAt b j
  | 0 => ⟨fun _ j hj => by omega, fun _ => rfl⟩
  | k + 1 => by
    show diff a b k ||| (byteAt a k ^^^ byteAt b k) = 0 ↔ _
    rw [Nat.or_eq_zero_iff, diff_zero a b k, xor_zero]
    constructor
    · rintro ⟨h1, h2⟩ j hj
      by_cases h : j = k
      · subst h; exact h2
      · exact h1 j (by omega)
    · exact fun h => ⟨fun j hj => h j (by omega), h k (by omega)⟩
theorem same_iff (a b : List UInt8) (hl : a.length = b.length) : diff a b a.length = 0 ↔ a = b := by
  rw [diff_zero]
  constructor
  · intro h
    apply List.ext_getElem hl
    intro j h1 h2
    have := h j h1
    unfold byteAt at this
    rw [List.getD_eq_getElem?_getD, List.getD_eq_getElem?_getD, List.getElem?_eq_getElem h1, List.getElem?_eq_getElem h2] at this
    exact UInt8.toNat.inj this
  · rintro rfl j _; rfl
theorem same_beq (a b : List UInt8) (hl : a.length = b.length) : ((diff a b a.length : Int) == 0) = (a == b) := by
  rw [Bool.eq_iff_iff, beq_iff_eq, beq_iff_eq, ← same_iff a b hl]
  omega
end Go.Proofs.YtnndifkilcommaaDoor.Mac
