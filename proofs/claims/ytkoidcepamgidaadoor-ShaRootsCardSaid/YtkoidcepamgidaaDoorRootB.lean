/-
  The document's roots: a root, bit by bit.
-/
import Derived.Test.YtkoidcepamgidaaDoorRootA
namespace Go.Proofs.YtkoidcepamgidaaDoor
open Go.RowKit

def rootT (n : Nat) (c : Bool) (x p : Nat) : Nat := if aboveB (x + p) n c then x else x + p
def rootX (n : Nat) (c : Bool) : Nat → Nat
  | 0 => 0
  | k + 1 => rootT n c (rootX n c k) (2 ^ (36 - k))
def rootF (n : Nat) (c : Bool) : Nat := rootX n c 37 % 4294967296
theorem pow_le36 (k : Nat) : 2 ^ (36 - k) ≤ 68719476736 := Nat.pow_le_pow_right (by decide) (by omega : 36 - k ≤ 36)
theorem rootT_le (n : Nat) (c : Bool) (x p b : Nat) (hx : x ≤ b) (hp : p ≤ 68719476736) : rootT n c x p ≤ b + 68719476736 := by
  unfold rootT
  split <;> omega
theorem rootX_le (n : Nat) (c : Bool) : ∀ k, rootX n c k ≤ k * 68719476736
  | 0 => by show 0 ≤ _; omega
  | k + 1 => by
    have h := rootT_le n c _ _ _ (rootX_le n c k) (pow_le36 k)
    rw [Nat.succ_mul]
    exact h
theorem above_any (x n : Nat) (c : Bool) (w : World) (hx : x < 18446744073709551616) (hn : n < 18446744073709551616) :
    Calls Tryd.prog 26 #[.int .u64 x, .int .u64 n, .bool c] w fun e w' => e = .returned (.bool (aboveB x n c)) ∧ w = w' := by
  cases c
  · exact above_sq x n w hx hn
  · exact above_cu x n w hx hn
set_option maxHeartbeats 400000 in
theorem root_any (n : Nat) (c : Bool) (w : World) (hn : n < 18446744073709551616) :
    Calls Tryd.prog 19 #[.int .u64 n, .bool c] w fun e w' => e = .returned (.int .u32 (rootF n c)) ∧ w = w' := by
  go_enter Tryd.func19, Tryd.ntmps19
  go_wp2
  go_loopw [5, 6, 7] (fun x i _ wr => wr = w ∧ ∃ k : Nat, k ≤ 37 ∧ i = .int .i64 (36 - (k : Int)) ∧ x = .int .u64 (rootX n c k)) (fun _ i _ _ => (intOf i + 1).toNat)
  case atStart => exact ⟨rfl, 0, by omega, rfl, rfl⟩
  case round =>
    obtain ⟨rfl, k, hk, rfl, rfl⟩ := hrel
    have hx := rootX_le n c k
    obtain ⟨x, hxe⟩ : ∃ x, rootX n c k = x := ⟨_, rfl⟩
    by_cases hk7 : k < 37
    · have HN : Hid (rootX n c (k + 1) = rootT n c x (2 ^ (36 - k))) := by
        show rootT n c (rootX n c k) (2 ^ (36 - k)) = _
        rw [hxe]
      obtain ⟨d, hd⟩ : ∃ d, 36 - k = d := ⟨_, rfl⟩
      have hdi : (36 : Int) - (k : Int) = (d : Int) := by omega
      have hd2 : d ≤ 36 := by omega
      have hp := pow_le36 k
      rw [hd] at hp HN
      rw [hxe] at hx ⊢
      rw [hdi]
      obtain ⟨p, hpe⟩ : ∃ p, 2 ^ d = p := ⟨_, rfl⟩
      have ep : (2 : Int) ^ d = (p : Int) := by rw [← hpe]; simp
      rw [hpe] at hp HN
      have hA := fun W => above_any (x + p) n c W (by omega) hn
      rw [Int.natCast_add] at hA
      have hkd : (36 : Int) - ((k + 1 : Nat) : Int) = (d : Int) - 1 := by omega
      have HD := Lib.hid hkd
      have HT : Hid (rootT n c x p = if aboveB (x + p) n c then x else x + p) := Lib.hid rfl
      clear hdi hpe hd hxe hkd
      cases hb : aboveB (x + p) n c
      · rw [hb] at hA
        have HT : Hid (rootX n c (k + 1) = x + p) := by
          show rootX n c (k + 1) = x + p
          rw [HN.out, HT.out, hb]; rfl
        clear hb HN
        go_wp2_with (go_at_call 26; refine (hA _).mono ?_; rintro e w' ⟨rfl, rfl⟩)
        go_roundw
        case rel => exact ⟨trivial, k + 1, by omega, by rw [HD.out], by rw [HT.out]; rfl⟩
        case measure => simp [intOf]
      · rw [hb] at hA
        have HT : Hid (rootX n c (k + 1) = x) := by
          show rootX n c (k + 1) = x
          rw [HN.out, HT.out, hb]; rfl
        clear hb HN
        go_wp2_with (go_at_call 26; refine (hA _).mono ?_; rintro e w' ⟨rfl, rfl⟩)
        go_roundw
        case rel => exact ⟨trivial, k + 1, by omega, by rw [HD.out], by rw [HT.out]⟩
        case measure => simp [intOf]
    · obtain rfl : k = 37 := by omega
      have HF : Hid (rootF n c = x % 4294967296) := by
        show rootX n c 37 % 4294967296 = _
        rw [hxe]
      rw [hxe] at hx ⊢
      clear hxe
      go_wp2
      go_ret
      exact ⟨by rw [HF.out]; rfl, rfl⟩
end Go.Proofs.YtkoidcepamgidaaDoor
