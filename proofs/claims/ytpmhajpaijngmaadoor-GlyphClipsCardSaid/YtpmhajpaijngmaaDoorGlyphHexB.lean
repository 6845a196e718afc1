/-
  strconv.FormatInt at base 16 and the document's Hex.
-/
import Derived.Test.YtpmhajpaijngmaaDoorGlyphHex
namespace Go.Proofs.YtpmhajpaijngmaaDoor.Glyph
open Go.RowKit

set_option maxHeartbeats 1000000 in
theorem formatI_any (N : Nat) (w : World) (hN : N < 16777216) (ht : Tab w) :
    Calls Tryd.prog 38 #[.int .i64 N, .int .i64 16] w fun e w' => e = .returned (.string (ba (hexL N))) ∧ Below w.heap.size w w' := by
  have h0 : ¬ (N : Int) < 0 := by omega
  go_enter Tryd.func38, Tryd.ntmps38
  go_wp2_with fail
  refine (bits16_any N _ hN ht).mono ?_
  rintro e w' ⟨rfl, hb⟩
  go_wp2
  go_ret
  exact ⟨rfl, hb⟩
set_option maxHeartbeats 1000000 in
theorem format_any (N : Nat) (w : World) (hN : N < 16777216) (ht : Tab w) :
    Calls Tryd.prog 31 #[.int .i64 N, .int .i64 16] w fun e w' => e = .returned (.string (ba (hexL N))) ∧ Below w.heap.size w w' := by
  go_enter Tryd.func31, Tryd.ntmps31
  go_wp2_with fail
  refine (formatI_any N _ hN ht).mono ?_
  rintro e w' ⟨rfl, hb⟩
  go_wp2
  go_ret
  exact ⟨rfl, hb⟩

def digs16 : ByteArray := ⟨#[48, 49, 50, 51, 52, 53, 54, 55, 56, 57, 97, 98, 99, 100, 101, 102]⟩
theorem digs16_at : ∀ d : Nat, d < 16 → digs16.extract d (d + 1) = ba [hx d] := by decide +kernel
def RHexAt (N : Nat) (w : World) (n o i : Value) (wr : World) : Prop :=
  ∃ (a k : Nat) (acc : List UInt8), n = .int .i64 a ∧ i = .int .i64 k ∧ o = .string (ba acc) ∧ k ≤ 6 ∧ acc.length = k ∧ a < 16 ^ (6 - k) ∧ w = wr ∧
    Hid (k = 0 ∧ a = N ∧ acc = [] ∨ 1 ≤ k ∧ (if a = 0 then acc else hexL a ++ acc) = hexL N)
theorem rhex_bound (n k : Nat) (hk : k ≤ 6) (h : n < 16 ^ (6 - k)) (h16 : 1 ≤ n) : k + 1 ≤ 6 ∧ n / 16 < 16 ^ (6 - (k + 1)) := by
  have : k = 0 ∨ k = 1 ∨ k = 2 ∨ k = 3 ∨ k = 4 ∨ k = 5 ∨ k = 6 := by omega
  rcases this with rfl | rfl | rfl | rfl | rfl | rfl | rfl <;> simp at h ⊢ <;> omega
theorem rhex_next {N a k : Nat} {acc : List UInt8} (hx : k = 0 ∧ a = N ∧ acc = [] ∨ 1 ≤ k ∧ (if a = 0 then acc else hexL a ++ acc) = hexL N) (hc : k = 0 ∨ 1 ≤ a) :
    (if a / 16 = 0 then Glyph.hx (a % 16) :: acc else hexL (a / 16) ++ Glyph.hx (a % 16) :: acc) = hexL N := by
  have e : hexL a ++ acc = hexL N := by
    rcases hx with ⟨_, rfl, rfl⟩ | ⟨h1, h2⟩
    · simp
    · rw [if_neg (by omega)] at h2; exact h2
  by_cases h : a < 16
  · rw [if_pos (by omega), ← e, hexL_low h, Nat.mod_eq_of_lt h]; rfl
  · rw [if_neg (by omega), ← e, hexL_high h]; simp
set_option maxRecDepth 100000 in
set_option maxHeartbeats 1000000 in
theorem refHex_any (N : Nat) (w : World) (hN : N < 16777216) :
    Calls Tryd.prog 32 #[.int .i64 N] w fun e w' => e = .returned (.string (ba (hexL N))) ∧ w = w' := by
  have HI : Hid (RHexAt N w (.int .i64 N) (.string ⟨#[]⟩) (.int .i64 0) w) := ⟨N, 0, [], rfl, rfl, rfl, Nat.zero_le _, rfl, hN, rfl, Lib.hid (.inl ⟨rfl, rfl, rfl⟩)⟩
  have hD := Lib.hid digs16_at
  go_enter Tryd.func32, Tryd.ntmps32
  go_wp2
  go_loopw [0, 3, 4] (fun n o i wr => RHexAt N w n o i wr) (fun _ _ i _ => 7 - (intOf i).toNat)
  case atStart => exact HI.out
  case round =>
    clear HI
    obtain ⟨a, k, acc, rfl, rfl, rfl, hk, hal, ha, rfl, hx⟩ := hrel
    have ha2 : a < 16777216 := Nat.lt_of_lt_of_le ha (Nat.le_trans (Nat.pow_le_pow_right (by decide) (Nat.sub_le 6 k)) (by decide))
    obtain ⟨d, hd⟩ : ∃ d, a % 16 = d := ⟨_, rfl⟩
    obtain ⟨q, hq⟩ : ∃ q, a / 16 = q := ⟨_, rfl⟩
    have hmod : (a : Int) % 16 = (d : Int) := by omega
    have hdiv : (a : Int) / 16 = (q : Int) := by omega
    have hos : (ba acc).size ≤ 6 := by rw [ba_size]; omega
    have he := hD.out d (by omega)
    have hcat : Hid (ba [Glyph.hx d] ++ ba acc = ba (Glyph.hx d :: acc)) := Lib.hid (by rw [ba_append]; rfl)
    have hqs : (ba [Glyph.hx d]).size = 1 := by rw [ba_size]; rfl
    have hen : Hid (1 ≤ k → a = 0 → ba acc = ba (hexL N)) := Lib.hid (fun h1 h2 => by
      rcases hx.out with ⟨h, _⟩ | ⟨_, h⟩
      · omega
      · rw [if_pos h2] at h; rw [h])
    have hstep : Hid (∀ h : k = 0 ∨ 1 ≤ a, ∀ (o : ByteArray), o = ba (Glyph.hx d :: acc) → RHexAt N w (.int .i64 q) (.string o) (.int .i64 ((k : Int) + 1)) w) := Lib.hid (fun h o ho => by
      have hb : k + 1 ≤ 6 ∧ a / 16 < 16 ^ (6 - (k + 1)) := by
        by_cases h0 : 1 ≤ a
        · exact rhex_bound a k hk ha h0
        · obtain rfl : k = 0 := by omega
          obtain rfl : a = 0 := by omega
          decide
      rw [hq] at hb
      have hn := rhex_next hx.out h
      rw [hd, hq] at hn
      exact ⟨q, k + 1, Glyph.hx d :: acc, rfl, int_eq (by omega), by rw [ho], hb.1, by rw [List.length_cons]; omega, hb.2, rfl, Lib.hid (.inr ⟨by omega, hn⟩)⟩)
    unfold digs16 at he
    generalize ba [Glyph.hx d] = x at he hqs hcat
    generalize hoo : ba acc = o at *
    clear hoo hx hal ha
    by_cases hk0 : k = 0
    · subst hk0
      go_wp2
      go_roundw
      case rel => exact hstep.out (.inl rfl) _ hcat.out
      case measure => simp [intOf]
    · have k0 : ((k : Int) == 0) = false := by simp; omega
      by_cases ha0 : a = 0
      · subst ha0
        have hz := Lib.hid (hen.out (by omega) rfl)
        go_wp2
        go_ret
        exact ⟨by rw [← hz.out]; rfl, rfl⟩
      · have k1 : (0 : Int) < (a : Int) := by omega
        have k2 : (k : Int) < 16 := by omega
        go_wp2
        go_roundw
        case rel => exact hstep.out (.inr (by omega)) _ hcat.out
        case measure => simp [intOf]; omega
end Go.Proofs.YtpmhajpaijngmaaDoor.Glyph
