/-
  The document's signs of bytes.
-/
import Derived.Test.YtpkgbjbjdbjlhaaCodeFace
namespace Go.Proofs.Ytpkgbjbjdbjlhaa.Code
open Go.RowKit

/- One byte, just laid, as a string. -/
theorem one_laid (w : World) (x : UInt8) : (convert 39 9 (.slice (some ⟨w.heap.size, 0, none⟩) 1 1)).run Try.prog (w.alloc (.cells #[.int .u8 x.toNat] 5)) = .ok (.string (ba [x])) (w.alloc (.cells #[.int .u8 x.toNat] 5)) := by
  have h := run_convert_bytes_arg (P := Try.prog) (w.alloc (.cells #[.int .u8 x.toNat] 5)) 39 5 Try.underlying39 Try.underlying5 w.heap.size 0 1 1 [(x.toNat : Int)] rfl (fun i hi => by
    obtain rfl : i = 0 := by omega
    rw [Lib.cell_of_heap (heap_alloc_new w _)]
    rfl) 9 Try.underlying9
  rw [h]
  have e : strOfNums [(x.toNat : Int)] = ba [x] := by
    unfold strOfNums ba
    simp
  rw [e]
theorem bit_at (s : ByteArray) (a k : Nat) (w : World) (ha : a ≤ 50000) (hk : k ≤ 10) (hs : s.size ≤ 100000) :
    Calls Try.prog 22 #[.string s, .int .i64 ((a : Int) + (k : Int))] w fun e w' => e = .returned (.int .i64 (strL (bl s) (a + k))) ∧ w = w' := bit_any s (a + k) w (by omega) hs
theorem sign_at (n : Nat) (w : World) (hn : n < 32) (c : UInt8) (hc : digOf d32 n = c) :
    Calls Try.prog 23 #[.int .i64 n] w fun e w' => e = .returned (.int .u8 c.toNat) ∧ w = w' := by subst hc; exact sign_any n w hn
def To32At (l : List UInt8) (w : World) (o i : Value) (wr : World) : Prop :=
  ∃ j a : Nat, a = 5 * j ∧ a ≤ 8 * l.length + 4 ∧ i = .int .i64 a ∧ o = .string (ba (encP 5 d32 l j)) ∧ Below w.heap.size w wr
theorem encP_add (w : Nat) (D l : List UInt8) (j a : Nat) (ha : a = w * j) : ba (encP w D l j) ++ ba [digOf D (sg (strL l) a w)] = ba (encP w D l (j + 1)) := by
  subst ha
  rw [ba_append]
  unfold encP
  rw [List.range_succ]
  simp
def SumAt (f : Nat → Nat) (a : Nat) (w : World) (n k : Value) (wr : World) : Prop := ∃ i : Nat, i ≤ 5 ∧ k = .int .i64 i ∧ n = .int .i64 (sg f a i : Nat) ∧ w = wr
set_option maxRecDepth 100000 in
set_option maxHeartbeats 400000 in
theorem refTo32_any (s : ByteArray) (w : World) (hs : s.size ≤ 5000) :
    Calls Try.prog 12 #[.string s] w fun e w' => e = .returned (.string (ba (enc 5 d32 (bl s)))) ∧ Below w.heap.size w w' := by
  have hlen := bl_len s
  go_enter Try.func12, Try.ntmps12
  have HI : Hid (To32At (bl s) w (.string ⟨#[]⟩) (.int .i64 0) w) := ⟨0, 0, rfl, by omega, rfl, rfl, Below.refl _ _⟩
  have HL := Lib.hid hlen
  clear hlen
  go_wp2
  go_loopw [3, 4, 5, 6] (fun o i _ _ wr => To32At (bl s) w o i wr) (fun _ i _ _ _ => 8 * s.size + 5 - (intOf i).toNat)
  case atStart => exact HI.out
  case round =>
    clear HI
    obtain ⟨j, a, ha, hal, rfl, rfl, hb⟩ := hrel
    rw [HL.out] at hal
    have hja : j ≤ a := by omega
    have HA := Lib.hid ha
    clear ha
    have HB := Lib.hid hb
    clear hb
    have hos : (ba (encP 5 d32 (bl s) j)).size = j := by rw [ba_size, encP_len]
    by_cases hlt : a < 8 * s.size
    · have HN := Lib.hid (encP_add 5 d32 (bl s) j a HA.out)
      have hmul : (a : Int) < 8 * (s.size : Int) := by omega
      have HI : Hid (SumAt (strL (bl s)) a wr (.int .i64 0) (.int .i64 0) wr) := ⟨0, by omega, rfl, rfl, rfl⟩
      have hos2 : (ba (encP 5 d32 (bl s) j)).size ≤ 50000 := by omega
      clear hos
      generalize ba (encP 5 d32 (bl s) j) = o at HN hos2 ⊢
      go_wp2
      go_loopw [5, 6] (fun n k w' => SumAt (strL (bl s)) a wr n k w') (fun _ k _ => 5 - (intOf k).toNat)
      case atStart => exact HI.out
      case round =>
        clear HI
        obtain ⟨i, hi, rfl, rfl, rfl⟩ := hrel
        have hx := sg_lt (strL (bl s)) (strL_bit _) a i
        have hx2 : sg (strL (bl s)) a i < 32 := Nat.lt_of_lt_of_le hx (Nat.pow_le_pow_right (by decide) hi)
        clear hx
        have hbit := strL_bit (bl s) (a + i)
        by_cases hi5 : i < 5
        · have HS : Hid (sg (strL (bl s)) a (i + 1) = 2 * sg (strL (bl s)) a i + strL (bl s) (a + i)) := rfl
          generalize sg (strL (bl s)) a i = x at hx2 HS ⊢
          go_wp2_with fail
          refine (bit_at s a i _ (by omega) (by omega) (by omega)).mono ?_
          rintro e w1 ⟨rfl, rfl⟩
          go_wp2
          go_roundw
          case rel => exact ⟨i + 1, by omega, by go_num, int_eq (by rw [HS.out]; omega), rfl⟩
          case measure => simp [intOf]; omega
        · obtain rfl : i = 5 := by omega
          have hc := one_laid wr (digOf d32 (sg (strL (bl s)) a 5))
          have hS := sign_at (sg (strL (bl s)) a 5) wr hx2 _ rfl
          have hS2 := Lib.hid hS
          have hz : (ba [digOf d32 (sg (strL (bl s)) a 5)]).size = 1 := rfl
          clear hS
          generalize hC : digOf d32 (sg (strL (bl s)) a 5) = c at hc HN hS2 hz
          clear hC hbit
          generalize sg (strL (bl s)) a 5 = x at hx2 hS2 ⊢
          generalize ba [c] = b at hc HN hz
          go_wp2_with fail
          refine hS2.out.mono ?_
          rintro e w1 ⟨rfl, rfl⟩
          go_wp2
          go_roundw
          case rel => exact ⟨j + 1, a + 5, by have := HA.out; omega, by rw [HL.out]; omega, by go_num, by rw [HN.out], HB.out.alloc HB.out.size _⟩
          case measure => simp [intOf]; omega
    · have HD : Hid (encP 5 d32 (bl s) j = enc 5 d32 (bl s)) := by
        show (List.range j).map _ = (List.range _).map _
        rw [show elen 5 (bl s).length = j from ?_]
        rw [HL.out]
        have := HA.out
        unfold elen
        omega
      have hmul : ¬ (a : Int) < 8 * (s.size : Int) := by omega
      go_wp2
      go_ret
      exact ⟨by rw [← HD.out]; rfl, HB.out⟩

/- Two signs a byte. -/
theorem sg_high (l : List UInt8) (i : Nat) : sg (strL l) (4 * (2 * i)) 4 = byteAt l i / 16 := by
  rw [show 4 * (2 * i) = 8 * i by omega]
  exact sg_strm_part 8 (byteAt l) i (byteAt_lt l i) 4 (by decide)
theorem sg_low (l : List UInt8) (i : Nat) : sg (strL l) (4 * (2 * i + 1)) 4 = byteAt l i % 16 := by
  rw [show 4 * (2 * i + 1) = 8 * i + 4 by omega, ← sg_mod (strL l) (strL_bit l) (8 * i) 4 4, strL_byte]
theorem enc16_next (l : List UInt8) (i h k : Nat) (hh : byteAt l i / 16 = h) (hk : byteAt l i % 16 = k) : ba (encP 4 d16 l (2 * i)) ++ ba [digOf d16 h] ++ ba [digOf d16 k] = ba (encP 4 d16 l (2 * (i + 1))) := by
  rw [← hh, ← hk, ← sg_high, ← sg_low, encP_add 4 d16 l (2 * i) _ rfl, encP_add 4 d16 l (2 * i + 1) _ rfl]; rfl
theorem enc16_done (l : List UInt8) : encP 4 d16 l (2 * l.length) = enc 4 d16 l := by
  show (List.range _).map _ = (List.range _).map _
  rw [show elen 4 l.length = 2 * l.length by unfold elen; omega]
/- A sign out of the text of all sixteen. -/
theorem six_cut (h : Nat) (hh : h < 16) : sixteen.extract h (h + 1) = ba [digOf d16 h] := by
  have : ∀ h, h < 16 → sixteen.extract h (h + 1) = ba [digOf d16 h] := by decide +kernel
  exact this h hh
end Go.Proofs.Ytpkgbjbjdbjlhaa.Code
