/-
  Walk of the law CrcOne.
-/
import Derived.Test.YtldadkpdmkghoaaWalkD
import Derived.Lib.ConvBytes
import Derived.Laws.BytesArg
import Derived.IntWalk
namespace Go.Proofs.Ytldadkpdmkghoaa
open Go.RowKit

theorem to_bytes (w : World) (z : ByteArray) : (convert 9 34 (.string z)).run Try.prog w = .ok (.slice (some ⟨w.heap.size, 0, none⟩) z.size (grownCap w z.size 0 5)) (Lib.bytesWorld w 5 z) :=
  Lib.run_convert_string_bytes w 9 34 5 z Try.underlying9 Try.underlying34 Try.underlying5
theorem to_text (w : World) (z : ByteArray) (cap : Nat) : (convert 34 9 (.slice (some ⟨w.heap.size, 0, none⟩) z.size cap)).run Try.prog (Lib.bytesWorld w 5 z) = .ok (.string z) (Lib.bytesWorld w 5 z) := by
  have h := run_convert_bytes_arg (P := Try.prog) (Lib.bytesWorld w 5 z) 34 5 Try.underlying34 Try.underlying5 w.heap.size 0 z.size cap ((bl z).map fun c => (c.toNat : Int)) (by simp) (fun i hi => by
    rw [Nat.zero_add, Lib.bytesWorld_cell w 5 z i hi]
    simp [List.getD, hi]) 9 Try.underlying9
  have e : strOfNums ((bl z).map fun c => (c.toNat : Int)) = z := by
    unfold strOfNums
    rw [List.map_map]
    have : ((fun n : Int => UInt8.ofNat n.toNat) ∘ fun c : UInt8 => (c.toNat : Int)) = id := by funext c; simp
    rw [this]
    simp
  rw [e] at h
  exact h
theorem seal_as (s z : ByteArray) (w : World) (hs : s.size ≤ 100000) (H : Hid (sealB s = z)) :
    Calls Try.prog 14 #[.string s] w fun e w' => e = .returned (.string z) ∧ Below w.heap.size w w' := by
  have h := seal_any s w hs
  rw [H.out] at h
  exact h
theorem below_as (x : Int) (n k : Nat) (w : World) (h1 : -9223372036854775808 ≤ x) (h2 : x ≤ 9223372036854775807) (hn : 4 ≤ n) (hn2 : n ≤ 100000) (H : Hid (x % (n : Int) = k)) :
    Calls Try.prog 16 #[.int .i64 x, .int .i64 n] w fun e w' => e = .returned (.int .i64 k) ∧ w = w' := by
  have h := below_any x n w h1 h2 hn hn2
  rw [H.out] at h
  exact h

theorem one_cell {w2 w3 : World} {z : ByteArray} {k c : Nat} (hk : k < z.size) (hb : Below (Lib.bytesWorld w2 5 z).heap.size (Lib.bytesWorld w2 5 z) w3) (HC : Hid (((bl z).getD k 0).toNat = c)) :
    w3.cell? ⟨w2.heap.size, k, none⟩ = some (.int .u8 c) := by
  rw [hb.cell (p := ⟨w2.heap.size, k, none⟩) (by show w2.heap.size < (Lib.bytesWorld w2 5 z).heap.size; rw [Lib.bytesWorld_size]; omega), Lib.bytesWorld_cell w2 5 z k hk, HC.out]

theorem one_free {w2 w3 : World} {z : ByteArray} {k : Nat} (hk : k < z.size) (hb : Below (Lib.bytesWorld w2 5 z).heap.size (Lib.bytesWorld w2 5 z) w3) :
    w3.frozen? ⟨w2.heap.size, k, none⟩ = false := by
  rw [hb.frozen (p := ⟨w2.heap.size, k, none⟩) (by show w2.heap.size < (Lib.bytesWorld w2 5 z).heap.size; rw [Lib.bytesWorld_size]; omega)]
  have hn : k < (Lib.bytesCells w2 5 z).size := by
    unfold Lib.bytesCells
    rw [Array.size_append, Array.size_map]
    have : z.data.size = z.size := rfl
    omega
  simp only [World.frozen?, Lib.bytesWorld_at_new]
  simp; omega
theorem pow_mod (j : Nat) (h : j < 8) : (2 : Int) ^ j % 256 = ((2 ^ j : Nat) : Int) ∧ 2 ^ j < 256 := by
  match j, h with
  | 0, _ => decide
  | 1, _ => decide
  | 2, _ => decide
  | 3, _ => decide
  | 4, _ => decide
  | 5, _ => decide
  | 6, _ => decide
  | 7, _ => decide
/-- The byte with one bit turned. -/
def turned (c bit : Nat) : Nat := c ^^^ 2 ^ (bit % 8)
theorem turned_eq (c bit : Nat) (hc : c < 256) : bits .xor .u8 (c : Int) ((2 : Int) ^ (bit % 8) % 256) = ((turned c bit : Nat) : Int) := by
  obtain ⟨e, h⟩ := pow_mod (bit % 8) (by omega)
  rw [e, u8_xor_nat c _ hc h]
  rfl
theorem turned_lt (c bit : Nat) (hc : c < 256) : turned c bit < 256 := Nat.xor_lt_two_pow (n := 8) hc (pow_mod (bit % 8) (by omega)).2
theorem turned_ne (c bit : Nat) : turned c bit ≠ c := by
  intro h
  unfold turned at h
  have : c ^^^ (c ^^^ 2 ^ (bit % 8)) = c ^^^ c := by rw [h]
  rw [← Nat.xor_assoc, Nat.xor_self, Nat.zero_xor] at this
  have hp := Nat.two_pow_pos (bit % 8)
  omega
def flipB (z : ByteArray) (k c bit : Nat) : ByteArray := ba ((bl z).set k (UInt8.ofNat (turned c bit)))
theorem flipB_size (z : ByteArray) (k c bit : Nat) : (flipB z k c bit).size = z.size := by
  show ((bl z).set k (UInt8.ofNat (turned c bit))).toArray.size = z.size
  simp
theorem cell_other (w : World) (b i k : Nat) (v : Value) (h : i ≠ k) : (w.setCell ⟨b, k, none⟩ v).cell? ⟨b, i, none⟩ = w.cell? ⟨b, i, none⟩ := by
  simp only [World.cell?, World.setCell, Array.getElem?_modify, if_true]
  cases hh : w.heap[b]? with
  | none => simp
  | some o =>
    cases o with
    | cells c e f => simp [Array.getElem?_setIfInBounds, Ne.symm h]
    | _ => simp
theorem to_flipped {w2 w3 : World} {z : ByteArray} {k c : Nat} (bit cap : Nat) (hk : k < z.size) (hc : c < 256) (hb : Below (Lib.bytesWorld w2 5 z).heap.size (Lib.bytesWorld w2 5 z) w3) (HC : Hid (((bl z).getD k 0).toNat = c)) :
    (convert 34 9 (.slice (some ⟨w2.heap.size, 0, none⟩) z.size cap)).run Try.prog (w3.setCell ⟨w2.heap.size, k, none⟩ (.int .u8 (bits .xor .u8 (c : Int) ((2 : Int) ^ (bit % 8) % 256)))) =
      .ok (.string (flipB z k c bit)) (w3.setCell ⟨w2.heap.size, k, none⟩ (.int .u8 (bits .xor .u8 (c : Int) ((2 : Int) ^ (bit % 8) % 256)))) := by
  rw [turned_eq c bit hc]
  have ht := turned_lt c bit hc
  have h := run_convert_bytes_arg (P := Try.prog) (w3.setCell ⟨w2.heap.size, k, none⟩ (.int .u8 ((turned c bit : Nat) : Int))) 34 5 Try.underlying34 Try.underlying5 w2.heap.size 0 z.size cap (((bl z).set k (UInt8.ofNat (turned c bit))).map fun c => (c.toNat : Int)) (by simp) (fun i hi => by
    rw [Nat.zero_add]
    by_cases hik : i = k
    · subst hik
      rw [World.cell?_setCell_same (h := one_cell hk hb HC)]
      simp [List.getD, hi, Nat.mod_eq_of_lt ht]
    · rw [cell_other _ _ _ _ _ hik, one_cell hi hb (Lib.hid rfl)]
      simp [List.getD, hi, List.getElem_set, Ne.symm hik]) 9 Try.underlying9
  have e : strOfNums (((bl z).set k (UInt8.ofNat (turned c bit))).map fun c => (c.toNat : Int)) = flipB z k c bit := by
    unfold strOfNums flipB
    rw [List.map_map]
    have : ((fun n : Int => UInt8.ofNat n.toNat) ∘ fun c : UInt8 => (c.toNat : Int)) = id := by funext c; simp
    rw [this]
    simp
  rw [e] at h
  exact h
theorem flip_fits (s z : ByteArray) (k c bit : Nat) (hk : k < z.size) (hc : c < 256) (HZ : Hid (sealB s = z)) (HC : Hid (((bl z).getD k 0).toNat = c)) : fitsS (bl (flipB z k c bit)) = false := by
  have h := HZ.out
  subst h
  have e : bl (flipB (sealB s) k c bit) = (sealS (bl s)).set k (UInt8.ofNat (turned c bit)) := by
    unfold flipB
    rw [sealB_bl]
  have hl : k < (sealS (bl s)).length := by rw [← sealB_bl]; simpa using hk
  rw [e]
  refine fits_flip (bl s) k _ hl fun h => ?_
  have h1 := HC.out
  rw [sealB_bl, List.getD_eq_getElem?_getD, List.getElem?_eq_getElem hl, Option.getD_some, ← h] at h1
  have ht := turned_lt c bit hc
  have : (UInt8.ofNat (turned c bit)).toNat = turned c bit := by simp; omega
  rw [this] at h1
  exact turned_ne c bit h1
theorem below_conv (w2 : World) (z : ByteArray) : Below w2.heap.size w2 (Lib.bytesWorld w2 5 z) :=
  ⟨rfl, rfl, rfl, by rw [Lib.bytesWorld_size]; omega, fun j hj => Lib.bytesWorld_at_old w2 5 z j hj⟩
theorem below_all {w w2 w3 w5 : World} {z : ByteArray} {k : Nat} {v : Value} (h2 : Below w.heap.size w w2) (h3 : Below (Lib.bytesWorld w2 5 z).heap.size (Lib.bytesWorld w2 5 z) w3) (h5 : Below (w3.setCell ⟨w2.heap.size, k, none⟩ v).heap.size (w3.setCell ⟨w2.heap.size, k, none⟩ v) w5) : Below w.heap.size w w5 := by
  have hs := h2.size
  have a := h2.trans ((below_conv w2 z).mono hs)
  have b := a.trans (h3.mono a.size)
  have c := b.setCell (p := ⟨w2.heap.size, k, none⟩) hs v
  exact c.trans (h5.mono c.size)

set_option maxHeartbeats 2000000 in
theorem crcOne_in (s z y : ByteArray) (x : Int) (bit k c : Nat) (w : World) (hs : s.size ≤ 1000) (h1 : -9223372036854775808 ≤ x) (h2 : x ≤ 9223372036854775807) (hbit : bit < 256)
    (HZ : Hid (sealB s = z)) (hz1 : s.size + 4 ≤ z.size) (hz2 : z.size ≤ s.size + 4) (hk : k < z.size) (HK : Hid (x % (z.size : Int) = k)) (HF : Hid (fitsS (bl z) = true)) (HC : Hid (((bl z).getD k 0).toNat = c)) (hc : c < 256)
    (HY : Hid (flipB z k c bit = y)) (hy1 : s.size + 4 ≤ y.size) (hy2 : y.size ≤ s.size + 4) (HG : Hid (fitsS (bl y) = false)) :
    Calls Try.prog 6 #[.string s, .int .i64 x, .int .u8 bit] w fun e w' => e = .returned (.bool true) ∧ Below w.heap.size w w' := by
  have hne : ((z.size : Int) != (s.size : Int) + 4) = false := by simp; omega
  have d1 : decide ((1000 : Int) < (s.size : Int)) = false := by simp; omega
  have hto := to_bytes
  have hback := to_text
  have HB : Hid (Below w.heap.size w w) := Below.refl _ _
  go_enter Try.func6, Try.ntmps6
  go_wp2_with (first | (go_at_call 7; refine (works_any _).mono ?_; rintro e w1 ⟨rfl, hb⟩; have HB := Lib.hid (HB.out.trans (hb.mono HB.out.size)); clear hb) | (go_at_call 14; refine (seal_as _ _ _ (by omega) HZ).mono ?_; rintro e w2 ⟨rfl, hb⟩; have HB := Lib.hid (HB.out.trans (hb.mono HB.out.size)); clear hb) | (go_at_call 15; (with_reducible refine (fits_as z true _ (by omega) (by omega) HF).mono ?_); rintro e w3 ⟨rfl, hb3⟩; have hc3 := one_cell hk hb3 HC; have hf3 := one_free hk hb3; have hv3 := to_flipped bit (grownCap w2 z.size 0 5) hk hc hb3 HC; rw [HY.out] at hv3; have HB3 := Lib.hid hb3; clear hb3) | (go_at_call 16; refine (below_as _ _ _ _ (by omega) (by omega) (by omega) (by omega) HK).mono ?_; rintro e w4 ⟨rfl, rfl⟩) | (go_at_call 15; (with_reducible refine (fits_as y false _ (by omega) (by omega) HG).mono ?_); rintro e w5 ⟨rfl, hb5⟩))
  go_ret
  exact ⟨rfl, below_all HB.out HB3.out hb5⟩

set_option maxHeartbeats 1000000 in
theorem crcOne_any (s : ByteArray) (x : Int) (bit : Nat) (w : World) (hs : s.size ≤ 9223372036854775807) (h1 : -9223372036854775808 ≤ x) (h2 : x ≤ 9223372036854775807) (hbit : bit < 256) :
    Calls Try.prog 6 #[.string s, .int .i64 x, .int .u8 bit] w fun e w' => e = .returned (.bool true) ∧ Below w.heap.size w w' := by
  by_cases h3 : s.size ≤ 1000
  · have hz := sealB_size s
    have hp : 0 ≤ x % ((sealB s).size : Int) := Int.emod_nonneg x (by omega)
    have hl : x % ((sealB s).size : Int) < (sealB s).size := Int.emod_lt_of_pos x (by omega)
    have hk : (x % ((sealB s).size : Int)).toNat < (sealB s).size := by omega
    have hc : ((bl (sealB s)).getD (x % ((sealB s).size : Int)).toNat 0).toNat < 256 := byte_lt _
    have hy := flipB_size (sealB s) (x % ((sealB s).size : Int)).toNat ((bl (sealB s)).getD (x % ((sealB s).size : Int)).toNat 0).toNat bit
    exact crcOne_in s (sealB s) _ x bit _ _ w h3 h1 h2 hbit (Lib.hid rfl) (by omega) (by omega) hk (Lib.hid (by omega)) (Lib.hid (by rw [sealB_bl]; exact fits_seal _)) (Lib.hid rfl) hc (Lib.hid rfl) (by omega) (by omega)
      (Lib.hid (flip_fits s (sealB s) _ _ bit hk hc (Lib.hid rfl) (Lib.hid rfl)))
  · have h4 : 1000 < s.size := by omega
    have HB : Hid (Below w.heap.size w w) := Below.refl _ _
    clear h3
    go_enter Try.func6, Try.ntmps6
    go_wp2_with (go_at_call 7; refine (works_any _).mono ?_; rintro e w1 ⟨rfl, hb⟩; have HB := Lib.hid (HB.out.trans (hb.mono HB.out.size)); clear hb)
    go_ret
    exact ⟨rfl, HB.out⟩
end Go.Proofs.Ytldadkpdmkghoaa
