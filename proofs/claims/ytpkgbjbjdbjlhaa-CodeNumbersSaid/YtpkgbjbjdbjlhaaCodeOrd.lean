/-
  Numbers stand in the order of their bytes, and of these in sixteen signs.
-/
import Derived.Test.YtpkgbjbjdbjlhaaCodeNum
namespace Go.Proofs.Ytpkgbjbjdbjlhaa.Code
open Go

def nb (B : Nat) (u : Nat → Nat) : Nat → Nat
  | 0 => 0
  | i + 1 => nb B u i * B + u i
theorem less_snoc : ∀ (xs ys : List UInt8) (x y : UInt8), xs.length = ys.length → Op.bytesLess (xs ++ [x]) (ys ++ [y]) = (Op.bytesLess xs ys || (xs == ys && decide (x < y)))
  | [], [], x, y, _ => by simp [Op.bytesLess]
  | a :: xs, b :: ys, x, y, h => by
    show (decide (a < b) || (a == b && Op.bytesLess (xs ++ [x]) (ys ++ [y]))) = ((decide (a < b) || (a == b && Op.bytesLess xs ys)) || ((a == b && xs == ys) && decide (x < y)))
    rw [less_snoc xs ys x y (by simpa using h)]
    cases decide (a < b) <;> cases a == b <;> simp
  | [], b :: ys, _, _, h => by simp at h
  | a :: xs, [], _, _, h => by simp at h
theorem order_nb (B : Nat) (φ : Nat → UInt8) (hφ : ∀ x y, x < B → y < B → ((φ x < φ y) ↔ x < y)) (u v : Nat → Nat) (hu : ∀ j, u j < B) (hv : ∀ j, v j < B) :
    ∀ m, Op.bytesLess ((List.range m).map fun j => φ (u j)) ((List.range m).map fun j => φ (v j)) = decide (nb B u m < nb B v m) ∧
      (((List.range m).map fun j => φ (u j)) = ((List.range m).map fun j => φ (v j)) ↔ nb B u m = nb B v m)
  | 0 => ⟨rfl, by simp [nb]⟩
  | m + 1 => by
    obtain ⟨h1, h2⟩ := order_nb B φ hφ u v hu hv m
    have hx := hu m
    have hy := hv m
    have e1 := hφ (u m) (v m) hx hy
    have e2 := hφ (v m) (u m) hy hx
    have hB : nb B u m < nb B v m → nb B u m * B + B ≤ nb B v m * B := fun h => by
      have := Nat.mul_le_mul_right B h
      rwa [Nat.succ_mul] at this
    have hB2 : nb B v m < nb B u m → nb B v m * B + B ≤ nb B u m * B := fun h => by
      have := Nat.mul_le_mul_right B h
      rwa [Nat.succ_mul] at this
    have hE : nb B u m = nb B v m → nb B u m * B = nb B v m * B := fun h => by rw [h]
    have hinj : φ (u m) = φ (v m) ↔ u m = v m := by
      constructor
      · intro h
        rcases Nat.lt_trichotomy (u m) (v m) with h' | h' | h'
        · have := e1.2 h'; rw [h] at this; exact absurd this (UInt8.lt_irrefl _)
        · exact h'
        · have := e2.2 h'; rw [h] at this; exact absurd this (UInt8.lt_irrefl _)
      · intro h; rw [h]
    rw [List.range_succ, List.map_append, List.map_append]
    simp only [List.map_cons, List.map_nil]
    constructor
    · rw [less_snoc _ _ _ _ (by simp), h1, Bool.eq_iff_iff]
      simp only [Bool.or_eq_true, decide_eq_true_eq, Bool.and_eq_true, beq_iff_eq, h2, e1]
      show _ ↔ nb B u m * B + u m < nb B v m * B + v m
      constructor
      · rintro (h | ⟨h, h'⟩)
        · have := hB h; omega
        · have := hE h; omega
      · intro h
        rcases Nat.lt_trichotomy (nb B u m) (nb B v m) with h' | h' | h'
        · exact .inl h'
        · have := hE h'; exact .inr ⟨h', by omega⟩
        · have := hB2 h'; omega
    · rw [List.append_eq_append_iff_of_size_eq_left (by simp)]
      simp only [List.cons.injEq, and_true]
      rw [h2, hinj]
      show _ ↔ nb B u m * B + u m = nb B v m * B + v m
      constructor
      · rintro ⟨h, h'⟩; rw [h, h']
      · intro h
        rcases Nat.lt_trichotomy (nb B u m) (nb B v m) with h' | h' | h'
        · have := hB h'; omega
        · have := hE h'; exact ⟨h', by omega⟩
        · have := hB2 h'; omega
theorem nb_sg (f : Nat → Nat) (w : Nat) : ∀ i, nb (2 ^ w) (fun j => sg f (w * j) w) i = sg f 0 (w * i)
  | 0 => rfl
  | i + 1 => by
    show nb (2 ^ w) _ i * 2 ^ w + sg f (w * i) w = _
    rw [nb_sg f w i, Nat.mul_succ, sg_add, Nat.zero_add]
theorem numP_nb (l : List UInt8) (i : Nat) : nb (2 ^ 8) (fun j => sg (strL l) (8 * j) 8) i = numP l i := by
  induction i with
  | zero => rfl
  | succ i ih =>
    show nb (2 ^ 8) _ i * 2 ^ 8 + sg (strL l) (8 * i) 8 = numP l i * 256 + byteAt l i
    rw [ih, strL_byte]
theorem nb_16 (l : List UInt8) : nb (2 ^ 4) (fun j => sg (strL l) (4 * j) 4) 16 = numP l 8 := by
  rw [nb_sg, ← numP_nb, nb_sg]
theorem byt_mono (x y : Nat) (hx : x < 256) (hy : y < 256) : (byt x < byt y) ↔ x < y := by
  rw [UInt8.lt_iff_toNat_lt, byt_toNat x hx, byt_toNat y hy]
theorem d16_mono (x y : Nat) (hx : x < 2 ^ 4) (hy : y < 2 ^ 4) : (digOf d16 x < digOf d16 y) ↔ x < y := by
  have : ∀ x, x < 16 → ∀ y, y < 16 → ((digOf d16 x < digOf d16 y) ↔ x < y) := by decide +kernel
  exact this x hx y hy
theorem nb_b8 (n : Nat) (hn : n < 18446744073709551616) : nb 256 (fun j => n / 256 ^ (7 - j) % 256) 8 = n := by
  have e : ∀ i, i ≤ 8 → nb 256 (fun j => n / 256 ^ (7 - j) % 256) i = numP (b8 n) i := by
    intro i
    induction i with
    | zero => intro _; rfl
    | succ i ih =>
      intro h
      show nb 256 _ i * 256 + n / 256 ^ (7 - i) % 256 = numP (b8 n) i * 256 + byteAt (b8 n) i
      rw [ih (by omega), byteAt_b8 n i (by omega)]
  rw [e 8 (Nat.le_refl _), num_b8 n hn]
theorem order_b8 (a b : Nat) (ha : a < 18446744073709551616) (hb : b < 18446744073709551616) : Op.bytesLess (b8 a) (b8 b) = decide (a < b) ∧ (b8 a = b8 b ↔ a = b) := by
  have h := order_nb 256 byt byt_mono (fun j => a / 256 ^ (7 - j) % 256) (fun j => b / 256 ^ (7 - j) % 256) (fun j => Nat.mod_lt _ (by decide)) (fun j => Nat.mod_lt _ (by decide)) 8
  rw [nb_b8 a ha, nb_b8 b hb] at h
  exact h
theorem order_16 (a b : Nat) (ha : a < 18446744073709551616) (hb : b < 18446744073709551616) : Op.bytesLess (enc 4 d16 (b8 a)) (enc 4 d16 (b8 b)) = decide (a < b) := by
  have h := (order_nb (2 ^ 4) (digOf d16) d16_mono (fun j => sg (strL (b8 a)) (4 * j) 4) (fun j => sg (strL (b8 b)) (4 * j) 4) (fun j => sg_lt _ (strL_bit _) _ _) (fun j => sg_lt _ (strL_bit _) _ _) 16).1
  rw [nb_16, nb_16, num_b8 a ha, num_b8 b hb] at h
  unfold enc
  rw [b8_len, b8_len, show elen 4 8 = 16 from rfl]
  exact h
end Go.Proofs.Ytpkgbjbjdbjlhaa.Code
