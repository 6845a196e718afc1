/-
  A number's eight bytes: the program's and the document's.
-/
import Derived.Test.YtpkgbjbjdbjlhaaCodeRefTo16
import Derived.Test.YtpkgbjbjdbjlhaaCodeArr
namespace Go.Proofs.Ytpkgbjbjdbjlhaa.Code
open Go.RowKit

def b8 (n : Nat) : List UInt8 := (List.range 8).map fun j => byt (n / 256 ^ (7 - j) % 256)
theorem b8_len (n : Nat) : (b8 n).length = 8 := rfl
/-- The number of the first so many bytes. -/
def numP (l : List UInt8) : Nat → Nat
  | 0 => 0
  | i + 1 => numP l i * 256 + byteAt l i
theorem byteAt_lt8 (l : List UInt8) (i : Nat) : byteAt l i < 256 := byteAt_lt l i
theorem numP_lt (l : List UInt8) : ∀ i, numP l i < 256 ^ i
  | 0 => by show 0 < 1; decide
  | i + 1 => by
    have h1 := numP_lt l i
    have h2 := byteAt_lt8 l i
    show numP l i * 256 + byteAt l i < 256 ^ (i + 1)
    rw [Nat.pow_succ]
    omega
theorem byteAt_b8 (n j : Nat) (h : j < 8) : byteAt (b8 n) j = n / 256 ^ (7 - j) % 256 := by
  unfold byteAt b8
  rw [List.getD_eq_getElem?_getD, List.getElem?_map, List.getElem?_range h]
  simp only [Option.map_some, Option.getD_some]
  exact byt_toNat _ (Nat.mod_lt _ (by decide))
theorem numP_b8 (n : Nat) (hn : n < 256 ^ 8) : ∀ i, i ≤ 8 → numP (b8 n) i = n / 256 ^ (8 - i)
  | 0, _ => by rw [Nat.sub_zero, Nat.div_eq_of_lt hn]; rfl
  | i + 1, h => by
    show numP (b8 n) i * 256 + byteAt (b8 n) i = _
    rw [numP_b8 n hn i (by omega), byteAt_b8 n i (by omega), show 8 - i = (7 - i) + 1 by omega, show 8 - (i + 1) = 7 - i by omega, Nat.pow_succ, ← Nat.div_div_eq_div_mul]
    generalize n / 256 ^ (7 - i) = x
    omega
theorem num_b8 (n : Nat) (hn : n < 18446744073709551616) : numP (b8 n) 8 = n := by
  rw [numP_b8 n hn 8 (Nat.le_refl _)]; simp
/-- The last bytes, from place 8 - i on. -/
def row8 (n i : Nat) : Nat → Nat := fun j => if 8 ≤ j + i then n / 256 ^ (7 - j) % 256 else 0
theorem row8_next (n i : Nat) (hi : i < 8) (j : Nat) (hj : j < 8) : upd (row8 n i) (7 - i) (n / 256 ^ i % 256) j = row8 n (i + 1) j := by
  unfold upd row8
  by_cases h : j = 7 - i
  · subst h
    rw [if_pos rfl, if_pos (by omega), show 7 - (7 - i) = i by omega]
  · rw [if_neg h]
    by_cases h2 : 8 ≤ j + i
    · rw [if_pos h2, if_pos (by omega)]
    · rw [if_neg h2, if_neg (by omega)]
theorem row8_done (n : Nat) : ((List.range 8).map fun j => byt (row8 n 8 j)) = b8 n := by
  unfold b8
  apply List.map_congr_left
  intro j _
  unfold row8
  rw [if_pos (by omega)]
def BytesAt (n : Nat) (w : World) (m i : Value) (wr : World) : Prop :=
  ∃ k : Nat, k ≤ 8 ∧ i = .int .i64 k ∧ m = .int .u64 (n / 256 ^ k : Nat) ∧ Holds wr w.heap.size (rowOf .u8 8 (row8 n k)) 44 ∧ Below w.heap.size w wr
set_option maxRecDepth 100000 in
set_option maxHeartbeats 400000 in
theorem bytes_any (n : Nat) (w : World) (hn : n < 18446744073709551616) :
    Calls Try.prog 18 #[.int .u64 n] w fun e w' => e = .returned (.string (ba (b8 n))) ∧ Below w.heap.size w w' := by
  have HI : Hid (BytesAt n w (.int .u64 n) (.int .i64 0) (w.alloc (.cells (rowOf .u8 8 fun _ => 0) 44))) :=
    ⟨0, by omega, rfl, by simp, by rw [show rowOf .u8 8 (row8 n 0) = rowOf .u8 8 fun _ => 0 from rowOf_congr fun j hj => if_neg (by omega)]; exact Holds.new _ _ _, (Below.refl _ _).alloc (Nat.le_refl _) _⟩
  go_enter Try.func18, Try.ntmps18
  go_wp2
  go_loopw [0, 4, 5] (fun m _ i wr => BytesAt n w m i wr) (fun _ _ i _ => 8 - (intOf i).toNat)
  case atStart => exact HI.out
  case round =>
    clear HI
    obtain ⟨k, hk, rfl, rfl, hR, hB⟩ := hrel
    have hx : n / 256 ^ k < 18446744073709551616 := Nat.lt_of_le_of_lt (Nat.div_le_self _ _) hn
    by_cases h8 : k < 8
    · obtain ⟨q, hq⟩ : ∃ q, 7 - k = q := ⟨_, rfl⟩
      have hqi : (7 : Int) - (k : Int) = (q : Int) := by omega
      have hq8 : q < 8 := by omega
      have hcell := hR.num hq8
      have hfree := hR.free q
      have HN : Hid (n / 256 ^ (k + 1) = n / 256 ^ k / 256) := by
        show _ = _
        rw [Nat.pow_succ, Nat.div_div_eq_div_mul]
      have hS := hR.set q (n / 256 ^ k % 256)
      have he := rowOf_congr (k := .u8) (fun j hj => row8_next n k h8 j hj)
      rw [hq] at he
      rw [he] at hS
      have hB2 := hB.setCell (p := ⟨w.heap.size, q, none⟩) (Nat.le_refl _) (.int .u8 (n / 256 ^ k % 256 : Nat))
      have HS := Lib.hid (And.intro hS hB2)
      clear hR hB hS hB2 hq he
      generalize n / 256 ^ k = x at hx HN HS ⊢
      have HX : Hid ((x : Int) % 256 = ((x % 256 : Nat) : Int)) := by show _ = _; omega
      go_wp2
      go_roundw
      case rel => exact ⟨k + 1, by omega, by go_num, int_eq (by rw [HN.out]; omega), by rw [HX.out]; exact HS.out.1, by rw [HX.out]; exact HS.out.2⟩
      case measure => simp [intOf]; omega
    · obtain rfl : k = 8 := by omega
      have hc := conv_row wr _ _ _ _ hR
      rw [row8_done] at hc
      have HB := Lib.hid hB
      clear hB hR
      go_wp2
      go_ret
      exact ⟨rfl, HB.out⟩

def RefBytesAt (n : Nat) (w : World) (m s i : Value) (wr : World) : Prop :=
  ∃ k : Nat, k ≤ 8 ∧ i = .int .i64 k ∧ m = .int .u64 (n / 256 ^ k : Nat) ∧ s = .string (ba ((b8 n).drop (8 - k))) ∧ Below w.heap.size w wr
theorem b8_drop (n k : Nat) (h : k < 8) : ba [byt (n / 256 ^ k % 256)] ++ ba ((b8 n).drop (8 - k)) = ba ((b8 n).drop (8 - (k + 1))) := by
  rw [ba_append, show 8 - (k + 1) = 7 - k by omega, List.drop_eq_getElem_cons (l := b8 n) (i := 7 - k) (by rw [b8_len]; omega), show 7 - k + 1 = 8 - k by omega]
  congr 3
  unfold b8
  simp
  rw [show 7 - (7 - k) = k by omega]
set_option maxRecDepth 100000 in
set_option maxHeartbeats 400000 in
theorem refBytes_any (n : Nat) (w : World) (hn : n < 18446744073709551616) :
    Calls Try.prog 17 #[.int .u64 n] w fun e w' => e = .returned (.string (ba (b8 n))) ∧ Below w.heap.size w w' := by
  have HI : Hid (RefBytesAt n w (.int .u64 n) (.string ⟨#[]⟩) (.int .i64 0) w) := ⟨0, by omega, rfl, by simp, rfl, Below.refl _ _⟩
  go_enter Try.func17, Try.ntmps17
  go_wp2
  go_loopw [0, 3, 4] (fun m s i wr => RefBytesAt n w m s i wr) (fun _ _ i _ => 8 - (intOf i).toNat)
  case atStart => exact HI.out
  case round =>
    clear HI
    obtain ⟨k, hk, rfl, rfl, rfl, hB⟩ := hrel
    have hx : n / 256 ^ k < 18446744073709551616 := Nat.lt_of_le_of_lt (Nat.div_le_self _ _) hn
    have HB := Lib.hid hB
    clear hB
    have hz : (ba ((b8 n).drop (8 - k))).size ≤ 8 := by rw [ba_size, List.length_drop, b8_len]; omega
    by_cases h8 : k < 8
    · have HN : Hid (n / 256 ^ (k + 1) = n / 256 ^ k / 256) := by
        show _ = _
        rw [Nat.pow_succ, Nat.div_div_eq_div_mul]
      have HD := Lib.hid (b8_drop n k h8)
      have hc := one_laid wr (byt (n / 256 ^ k % 256))
      rw [byt_toNat _ (Nat.mod_lt _ (by decide))] at hc
      have hz1 : (ba [byt (n / 256 ^ k % 256)]).size = 1 := rfl
      generalize ba [byt (n / 256 ^ k % 256)] = u at hc hz1 HD
      generalize ba ((b8 n).drop (8 - k)) = o at hz HD ⊢
      generalize n / 256 ^ k = x at hx HN hc ⊢
      have hxi : ((x % 256 : Nat) : Int) = (x : Int) % 256 := by omega
      rw [hxi] at hc
      clear hxi
      go_wp2
      go_roundw
      case rel => exact ⟨k + 1, by omega, by go_num, int_eq (by rw [HN.out]; omega), by rw [HD.out], HB.out.alloc HB.out.size _⟩
      case measure => simp [intOf]; omega
    · obtain rfl : k = 8 := by omega
      go_wp2
      go_ret
      exact ⟨rfl, HB.out⟩

theorem join64 (x c : Nat) (hx : x < 72057594037927936) (hc : c < 256) : bits .or .u64 ((x : Int) * 256) (c : Int) = ((x * 256 + c : Nat) : Int) := by
  have e : (x : Int) * 256 = ((x * 256 : Nat) : Int) := by simp
  rw [e, u64_or_nat _ _ (by omega) (by omega), show x * 256 = 2 ^ 8 * x by omega, ← Nat.two_pow_add_eq_or_of_lt (by omega : c < 2 ^ 8)]
theorem numP_small (l : List UInt8) (i : Nat) (h : i < 8) : numP l i < 72057594037927936 := Nat.lt_of_lt_of_le (numP_lt l i) (Nat.pow_le_pow_right (by decide) (by omega : i ≤ 7))
set_option maxRecDepth 100000 in
set_option maxHeartbeats 400000 in
theorem number_yes (s : ByteArray) (w : World) (hs : s.size = 8) :
    Calls Try.prog 16 #[.string s] w fun e w' => e = .returned (.tuple #[.int .u64 (numP (bl s) 8 : Nat), .int .i64 0]) ∧ w = w' := by
  have hne : ((s.size : Int) != 8) = false := by rw [hs]; rfl
  have HS := Lib.hid hs
  have h1 : 8 ≤ s.size := by omega
  clear hs
  go_enter Try.func16, Try.ntmps16
  go_wp2
  go_loop [4, 5, 9] (fun n _ i => ∃ k : Nat, k ≤ 8 ∧ i = .int .i64 k ∧ n = .int .u64 (numP (bl s) k : Nat)) (fun _ _ i => 8 - (intOf i).toNat)
  case atStart => exact ⟨0, by omega, rfl, rfl⟩
  case round =>
    obtain ⟨k, hk, rfl, rfl⟩ := hrel
    by_cases h8 : k < 8
    · have hx := numP_small (bl s) k h8
      have hlt : k < s.size := by omega
      have hc : s[k].toNat < 256 := s[k].toNat_lt
      have HX : Hid (bits .or .u64 ((numP (bl s) k : Int) * 256) (s[k].toNat : Int) = (numP (bl s) (k + 1) : Nat)) := by
        show _ = _
        rw [join64 _ _ hx hc, ← byteAt_str s k hlt]
        rfl
      generalize numP (bl s) k = x at hx HX ⊢
      go_wp2
      go_round
      case rel => exact ⟨k + 1, by omega, by go_num, int_eq HX.out⟩
      case measure => simp [intOf]; omega
    · obtain rfl : k = 8 := by omega
      go_wp2
      go_ret2
      exact ⟨rfl, rfl⟩
set_option maxHeartbeats 400000 in
theorem number_no (s : ByteArray) (w : World) (hs : s.size ≠ 8) :
    Calls Try.prog 16 #[.string s] w fun e w' => e = .returned (.tuple #[.int .u64 0, .int .i64 4]) ∧ w = w' := by
  have hne : ((s.size : Int) != 8) = true := by rw [bne_iff_ne]; omega
  clear hs
  go_enter Try.func16, Try.ntmps16
  go_wp2
  go_ret2
  exact ⟨rfl, rfl⟩
end Go.Proofs.Ytpkgbjbjdbjlhaa.Code
