/-
  Walks of the bytes: Number, the document's Bytes.
-/
import Derived.Test.YtldadkpdmkghoaaBits
namespace Go.Proofs.Ytldadkpdmkghoaa
open Go.RowKit

theorem or_up (x y k : Nat) (hx : x < 2 ^ k) : x ||| y * 2 ^ k = x + y * 2 ^ k := by
  rw [Nat.or_comm, ← Nat.shiftLeft_eq, ← Nat.shiftLeft_add_eq_or_of_lt hx, Nat.add_comm]
theorem or_b0 (a : Nat) (h : a < 256) : bits .or .u32 0 (a : Int) = (a : Int) := by
  have := u32_or_nat 0 a (by decide) (by omega)
  rw [Nat.zero_or] at this
  exact this
theorem or_b1 (a b : Nat) (ha : a < 256) (hb : b < 256) : bits .or .u32 (a : Int) ((b : Int) * 256) = ((a + 256 * b : Nat) : Int) := by
  have := u32_or_nat a (b * 256) (by omega) (by omega)
  rw [or_up a b 8 ha] at this
  rw [show (b : Int) * 256 = ((b * 256 : Nat) : Int) by omega, this]
  omega
theorem or_b2 (a b : Nat) (ha : a < 65536) (hb : b < 256) : bits .or .u32 (a : Int) ((b : Int) * 65536) = ((a + 65536 * b : Nat) : Int) := by
  have := u32_or_nat a (b * 65536) (by omega) (by omega)
  rw [or_up a b 16 ha] at this
  rw [show (b : Int) * 65536 = ((b * 65536 : Nat) : Int) by omega, this]
  omega
theorem or_b3 (a b : Nat) (ha : a < 16777216) (hb : b < 256) : bits .or .u32 (a : Int) ((b : Int) * 16777216) = ((a + 16777216 * b : Nat) : Int) := by
  have := u32_or_nat a (b * 16777216) (by omega) (by omega)
  rw [or_up a b 24 ha] at this
  rw [show (b : Int) * 16777216 = ((b * 16777216 : Nat) : Int) by omega, this]
  omega

set_option maxHeartbeats 400000 in
theorem number_no (s : ByteArray) (w : World) (hs : s.size ≤ 100000) (h4 : s.size < 4 ∨ 4 < s.size) :
    Calls Try.prog 8 #[.string s] w fun e w' => e = .returned (.tuple #[.int .u32 0, .int .i64 4]) ∧ w = w' := by
  rcases h4 with h4 | h4
  all_goals
    go_enter Try.func8, Try.ntmps8
    go_wp2
    go_ret2
    exact ⟨rfl, rfl⟩

def NumAt (p q r t : Nat) (x i : Value) : Prop :=
  (i = .int .i64 0 ∧ x = .int .u32 0) ∨ (i = .int .i64 1 ∧ x = .int .u32 p) ∨ (i = .int .i64 2 ∧ x = .int .u32 q) ∨ (i = .int .i64 3 ∧ x = .int .u32 r) ∨ (i = .int .i64 4 ∧ x = .int .u32 t)

set_option maxHeartbeats 400000 in
theorem number_at (s : ByteArray) (w : World) (h1 : 4 ≤ s.size) (h2 : s.size ≤ 4) (p q r t : Nat) (HP : Hid (s[0].toNat = p)) (HQ : Hid (p + 256 * s[1].toNat = q)) (HR : Hid (q + 65536 * s[2].toNat = r)) (HT : Hid (r + 16777216 * s[3].toNat = t)) :
    Calls Try.prog 8 #[.string s] w fun e w' => e = .returned (.tuple #[.int .u32 t, .int .i64 0]) ∧ w = w' := by
  have b0 := byte_lt s[0]
  have b1 := byte_lt s[1]
  have b2 := byte_lt s[2]
  have b3 := byte_lt s[3]
  have hp : p < 256 := by have := HP.out; omega
  have hq : q < 65536 := by have := HQ.out; omega
  have hr : r < 16777216 := by have := HR.out; omega
  have E0 : Hid (bits .or .u32 0 (s[0].toNat : Int) = (p : Int)) := by
    show bits .or .u32 0 (s[0].toNat : Int) = (p : Int)
    rw [or_b0 _ b0, HP.out]
  have E1 : Hid (bits .or .u32 (p : Int) ((s[1].toNat : Int) * 256) = (q : Int)) := by
    show bits .or .u32 (p : Int) ((s[1].toNat : Int) * 256) = (q : Int)
    rw [or_b1 _ _ hp b1, HQ.out]
  have E2 : Hid (bits .or .u32 (q : Int) ((s[2].toNat : Int) * 65536) = (r : Int)) := by
    show bits .or .u32 (q : Int) ((s[2].toNat : Int) * 65536) = (r : Int)
    rw [or_b2 _ _ hq b2, HR.out]
  have E3 : Hid (bits .or .u32 (r : Int) ((s[3].toNat : Int) * 16777216) = (t : Int)) := by
    show bits .or .u32 (r : Int) ((s[3].toNat : Int) * 16777216) = (t : Int)
    rw [or_b3 _ _ hr b3, HT.out]
  clear HP HQ HR HT
  have hne : ((s.size : Int) != 4) = false := by simp; omega
  go_enter Try.func8, Try.ntmps8
  go_wp2
  go_loop [4, 5, 9] (fun x _ i => NumAt p q r t x i) (fun _ _ i => 4 - (intOf i).toNat)
  case atStart => exact .inl ⟨rfl, rfl⟩
  case round =>
    rcases hrel with ⟨rfl, rfl⟩ | ⟨rfl, rfl⟩ | ⟨rfl, rfl⟩ | ⟨rfl, rfl⟩ | ⟨rfl, rfl⟩
    · have hz : 0 < s.size := by omega
      go_wp2
      go_round
      case rel => exact .inr (.inl ⟨rfl, int_eq E0.out⟩)
      case measure => simp [intOf]
    · have hz : 1 < s.size := by omega
      go_wp2
      go_round
      case rel => exact .inr (.inr (.inl ⟨rfl, int_eq E1.out⟩))
      case measure => simp [intOf]
    · have hz : 2 < s.size := by omega
      go_wp2
      go_round
      case rel => exact .inr (.inr (.inr (.inl ⟨rfl, int_eq E2.out⟩)))
      case measure => simp [intOf]
    · have hz : 3 < s.size := by omega
      go_wp2
      go_round
      case rel => exact .inr (.inr (.inr (.inr ⟨rfl, int_eq E3.out⟩)))
      case measure => simp [intOf]
    · go_wp2
      go_ret2
      exact ⟨rfl, rfl⟩
theorem number_yes (s : ByteArray) (w : World) (h4 : s.size = 4) :
    Calls Try.prog 8 #[.string s] w fun e w' => e = .returned (.tuple #[.int .u32 (numS (bl s)), .int .i64 0]) ∧ w = w' := by
  have e : bl s = [s[0], s[1], s[2], s[3]] := by
    apply List.ext_getElem
    · simp [h4]
    · intro i hi _
      have hi : i < 4 := by simpa [h4] using hi
      match i, hi with
      | 0, _ => rfl
      | 1, _ => rfl
      | 2, _ => rfl
      | 3, _ => rfl
  refine number_at s w (by omega) (by omega) _ _ _ _ (Lib.hid rfl) (Lib.hid rfl) (Lib.hid rfl) ?_
  show s[0].toNat + 256 * s[1].toNat + 65536 * s[2].toNat + 16777216 * s[3].toNat = numS (bl s)
  rw [e]
  unfold numS
  simp only [List.foldr_cons, List.foldr_nil]
  omega

/- The bytes of a row of four numbers that was just laid. -/
def fourB (a b c d : Int) : ByteArray := ⟨#[UInt8.ofNat a.toNat, UInt8.ofNat b.toNat, UInt8.ofNat c.toNat, UInt8.ofNat d.toNat]⟩
theorem four_laid (T : TypeId) (w : World) (a b c d : Int) : (convert 34 9 (.slice (some ⟨w.heap.size, 0, none⟩) 4 4)).run Try.prog (w.alloc (.cells #[.int .u8 a, .int .u8 b, .int .u8 c, .int .u8 d] T)) = .ok (.string (fourB a b c d)) (w.alloc (.cells #[.int .u8 a, .int .u8 b, .int .u8 c, .int .u8 d] T)) := by
  have hh : (w.alloc (.cells #[.int .u8 a, .int .u8 b, .int .u8 c, .int .u8 d] T)).heap[w.heap.size]? = some (.cells #[.int .u8 a, .int .u8 b, .int .u8 c, .int .u8 d] T) := by
    show (w.heap.push (.cells #[.int .u8 a, .int .u8 b, .int .u8 c, .int .u8 d] T))[w.heap.size]? = _
    simp
  have h := run_convert_bytes_arg (P := Try.prog) (w.alloc (.cells #[.int .u8 a, .int .u8 b, .int .u8 c, .int .u8 d] T)) 34 5 Try.underlying34 Try.underlying5 w.heap.size 0 4 4 [a, b, c, d] rfl (fun i hi => by
    simp only [World.cell?, hh]
    match i, hi with
    | 0, _ => rfl
    | 1, _ => rfl
    | 2, _ => rfl
    | 3, _ => rfl) 9 Try.underlying9
  exact h
def bytesB (n : Nat) : ByteArray := ba (bytesS n)
theorem bytesB_size (n : Nat) : (bytesB n).size = 4 := rfl
theorem bytesB_bl (n : Nat) : bl (bytesB n) = bytesS n := rfl
theorem byt_mod (n : Nat) : byt (n % 256) = byt n := UInt8.toNat.inj (by rw [byt_toNat, byt_toNat]; omega)
theorem fourB_bytes (n : Nat) : fourB ((n : Int) % 256) ((n : Int) / 256 % 256) ((n : Int) / 65536 % 256) ((n : Int) / 16777216) = bytesB n := by
  have e0 : ((n : Int) % 256).toNat = n % 256 := by omega
  have e1 : ((n : Int) / 256 % 256).toNat = n / 256 % 256 := by omega
  have e2 : ((n : Int) / 65536 % 256).toNat = n / 65536 % 256 := by omega
  have e3 : ((n : Int) / 16777216).toNat = n / 16777216 := by omega
  unfold fourB
  rw [e0, e1, e2, e3]
  show (⟨#[byt (n % 256), byt (n / 256 % 256), byt (n / 65536 % 256), byt (n / 16777216)]⟩ : ByteArray) = _
  rw [byt_mod, byt_mod, byt_mod]
  rfl
theorem ret_four (n : Nat) : Ending.returned (.string (fourB ((n : Int) % 256) ((n : Int) / 256 % 256) ((n : Int) / 65536 % 256) ((n : Int) / 16777216))) = .returned (.string (bytesB n)) := by rw [fourB_bytes]

set_option maxHeartbeats 400000 in
theorem refBytes_any (n : Nat) (w : World) (hn : n < 4294967296) :
    Calls Try.prog 9 #[.int .u32 n] w fun e w' => e = .returned (.string (bytesB n)) ∧ Below w.heap.size w w' := by
  have hone := four_laid 5
  go_enter Try.func9, Try.ntmps9
  go_wp2
  go_ret
  exact ⟨ret_four n, (Below.refl _ _).alloc (Nat.le_refl _) _⟩

def BytesAt (n : Nat) (w : World) (i : Value) (wr : World) : Prop :=
  (i = .int .i64 0 ∧ wr = w.alloc (.cells #[.int .u8 0, .int .u8 0, .int .u8 0, .int .u8 0] 38)) ∨
  (i = .int .i64 1 ∧ wr = w.alloc (.cells #[.int .u8 ((n : Int) % 256), .int .u8 0, .int .u8 0, .int .u8 0] 38)) ∨
  (i = .int .i64 2 ∧ wr = w.alloc (.cells #[.int .u8 ((n : Int) % 256), .int .u8 ((n : Int) / 256 % 256), .int .u8 0, .int .u8 0] 38)) ∨
  (i = .int .i64 3 ∧ wr = w.alloc (.cells #[.int .u8 ((n : Int) % 256), .int .u8 ((n : Int) / 256 % 256), .int .u8 ((n : Int) / 65536 % 256), .int .u8 0] 38)) ∨
  (i = .int .i64 4 ∧ wr = w.alloc (.cells #[.int .u8 ((n : Int) % 256), .int .u8 ((n : Int) / 256 % 256), .int .u8 ((n : Int) / 65536 % 256), .int .u8 ((n : Int) / 16777216)] 38))

set_option maxHeartbeats 400000 in
theorem bytes_any (n : Nat) (w : World) (hn : n < 4294967296) :
    Calls Try.prog 13 #[.int .u32 n] w fun e w' => e = .returned (.string (bytesB n)) ∧ Below w.heap.size w w' := by
  have hone := four_laid 38
  go_enter Try.func13, Try.ntmps13
  go_wp2
  go_loopw [4, 5] (fun _ i wr => BytesAt n w i wr) (fun _ i _ => 4 - (intOf i).toNat)
  case atStart => exact .inl ⟨rfl, rfl⟩
  case round =>
    rcases hrel with ⟨rfl, rfl⟩ | ⟨rfl, rfl⟩ | ⟨rfl, rfl⟩ | ⟨rfl, rfl⟩ | ⟨rfl, rfl⟩
    · go_wp2
      go_roundw
      case rel => exact .inr (.inl ⟨rfl, rfl⟩)
      case measure => simp [intOf]
    · go_wp2
      go_roundw
      case rel => exact .inr (.inr (.inl ⟨rfl, rfl⟩))
      case measure => simp [intOf]
    · go_wp2
      go_roundw
      case rel => exact .inr (.inr (.inr (.inl ⟨rfl, rfl⟩)))
      case measure => simp [intOf]
    · go_wp2
      go_roundw
      case rel => exact .inr (.inr (.inr (.inr ⟨rfl, rfl⟩)))
      case measure => simp [intOf]
    · go_wp2
      go_ret
      exact ⟨ret_four n, (Below.refl _ _).alloc (Nat.le_refl _) _⟩
end Go.Proofs.Ytldadkpdmkghoaa
