/-
  The program's encoder.
-/
import Derived.Test.YtpkgbjbjdbjlhaaCodeValue
import Derived.IntWalk
namespace Go.Proofs.Ytpkgbjbjdbjlhaa.Code
open Go.RowKit

theorem i64_or_nat (a b : Nat) (ha : a < 4611686018427387904) (hb : b < 4611686018427387904) : bits .or .i64 (a : Int) (b : Int) = ((a ||| b : Nat) : Int) := by
  have hx : a ||| b < 2 ^ 62 := Nat.or_lt_two_pow (by omega) (by omega)
  show IntKind.i64.wrap ((BitVec.ofInt 64 (a : Int) ||| BitVec.ofInt 64 (b : Int)).toNat : Int) = _
  rw [BitVec.toNat_or, ofInt_u64 a (by omega), ofInt_u64 b (by omega), IntWalk.i64_in _ (by omega)]
theorem i64_and_nat (a b : Nat) (ha : a < 4611686018427387904) (hb : b < 4611686018427387904) : bits .and .i64 (a : Int) (b : Int) = ((a &&& b : Nat) : Int) := by
  have hx : a &&& b < 2 ^ 62 := Nat.and_lt_two_pow _ (by omega)
  show IntKind.i64.wrap ((BitVec.ofInt 64 (a : Int) &&& BitVec.ofInt 64 (b : Int)).toNat : Int) = _
  rw [BitVec.toNat_and, ofInt_u64 a (by omega), ofInt_u64 b (by omega), IntWalk.i64_in _ (by omega)]
/- x·2^k and less than 2^k, joined. -/
theorem join_nat (x c k : Nat) (hk : k ≤ 8) (hx : x < 4096) (hc : c < 2 ^ k) : bits .or .i64 ((x : Int) * 2 ^ k) (c : Int) = ((x * 2 ^ k + c : Nat) : Int) := by
  have h1 : 2 ^ k ≤ 2 ^ 8 := Nat.pow_le_pow_right (by decide) hk
  have h2 : x * 2 ^ k ≤ 4096 * 2 ^ 8 := Nat.mul_le_mul (by omega) h1
  have e : (x : Int) * 2 ^ k = ((x * 2 ^ k : Nat) : Int) := by simp
  rw [e, i64_or_nat _ _ (by omega) (by omega), Nat.mul_comm, ← Nat.two_pow_add_eq_or_of_lt hc]
theorem mask_nat (x k : Nat) (hk : k ≤ 16) (hx : x < 1048576) : bits .and .i64 (x : Int) ((2 : Int) ^ k - 1) = ((x % 2 ^ k : Nat) : Int) := by
  have h1 : 2 ^ k ≤ 2 ^ 16 := Nat.pow_le_pow_right (by decide) hk
  have h0 := Nat.two_pow_pos k
  have e : (2 : Int) ^ k - 1 = ((2 ^ k - 1 : Nat) : Int) := by
    rw [Int.ofNat_sub (by omega)]; simp
  rw [e, i64_and_nat _ _ (by omega) (by omega), Nat.and_two_pow_sub_one_eq_mod]

theorem pow_at (m : Nat) (h : m < 8) : ∃ M : Nat, (2 : Int) ^ m = (M : Int) ∧ 2 ^ m = M ∧ 1 ≤ M ∧ M ≤ 128 := by
  have h1 : 2 ^ m ≤ 2 ^ 7 := Nat.pow_le_pow_right (by decide) (by omega)
  exact ⟨2 ^ m, by simp, rfl, Nat.two_pow_pos m, h1⟩
theorem wrap_two (M : Nat) (h1 : 1 ≤ M) (h2 : M ≤ 128) : wrap64 (wrap64 (M : Int) - 1) = (M : Int) - 1 := by
  unfold wrap64
  omega
/-- The first so many signs of bytes. -/
def encP (w : Nat) (D l : List UInt8) (e : Nat) : List UInt8 := (List.range e).map fun j => digOf D (sg (strL l) (w * j) w)
theorem encP_len (w : Nat) (D l : List UInt8) (e : Nat) : (encP w D l e).length = e := by simp [encP]
theorem encP_next (w : Nat) (D l : List UInt8) (e p : Nat) (hp : p = w * e) : Lib.byteCells (encP w D l (e + 1)) = Lib.byteCells (encP w D l e) ++ [.int .u8 (digOf D (sg (strL l) p w)).toNat] := by
  subst hp
  unfold encP Lib.byteCells
  rw [List.range_succ]
  simp
theorem byteCells_len (l : List UInt8) : (Lib.byteCells l).length = l.length := Lib.byteCells_length l
theorem dig_at (S : ByteArray) (k : Nat) (h : k < S.size) (W : World) : (Instr.index 9 (.string S) (.int .i64 k)).run Try.prog W = .ok (.int .u8 (digOf (bl S) k).toNat) W := by
  rw [run_index_string W 9 S .i64 k Try.underlying9, dif_pos ⟨by omega, by omega⟩]
  have e : digOf (bl S) k = S[k] := by
    unfold digOf
    rw [List.getD_eq_getElem?_getD, List.getElem?_eq_getElem (by rw [bl_len]; exact h)]
    rfl
  rw [e]
  rfl
/-- The encoder's state: e signs are out, h bits are left. -/
def EncAt (wd : Nat) (D l : List UInt8) (n H : Nat) (w : World) (b h : Value) (wr : World) : Prop :=
  ∃ e p k : Nat, p = wd * e ∧ p + k = 8 * n ∧ k < H ∧ b = .int .i64 (sg (strL l) p k : Nat) ∧ h = .int .i64 k ∧
    Lib.IsBuilder 47 5 w.heap.size w.heap.size (Lib.byteCells (encP wd D l e)) wr ∧ Below w.heap.size w wr
def EncOut (wd : Nat) (D : List UInt8) (s : ByteArray) (w : World) (b h i : Value) (wr : World) : Prop :=
  ∃ n : Nat, n ≤ s.size ∧ i = .int .i64 n ∧ EncAt wd D (bl s) n wd w b h wr
theorem fresh (w : World) : Lib.IsBuilder 47 5 w.heap.size w.heap.size [] (w.alloc (.cells #[.pointer none, .slice none 0 0] 47)) := Lib.fresh_isBuilder _ _ w

set_option maxRecDepth 100000 in
set_option maxHeartbeats 1000000 in
theorem encode_any (wd : Nat) (s S : ByteArray) (w : World) (T : Tab wd (bl S)) (hs : s.size ≤ 100000) :
    Calls Try.prog 21 #[.string s, .string S, .int .i64 wd] w fun e w' => e = .returned (.string (ba (enc wd (bl S) (bl s)))) ∧ Below w.heap.size w w' := by
  have hw4 : 4 ≤ wd := by rcases T.wid with rfl | rfl <;> decide
  have hw5 : wd ≤ 5 := by rcases T.wid with rfl | rfl <;> decide
  have HI : Hid (EncOut wd (bl S) s w (.int .i64 0) (.int .i64 0) (.int .i64 0) (w.alloc (.cells #[.pointer none, .slice none 0 0] 47))) :=
    ⟨0, Nat.zero_le _, rfl, 0, 0, 0, rfl, rfl, by omega, rfl, rfl, fresh w, (Below.refl _ _).alloc (Nat.le_refl _) _⟩
  go_enter Try.func21, Try.ntmps21
  go_wp2
  go_loopw [8, 9, 10, 13] (fun b h _ i wr => EncOut wd (bl S) s w b h i wr) (fun _ _ _ i _ => s.size - (intOf i).toNat)
  case atStart => exact HI.out
  case round =>
    clear HI
    obtain ⟨n, hn, rfl, e, p, k, hp, hpk, hk, rfl, rfl, hB, hb⟩ := hrel
    have HP := Lib.hid hp
    clear hp
    have HE := Lib.hid (And.intro hB hb)
    clear hB hb
    have hx := sg_lt (strL (bl s)) (strL_bit _) p k
    have hx2 : sg (strL (bl s)) p k < 32 := Nat.lt_of_lt_of_le hx (Nat.pow_le_pow_right (by decide) (by omega : k ≤ 5))
    clear hx
    by_cases hlt : n < s.size
    · have h8 : s[n].toNat < 256 := s[n].toNat_lt
      have HX : Hid (bits .or .i64 ((sg (strL (bl s)) p k : Nat) * 256 : Int) (s[n].toNat : Int) = (sg (strL (bl s)) p (k + 8) : Nat)) := by
        show _ = _
        have h3 := join_nat (sg (strL (bl s)) p k) s[n].toNat 8 (by decide) (by omega) h8
        rw [sg_add, hpk, strL_byte, byteAt_str s n hlt]
        exact h3
      have HA : Hid (EncAt wd (bl S) (bl s) (n + 1) (wd + 8) w (.int .i64 (sg (strL (bl s)) p (k + 8) : Nat)) (.int .i64 ((k : Int) + 8)) wr) :=
        ⟨e, p, k + 8, HP.out, by omega, by omega, rfl, by go_num, HE.out⟩
      rw [← HX.out] at HA
      have HPK := Lib.hid hpk
      clear HX hpk HE HP
      generalize sg (strL (bl s)) p k = x at hx2 HA ⊢
      go_wp2
      go_loopw [8, 9] (fun b h wr => EncAt wd (bl S) (bl s) (n + 1) (wd + 8) w b h wr) (fun _ h _ => (intOf h).toNat)
      case atStart => exact HA.out
      case round =>
        clear HA HPK
        obtain ⟨e, p, k, hp, hpk, hk, rfl, rfl, hB, hb⟩ := hrel
        have HP := Lib.hid hp
        clear hp
        have HPK := Lib.hid hpk
        clear hpk
        have hx := sg_lt (strL (bl s)) (strL_bit _) p k
        have hx2 : sg (strL (bl s)) p k < 4096 := Nat.lt_of_lt_of_le hx (Nat.pow_le_pow_right (by decide) (by omega : k ≤ 12))
        clear hx
        by_cases hkw : wd ≤ k
        · obtain ⟨m, rfl⟩ : ∃ m, k = wd + m := ⟨k - wd, by omega⟩
          have hm : m < 8 := by omega
          obtain ⟨M, hM, hM2, q1, q2⟩ := pow_at m hm
          have hd : (sg (strL (bl s)) p (wd + m) : Int) / 2 ^ m = (sg (strL (bl s)) p wd : Nat) := by
            rw [← sg_div (strL (bl s)) (strL_bit _) p wd m]; simp
          have HM : Hid (bits .and .i64 (sg (strL (bl s)) p (wd + m) : Nat) ((2 : Int) ^ m - 1) = (sg (strL (bl s)) (p + wd) m : Nat)) := by
            show _ = _
            rw [mask_nat _ _ (by omega) (by omega), sg_mod _ (strL_bit _)]
          have HM : Hid (bits .and .i64 (sg (strL (bl s)) p (wd + m) : Nat) ((M : Int) - 1) = (sg (strL (bl s)) (p + wd) m : Nat)) := by
            show _ = _
            rw [← hM]; exact HM.out
          rw [hM] at hd
          clear hM2
          have hlt2 := sg_lt (strL (bl s)) (strL_bit _) p wd
          rw [← T.len, bl_len] at hlt2
          have hdig := dig_at S (sg (strL (bl s)) p wd) hlt2
          have hl : (Lib.byteCells (encP wd (bl S) (bl s) e)).length + 1 ≤ 140737488355328 := by
            rw [byteCells_len, encP_len]
            have h1 : e ≤ wd * e := Nat.le_mul_of_pos_left e (by omega)
            have h2 := HP.out
            have h3 := HPK.out
            omega
          go_wp2_with fail
          refine (bbyte_any _ _ _ (digOf (bl S) (sg (strL (bl s)) p wd)).toNat _ hB hl hb.size).mono ?_
          rintro e' w1 ⟨rfl, hB1, hb1⟩
          have HB := Lib.hid (And.intro hB1 (hb.trans hb1))
          clear hB hb hB1 hb1 hl
          go_wp2
          go_roundw
          case rel => exact ⟨e + 1, p + wd, m, by rw [HP.out, Nat.mul_succ], by have := HPK.out; omega, by omega, int_eq (by rw [wrap_two M q1 q2]; exact HM.out), int_eq (by omega), by rw [encP_next wd _ _ e p HP.out]; exact .inr HB.out.1, HB.out.2⟩
          case measure => simp [intOf]; omega
        · have HB := Lib.hid (And.intro hB hb)
          clear hB hb
          go_wp2
          go_roundw
          case rel => exact ⟨n + 1, by omega, by go_num, e, p, k, HP.out, HPK.out, by omega, rfl, rfl, HB.out⟩
          case measure => simp [intOf]; omega
    · obtain rfl : n = s.size := by omega
      by_cases hk0 : k = 0
      · subst hk0
        have HD : Hid (encP wd (bl S) (bl s) e = enc wd (bl S) (bl s)) := by
          show (List.range e).map _ = (List.range _).map _
          rw [show elen wd (bl s).length = e from ?_]
          rw [bl_len]
          have := HP.out
          unfold elen
          rcases T.wid with rfl | rfl <;> omega
        go_wp2_with fail
        refine (Try.Builder_String_any _ _ (enc wd (bl S) (bl s)) _ (by rw [← HD.out]; exact HE.out.1) HE.out.2.size).mono ?_
        rintro e' w1 ⟨rfl, hb1⟩
        have HB := Lib.hid (HE.out.2.trans hb1)
        clear hb1
        go_wp2
        go_ret
        exact ⟨rfl, HB.out⟩
      · obtain ⟨m, hm⟩ : ∃ m, wd = k + m := ⟨wd - k, by omega⟩
        have hm8 : m < 8 := by omega
        have him : (wd : Int) - (k : Int) = (m : Int) := by omega
        obtain ⟨M, hM, hM2, q1, q2⟩ := pow_at m hm8
        have hz : sg (strL (bl s)) p wd = sg (strL (bl s)) p k * 2 ^ m := by
          rw [hm, sg_add, sg_nil _ (p + k) _ (fun i h1 _ => strL_out _ _ (by rw [bl_len]; omega)), Nat.add_zero]
        have hxm : (sg (strL (bl s)) p k : Int) * 2 ^ m = (sg (strL (bl s)) p wd : Nat) := by rw [hz]; simp
        rw [hM] at hxm
        clear hM2
        have HD : Hid (Lib.byteCells (enc wd (bl S) (bl s)) = Lib.byteCells (encP wd (bl S) (bl s) e) ++ [.int .u8 (digOf (bl S) (sg (strL (bl s)) p wd)).toNat]) := by
          show _ = _
          rw [← encP_next wd _ _ e p HP.out]
          show Lib.byteCells ((List.range _).map _) = Lib.byteCells ((List.range _).map _)
          rw [show elen wd (bl s).length = e + 1 from ?_]
          rw [bl_len]
          have := HP.out
          unfold elen
          rcases T.wid with rfl | rfl <;> omega
        have hlt2 := sg_lt (strL (bl s)) (strL_bit _) p wd
        rw [← T.len, bl_len] at hlt2
        have hdig := dig_at S (sg (strL (bl s)) p wd) hlt2
        have hlt3 := sg_lt (strL (bl s)) (strL_bit _) p wd
        have hlt4 : sg (strL (bl s)) p wd < 32 := Nat.lt_of_lt_of_le hlt3 (Nat.pow_le_pow_right (by decide) hw5)
        have hl : (Lib.byteCells (encP wd (bl S) (bl s) e)).length + 1 ≤ 140737488355328 := by
          rw [byteCells_len, encP_len]
          have h1 : e ≤ wd * e := Nat.le_mul_of_pos_left e (by omega)
          have h2 := HP.out
          omega
        have HL := Lib.hid hl
        clear hz hlt3 hm hl
        go_wp2_with fail
        refine (bbyte_any _ _ _ (digOf (bl S) (sg (strL (bl s)) p wd)).toNat _ HE.out.1 HL.out HE.out.2.size).mono ?_
        rintro e' w1 ⟨rfl, hB1, hb1⟩
        rw [← HD.out] at hB1
        have HB := Lib.hid (And.intro hB1 (HE.out.2.trans hb1))
        clear hB1 hb1
        go_wp2_with fail
        refine (Try.Builder_String_any _ _ (enc wd (bl S) (bl s)) _ (.inr HB.out.1) HB.out.2.size).mono ?_
        rintro e' w2 ⟨rfl, hb2⟩
        have HC := Lib.hid (HB.out.2.trans hb2)
        clear hb2
        go_wp2
        go_ret
        exact ⟨rfl, HC.out⟩
end Go.Proofs.Ytpkgbjbjdbjlhaa.Code
