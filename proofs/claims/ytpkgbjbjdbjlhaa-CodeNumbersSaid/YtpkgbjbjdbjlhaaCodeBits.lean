/-
  The document's bit, sign and value.
-/
import Derived.Test.YtpkgbjbjdbjlhaaCodeBuild
import Derived.Lib.Strings
import Derived.Lib.IndexBytes
import Derived.WalkSmall
import Derived.ShutString
import Derived.RegionTactic
import Derived.Deep.QuietTactic
import Derived.BigQuiet
import Derived.Laws.BitsAllLaws
import Derived.Laws.BytesArg
import Derived.Outline
namespace Go.Proofs.Ytpkgbjbjdbjlhaa.Code
open Go.RowKit

theorem ret_int {k : IntKind} {a b : Int} (h : a = b) : Ending.returned (.int k a) = .returned (.int k b) := by rw [h]
theorem int_eq {k : IntKind} {a b : Int} (h : a = b) : Value.int k a = .int k b := by rw [h]
abbrev bl (s : ByteArray) : List UInt8 := s.data.toList
abbrev ba (l : List UInt8) : ByteArray := ⟨l.toArray⟩
theorem bl_len (s : ByteArray) : (bl s).length = s.size := by show s.data.toList.length = _; rw [← Lib.size_eq]
theorem ba_size (l : List UInt8) : (ba l).size = l.length := by simp [ByteArray.size]
theorem bl_ba (l : List UInt8) : bl (ba l) = l := by simp
theorem ba_bl (s : ByteArray) : ba (bl s) = s := by simp
theorem ba_append (l m : List UInt8) : ba l ++ ba m = ba (l ++ m) := by
  apply ByteArray.ext
  rw [ByteArray.data_append]
  simp
theorem toList_bl (a : ByteArray) : a.toList = bl a := Lib.toList_data a
theorem byteAt_str (a : ByteArray) (k : Nat) (h : k < a.size) : byteAt (bl a) k = a[k].toNat := by
  unfold byteAt
  rw [List.getD_eq_getElem?_getD, List.getElem?_eq_getElem (by simpa using h)]
  rfl

theorem strL_at (l : List UInt8) (i q r : Nat) (hq : i / 8 = q) (hr : i % 8 = r) : byteAt l q / 2 ^ (7 - r) % 2 = strL l i := by
  unfold strL strm
  rw [hq, hr]
def BitAt (l : List UInt8) (q r : Nat) (c k : Value) : Prop := ∃ j : Nat, j ≤ 7 ∧ r ≤ j ∧ k = .int .i64 j ∧ c = .int .i64 ((byteAt l q / 2 ^ (j - r) : Nat) : Int)
set_option maxHeartbeats 400000 in
theorem bit_any (s : ByteArray) (i : Nat) (w : World) (hi : i ≤ 100000) (hs : s.size ≤ 100000) :
    Calls Try.prog 22 #[.string s, .int .i64 i] w fun e w' => e = .returned (.int .i64 (strL (bl s) i)) ∧ w = w' := by
  obtain ⟨q, hq⟩ : ∃ q, i / 8 = q := ⟨_, rfl⟩
  obtain ⟨r, hr⟩ : ∃ r, i % 8 = r := ⟨_, rfl⟩
  have iq : (i : Int) / 8 = (q : Int) := by omega
  have ir : (i : Int) % 8 = (r : Int) := by omega
  by_cases h : q < s.size
  · have hb : Hid (byteAt (bl s) q = s[q].toNat) := byteAt_str s q h
    have HS := Lib.hid (strL_at (bl s) i q r hq hr)
    have hr7 : r ≤ 7 := by omega
    have h8 : s[q].toNat < 256 := s[q].toNat_lt
    have IR := Lib.hid ir
    clear hq hr ir
    go_enter Try.func22, Try.ntmps22
    go_wp2
    have HI : Hid (BitAt (bl s) q r (.int .i64 (s[q].toNat : Int)) (.int .i64 ((i : Int) % 8))) := ⟨r, hr7, Nat.le_refl _, int_eq IR.out, by rw [Nat.sub_self, Nat.pow_zero, Nat.div_one, hb.out]⟩
    go_loop [5, 6] (fun c k => BitAt (bl s) q r c k) (fun _ k => 7 - (intOf k).toNat)
    case atStart => exact HI.out
    case round =>
      clear HI
      obtain ⟨j, hj, hrj, rfl, rfl⟩ := hrel
      have hlt : byteAt (bl s) q / 2 ^ (j - r) < 256 := Nat.lt_of_le_of_lt (Nat.div_le_self _ _) (byteAt_lt _ _)
      by_cases hj7 : j < 7
      · have HN : Hid (byteAt (bl s) q / 2 ^ (j + 1 - r) = byteAt (bl s) q / 2 ^ (j - r) / 2) := by
          show _ = _
          rw [show j + 1 - r = (j - r) + 1 by omega, Nat.pow_succ, Nat.div_div_eq_div_mul]
        generalize byteAt (bl s) q / 2 ^ (j - r) = x at hlt HN ⊢
        go_wp2
        go_round
        case rel => exact ⟨j + 1, by omega, by omega, by go_num, by rw [HN.out]; go_num⟩
        case measure => simp [intOf]; omega
      · obtain rfl : j = 7 := by omega
        generalize byteAt (bl s) q / 2 ^ (7 - r) = x at hlt HS ⊢
        go_wp2
        go_ret
        exact ⟨ret_int (by rw [← HS.out]; omega), rfl⟩
  · have HS : Hid (strL (bl s) i = 0) := strL_out _ _ (by rw [bl_len]; omega)
    clear hq hr
    go_enter Try.func22, Try.ntmps22
    go_wp2
    go_ret
    exact ⟨ret_int (by rw [HS.out]; rfl), rfl⟩

theorem dig_low : ∀ n, n < 26 → (digOf d32 n).toNat = 97 + n := by decide +kernel
theorem dig_high : ∀ n, n < 32 → 26 ≤ n → (digOf d32 n).toNat = 24 + n := by decide +kernel
set_option maxHeartbeats 400000 in
theorem sign_any (n : Nat) (w : World) (hn : n < 32) :
    Calls Try.prog 23 #[.int .i64 n] w fun e w' => e = .returned (.int .u8 (digOf d32 n).toNat) ∧ w = w' := by
  by_cases h : n < 26
  · have HD := Lib.hid (dig_low n h)
    go_enter Try.func23, Try.ntmps23
    go_wp2
    go_ret
    exact ⟨ret_int (by rw [HD.out]; omega), rfl⟩
  · have HD := Lib.hid (dig_high n hn (by omega))
    go_enter Try.func23, Try.ntmps23
    go_wp2
    go_ret
    exact ⟨ret_int (by rw [HD.out]; omega), rfl⟩
end Go.Proofs.Ytpkgbjbjdbjlhaa.Code
