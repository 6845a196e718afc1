/-
  Walks: the document's bit, letter, value; the numbers of letters.
-/
import Derived.Test.YtlkfkgkolaaomaaDoorB64Plain
import Derived.Test.YtlkfkgkolaaomaaDoorLexBase
import Derived.IntWalk
import Derived.Outline
namespace Go.Proofs.YtlkfkgkolaaomaaDoor.B64
open Go Go.RowKit
open Go.Proofs.YtlkfkgkolaaomaaDoor.Code
open Go.Proofs.YtlkfkgkolaaomaaDoor.Lex (bl ba bl_len ba_size bl_ba ba_bl bl_extract bl_from drop_cons drop_end index_any)

theorem ret_int {k : IntKind} {a b : Int} (h : a = b) : Ending.returned (.int k a) = .returned (.int k b) := by rw [h]
theorem ret_str {a b : ByteArray} (h : a = b) : Ending.returned (.string a) = .returned (.string b) := by rw [h]
theorem int_eq {k : IntKind} {a b : Int} (h : a = b) : Value.int k a = .int k b := by rw [h]
theorem bl_app (a b : ByteArray) : bl (a ++ b) = bl a ++ bl b := by simp
theorem ba_app (l m : List UInt8) : ba l ++ ba m = ba (l ++ m) := by
  apply ByteArray.ext
  rw [ByteArray.data_append]
  simp
theorem bl_inj {a b : ByteArray} (h : bl a = bl b) : a = b := by rw [← ba_bl a, h, ba_bl]
theorem toList_bl (a : ByteArray) : a.toList = bl a := Lib.toList_data a
theorem byteAt_str (a : ByteArray) (k : Nat) (h : k < a.size) : byteAt (bl a) k = a[k].toNat := by
  unfold byteAt
  rw [List.getD_eq_getElem?_getD, List.getElem?_eq_getElem (by simpa using h)]
  rfl

/-! A bit. -/
theorem strL_at (l : List UInt8) (i q r : Nat) (hq : i / 8 = q) (hr : i % 8 = r) : byteAt l q / 2 ^ (7 - r) % 2 = strL l i := by
  unfold strL strm
  rw [hq, hr]
def BitAt (l : List UInt8) (q r : Nat) (c k : Value) : Prop := ∃ j : Nat, j ≤ 7 ∧ r ≤ j ∧ k = .int .i64 j ∧ c = .int .i64 ((byteAt l q / 2 ^ (j - r) : Nat) : Int)
set_option maxRecDepth 100000 in
set_option maxHeartbeats 400000 in
theorem bit_any (s : ByteArray) (i : Nat) (w : World) (hi : i ≤ 100000) (hs : s.size ≤ 100000) :
    Calls Tryd.prog 21 #[.string s, .int .i64 i] w fun e w' => e = .returned (.int .i64 (strL (bl s) i)) ∧ w = w' := by
  obtain ⟨q, hq⟩ : ∃ q, i / 8 = q := ⟨_, rfl⟩
  obtain ⟨r, hr⟩ : ∃ r, i % 8 = r := ⟨_, rfl⟩
  have iq : (i : Int) / 8 = (q : Int) := by omega
  have ir : (i : Int) % 8 = (r : Int) := by omega
  by_cases h : q < s.size
  · have hb : Hid (byteAt (bl s) q = s[q].toNat) := Lib.hid (byteAt_str s q h)
    have HS := Lib.hid (strL_at (bl s) i q r hq hr)
    have hr7 : r ≤ 7 := by omega
    have h8 : s[q].toNat < 256 := s[q].toNat_lt
    have IR := Lib.hid ir
    clear hq hr ir
    go_enter Tryd.func21, Tryd.ntmps21
    go_wp2
    have HI : Hid (BitAt (bl s) q r (.int .i64 (s[q].toNat : Int)) (.int .i64 ((i : Int) % 8))) := Lib.hid ⟨r, hr7, Nat.le_refl _, int_eq IR.out, by rw [Nat.sub_self, Nat.pow_zero, Nat.div_one, hb.out]⟩
    go_loop [5, 6] (fun c k => BitAt (bl s) q r c k) (fun _ k => 7 - (intOf k).toNat)
    case atStart => exact HI.out
    case round =>
      clear HI
      obtain ⟨j, hj, hrj, rfl, rfl⟩ := hrel
      have hlt : byteAt (bl s) q / 2 ^ (j - r) < 256 := Nat.lt_of_le_of_lt (Nat.div_le_self _ _) (byteAt_lt _ _)
      by_cases hj7 : j < 7
      · have HN : Hid (byteAt (bl s) q / 2 ^ (j + 1 - r) = byteAt (bl s) q / 2 ^ (j - r) / 2) := Lib.hid (by
          rw [show j + 1 - r = (j - r) + 1 by omega, Nat.pow_succ, Nat.div_div_eq_div_mul])
        generalize byteAt (bl s) q / 2 ^ (j - r) = x at hlt HN ⊢
        go_wp2
        go_round
        case rel => exact ⟨j + 1, by omega, by omega, by go_num, by rw [HN.out]; go_num⟩
        case measure => simp [intOf]; omega
      · obtain rfl : j = 7 := by omega
        generalize byteAt (bl s) q / 2 ^ (7 - r) = x at hlt HS ⊢
        go_wp2
        go_ret
        exact ⟨ret_int (by rw [← HS.out]; omega), rfl⟩
  · have HS : Hid (strL (bl s) i = 0) := Lib.hid (strL_out _ _ (by rw [bl_len]; omega))
    clear hq hr
    go_enter Tryd.func21, Tryd.ntmps21
    go_wp2
    go_ret
    exact ⟨ret_int (by rw [HS.out]; rfl), rfl⟩
theorem bit_at (s : ByteArray) (a k : Nat) (w : World) (ha : a ≤ 50000) (hk : k ≤ 10) (hs : s.size ≤ 100000) :
    Calls Tryd.prog 21 #[.string s, .int .i64 ((a : Int) + (k : Int))] w fun e w' => e = .returned (.int .i64 (strL (bl s) (a + k))) ∧ w = w' := bit_any s (a + k) w (by omega) hs

/-! A letter. -/
def lt64 (n : Nat) : Nat := if n < 26 then 65 + n else if n < 52 then 71 + n else if n < 62 then n - 4 else if n = 62 then 43 else 47
theorem dig_nat : ∀ n, n < 64 → (digOf d64 n).toNat = lt64 n := by decide +kernel
set_option maxRecDepth 100000 in
set_option maxHeartbeats 400000 in
theorem letter_any (n : Nat) (w : World) (hn : n < 64) :
    Calls Tryd.prog 22 #[.int .i64 n] w fun e w' => e = .returned (.int .u8 (digOf d64 n).toNat) ∧ w = w' := by
  have HD := Lib.hid (dig_nat n hn)
  unfold lt64 at HD
  by_cases h1 : n < 26
  · rw [if_pos h1] at HD
    go_enter Tryd.func22, Tryd.ntmps22
    go_wp2
    go_ret
    exact ⟨ret_int (by rw [HD.out]; omega), rfl⟩
  · rw [if_neg h1] at HD
    by_cases h2 : n < 52
    · rw [if_pos h2] at HD
      go_enter Tryd.func22, Tryd.ntmps22
      go_wp2
      go_ret
      exact ⟨ret_int (by rw [HD.out]; omega), rfl⟩
    · rw [if_neg h2] at HD
      by_cases h3 : n < 62
      · rw [if_pos h3] at HD
        go_enter Tryd.func22, Tryd.ntmps22
        go_wp2
        go_ret
        exact ⟨ret_int (by rw [HD.out]; omega), rfl⟩
      · rw [if_neg h3] at HD
        by_cases h4 : n = 62
        · rw [if_pos h4] at HD
          subst h4
          go_enter Tryd.func22, Tryd.ntmps22
          go_wp2
          go_ret
          exact ⟨ret_int (by rw [HD.out]; rfl), rfl⟩
        · rw [if_neg h4] at HD
          obtain rfl : n = 63 := by omega
          go_enter Tryd.func22, Tryd.ntmps22
          go_wp2
          go_ret
          exact ⟨ret_int (by rw [HD.out]; rfl), rfl⟩
theorem letter_at (n : Nat) (w : World) (hn : n < 64) (c : UInt8) (hc : digOf d64 n = c) :
    Calls Tryd.prog 22 #[.int .i64 n] w fun e w' => e = .returned (.int .u8 c.toNat) ∧ w = w' := by subst hc; exact letter_any n w hn

/-! The number of a letter. -/
/-- The number of a sign, or -1. -/
def valI (D : List UInt8) (c : UInt8) : Int := if D.contains c then (D.idxOf c : Int) else -1
theorem index_val (D : List UInt8) (c : UInt8) : Lib.indexByte D c = valI D c := by
  unfold valI
  induction D with
  | nil => rfl
  | cons b l ih =>
    unfold Lib.indexByte
    by_cases h : b = c
    · subst h; simp
    · have h1 : (b == c) = false := by simpa using h
      have h2 : ¬ c = b := fun e => h e.symm
      rw [ih, h1, List.idxOf_cons]
      simp only [List.contains_cons, h1]
      have h3 : (c == b) = false := by simpa using h2
      rw [h3]
      by_cases hc : l.contains c = true
      · have e : ((List.idxOf c l : Int) == -1) = false := beq_eq_false_iff_ne.2 (by omega)
        have hm : c ∈ l := by simpa using hc
        simp [hm, e]
      · have hm : ¬ c ∈ l := by simpa using hc
        simp [hm]
theorem val_in {D : List UInt8} {c : UInt8} (h : D.contains c = true) : valI D c = (D.idxOf c : Nat) := by
  unfold valI; rw [if_pos h]
theorem val_out {D : List UInt8} {c : UInt8} (h : D.contains c = false) : valI D c = -1 := by
  unfold valI; rw [h]; rfl
theorem val_hit (c : UInt8) (k : Nat) (hk : k < 64) (h : digOf d64 k = c) : valI d64 c = k := by
  have e := d64_idx k hk
  have hm := dig_in k hk
  rw [h] at e hm
  rw [val_in hm, e]
theorem val_next (c : UInt8) (k : Nat) (hk : k < 64) (h : digOf d64 k ≠ c) (hr : k ≤ d64.idxOf c) : k + 1 ≤ d64.idxOf c := by
  rcases Nat.lt_or_ge k (d64.idxOf c) with h1 | h1
  · exact h1
  · have e : d64.idxOf c = k := by omega
    exfalso
    apply h
    rw [← e]
    apply dig_idx
    have : c ∈ d64 := List.idxOf_lt_length_iff.1 (by rw [e, d64_len]; exact hk)
    simpa using this
theorem val_miss (c : UInt8) (h : 64 ≤ d64.idxOf c) : valI d64 c = -1 := by
  refine val_out ?_
  rw [Bool.eq_false_iff]
  intro hm
  have := idx64 hm
  omega
theorem u8_ne {a b : UInt8} (h : a ≠ b) : ((a.toNat : Int) == (b.toNat : Int)) = false := by
  rw [beq_eq_false_iff_ne]
  intro e
  exact h (UInt8.toNat.inj (by omega))
theorem u8_eq {a b : UInt8} (h : a = b) : ((a.toNat : Int) == (b.toNat : Int)) = true := by subst h; simp
theorem u8_back (c : UInt8) : ((c.toNat : Int).toNat).toUInt8 = c := by simp
def ValAt (m : Nat) (c : UInt8) (n : Value) : Prop := ∃ k : Nat, k ≤ m ∧ k ≤ d64.idxOf c ∧ n = .int .i64 k
set_option maxRecDepth 100000 in
set_option maxHeartbeats 400000 in
theorem value_any (c : UInt8) (w : World) :
    Calls Tryd.prog 18 #[.int .u8 c.toNat] w fun e w' => e = .returned (.int .i64 (valI d64 c)) ∧ w = w' := by
  have h8 : c.toNat < 256 := c.toNat_lt
  go_enter Tryd.func18, Tryd.ntmps18
  go_wp2
  go_loop [3] (fun n => ValAt 64 c n) (fun n => 64 - (intOf n).toNat)
  case atStart => exact ⟨0, by omega, by omega, rfl⟩
  case round =>
    obtain ⟨k, hk, hki, rfl⟩ := hrel
    have HK := Lib.hid hki
    clear hki
    by_cases hlt : k < 64
    · by_cases hc : digOf d64 k = c
      · have HV := Lib.hid (val_hit c k hlt hc)
        have hb := u8_eq hc
        go_wp2_with fail
        refine (letter_any k _ hlt).mono ?_
        rintro e w' ⟨rfl, rfl⟩
        go_wp2
        go_ret
        exact ⟨ret_int HV.out.symm, rfl⟩
      · have HV := Lib.hid (val_next c k hlt hc HK.out)
        have hb := u8_ne hc
        go_wp2_with fail
        refine (letter_any k _ hlt).mono ?_
        rintro e w' ⟨rfl, rfl⟩
        go_wp2
        go_round
        case rel => exact ⟨k + 1, by omega, HV.out, by go_num⟩
        case measure => simp [intOf]; omega
    · obtain rfl : k = 64 := by omega
      have HV := Lib.hid (val_miss c HK.out)
      go_wp2
      go_ret
      exact ⟨ret_int HV.out.symm, rfl⟩
end Go.Proofs.YtlkfkgkolaaomaaDoor.B64
