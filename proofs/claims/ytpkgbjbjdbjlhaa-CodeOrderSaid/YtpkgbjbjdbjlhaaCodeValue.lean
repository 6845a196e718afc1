/-
  What number a sign stands for: the document's.
-/
import Derived.Test.YtpkgbjbjdbjlhaaCodeBits
namespace Go.Proofs.Ytpkgbjbjdbjlhaa.Code
open Go.RowKit

/-- The number of a sign, or -1. -/
def valI (D : List UInt8) (c : UInt8) : Int := if D.contains c then (D.idxOf c : Int) else -1
theorem index_val (D : List UInt8) (c : UInt8) : Lib.indexByte D c = valI D c := by
  unfold valI
  induction D with
  | nil => rfl
  | cons b l ih =>
    unfold Lib.indexByte
    by_cases h : b = c
    · subst h; simp
    · have h1 : (b == c) = false := by simpa using h
      have h2 : ¬ c = b := fun e => h e.symm
      rw [ih, h1, List.idxOf_cons]
      simp only [List.contains_cons, h1]
      have h3 : (c == b) = false := by simpa using h2
      rw [h3]
      by_cases hc : l.contains c = true
      · have e : ((List.idxOf c l : Int) == -1) = false := beq_eq_false_iff_ne.2 (by omega)
        have hm : c ∈ l := by simpa using hc
        simp [hm, e]
      · have hm : ¬ c ∈ l := by simpa using hc
        simp [hm]
theorem val_hit {w : Nat} {D : List UInt8} (T : Tab w D) (c : UInt8) (k : Nat) (hk : k < 2 ^ w) (h : digOf D k = c) : valI D c = k := by
  have e := T.idx k hk
  rw [h] at e
  have hm : D.contains c = true := by
    rw [← h]
    unfold digOf
    rw [← T.len] at hk
    rw [List.getD_eq_getElem?_getD, List.getElem?_eq_getElem hk]
    simp
  unfold valI
  rw [hm, if_pos rfl, e]
theorem val_next {w : Nat} {D : List UInt8} (T : Tab w D) (c : UInt8) (k : Nat) (hk : k < 2 ^ w) (h : digOf D k ≠ c) (hr : k ≤ D.idxOf c) : k + 1 ≤ D.idxOf c := by
  rcases Nat.lt_or_ge k (D.idxOf c) with h1 | h1
  · exact h1
  · have e : D.idxOf c = k := by omega
    exfalso
    apply h
    rw [← e]
    apply dig_idx
    have : c ∈ D := List.idxOf_lt_length_iff.1 (by rw [e, T.len]; exact hk)
    simpa using this
theorem val_miss {w : Nat} {D : List UInt8} (T : Tab w D) (c : UInt8) (h : 2 ^ w ≤ D.idxOf c) : valI D c = -1 := by
  have : ¬ c ∈ D := fun hm => by
    have := List.idxOf_lt_length_of_mem hm
    rw [T.len] at this
    omega
  unfold valI
  rw [if_neg (by simpa using this)]
theorem u8_ne {a b : UInt8} (h : a ≠ b) : ((a.toNat : Int) == (b.toNat : Int)) = false := by
  rw [beq_eq_false_iff_ne]
  intro e
  exact h (UInt8.toNat.inj (by omega))
theorem u8_eq {a b : UInt8} (h : a = b) : ((a.toNat : Int) == (b.toNat : Int)) = true := by subst h; simp

def ValAt (D : List UInt8) (m : Nat) (c : UInt8) (n : Value) : Prop := ∃ k : Nat, k ≤ m ∧ k ≤ D.idxOf c ∧ n = .int .i64 k
set_option maxHeartbeats 400000 in
theorem value_32 (c : UInt8) (w : World) :
    Calls Try.prog 20 #[.int .u8 c.toNat, .int .i64 32] w fun e w' => e = .returned (.int .i64 (valI d32 c)) ∧ w = w' := by
  have h8 : c.toNat < 256 := c.toNat_lt
  go_enter Try.func20, Try.ntmps20
  go_wp2
  go_loop [5] (fun n => ValAt d32 32 c n) (fun n => 32 - (intOf n).toNat)
  case atStart => exact ⟨0, by omega, by omega, rfl⟩
  case round =>
    obtain ⟨k, hk, hki, rfl⟩ := hrel
    have HK := Lib.hid hki
    clear hki
    by_cases hlt : k < 32
    · by_cases hc : digOf d32 k = c
      · have HV := Lib.hid (val_hit tab32 c k hlt hc)
        have hb := u8_eq hc
        go_wp2_with fail
        refine (sign_any k _ hlt).mono ?_
        rintro e w' ⟨rfl, rfl⟩
        go_wp2
        go_ret
        exact ⟨ret_int HV.out.symm, rfl⟩
      · have HV := Lib.hid (val_next tab32 c k hlt hc HK.out)
        have hb := u8_ne hc
        go_wp2_with fail
        refine (sign_any k _ hlt).mono ?_
        rintro e w' ⟨rfl, rfl⟩
        go_wp2
        go_round
        case rel => exact ⟨k + 1, by omega, HV.out, by go_num⟩
        case measure => simp [intOf]; omega
    · obtain rfl : k = 32 := by omega
      have HV := Lib.hid (val_miss tab32 c HK.out)
      go_wp2
      go_ret
      exact ⟨ret_int HV.out.symm, rfl⟩
def sixteen : ByteArray := ⟨#[48, 49, 50, 51, 52, 53, 54, 55, 56, 57, 97, 98, 99, 100, 101, 102]⟩
theorem six_at (k : Nat) (h : k < 16) (W : World) : (Instr.index 9 (.string sixteen) (.int .i64 k)).run Try.prog W = .ok (.int .u8 (digOf d16 k).toNat) W := by
  rw [run_index_string W 9 sixteen .i64 k Try.underlying9, dif_pos ⟨by omega, by show (k : Int) < 16; omega⟩]
  have : ∀ k, (h : k < 16) → sixteen[k]'(show k < 16 from h) = digOf d16 k := by decide +kernel
  rw [← this k h]
  rfl
set_option maxHeartbeats 400000 in
theorem value_16 (c : UInt8) (w : World) :
    Calls Try.prog 20 #[.int .u8 c.toNat, .int .i64 16] w fun e w' => e = .returned (.int .i64 (valI d16 c)) ∧ w = w' := by
  have h8 : c.toNat < 256 := c.toNat_lt
  go_enter Try.func20, Try.ntmps20
  go_wp2
  go_loop [5] (fun n => ValAt d16 16 c n) (fun n => 16 - (intOf n).toNat)
  case atStart => exact ⟨0, by omega, by omega, rfl⟩
  case round =>
    obtain ⟨k, hk, hki, rfl⟩ := hrel
    have HK := Lib.hid hki
    clear hki
    by_cases hlt : k < 16
    · have hx := six_at k hlt
      unfold sixteen at hx
      by_cases hc : digOf d16 k = c
      · have HV := Lib.hid (val_hit tab16 c k hlt hc)
        have hb := u8_eq hc
        go_wp2
        go_ret
        exact ⟨ret_int HV.out.symm, rfl⟩
      · have HV := Lib.hid (val_next tab16 c k hlt hc HK.out)
        have hb := u8_ne hc
        go_wp2
        go_round
        case rel => exact ⟨k + 1, by omega, HV.out, by go_num⟩
        case measure => simp [intOf]; omega
    · obtain rfl : k = 16 := by omega
      have HV := Lib.hid (val_miss tab16 c HK.out)
      go_wp2
      go_ret
      exact ⟨ret_int HV.out.symm, rfl⟩
end Go.Proofs.Ytpkgbjbjdbjlhaa.Code
