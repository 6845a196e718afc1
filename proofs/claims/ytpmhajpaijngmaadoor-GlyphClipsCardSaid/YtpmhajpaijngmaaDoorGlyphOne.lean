/-
  The document's sign at a place.
-/
import Derived.Test.YtpmhajpaijngmaaDoorGlyphFold
namespace Go.Proofs.YtpmhajpaijngmaaDoor.Glyph
open Go.RowKit

def good (l : List UInt8) (m : Nat) : Prop := m < l.length ∧ 128 ≤ at4 l m ∧ at4 l m ≤ 191
instance (l : List UInt8) (m : Nat) : Decidable (good l m) := inferInstanceAs (Decidable (_ ∧ _))
def tv (l : List UInt8) (m : Nat) : Int := if good l m then (at4 l m : Int) - 128 else -1
theorem one_low (l : List UInt8) (h : at4 l 0 < 128) : sg l = at4 l 0 ∧ wd l = 1 := by
  have : dec l = (at4 l 0, 1) := by unfold dec Lib.decodeN; rw [if_pos h]
  unfold sg wd
  rw [this, if_neg (by intro e; have := (Prod.mk.inj e).1; omega)]
  exact ⟨rfl, rfl⟩
theorem one_none (l : List UInt8) (h : 128 ≤ at4 l 0) (h2 : at4 l 0 < 192 ∨ 248 ≤ at4 l 0) : dec l = (65533, 1) := by
  have := at4_lt l 0
  unfold dec Lib.decodeN
  rw [if_neg (by omega), if_neg (by omega), if_neg (by omega), if_neg (by omega)]
theorem bad_sg {l : List UInt8} (h : dec l = (65533, 1)) : sg l = -1 ∧ wd l = 1 := by
  unfold sg wd
  rw [h, if_pos rfl]
  exact ⟨rfl, rfl⟩
theorem good_sg {l : List UInt8} {n k : Nat} (h : dec l = (n, k)) (hk : k ≠ 1) : sg l = n ∧ wd l = k := by
  unfold sg wd
  rw [h, if_neg (by intro e; exact hk (Prod.mk.inj e).2)]
  exact ⟨rfl, rfl⟩
/-- The number that the first j bytes make. -/
def nv (l : List UInt8) (base : Nat) : Nat → Nat
  | 0 => 0
  | 1 => at4 l 0 - base
  | (j + 2) => 64 * nv l base (j + 1) + (at4 l (j + 1) - 128)
theorem nv_succ (l : List UInt8) (base j : Nat) (h : 1 ≤ j) : nv l base (j + 1) = 64 * nv l base j + (at4 l j - 128) := by
  obtain ⟨i, rfl⟩ : ∃ i, j = i + 1 := ⟨j - 1, by omega⟩
  rfl
theorem nv_lt (l : List UInt8) (base j : Nat) (h : at4 l 0 - base ≤ 31) (hj : j ≤ 4) : nv l base j ≤ 100000000 := by
  have h1 := at4_lt l 1; have h2 := at4_lt l 2; have h3 := at4_lt l 3
  match j, hj with
  | 0, _ => show 0 ≤ _; omega
  | 1, _ => show at4 l 0 - base ≤ _; omega
  | 2, _ => show 64 * (at4 l 0 - base) + (at4 l 1 - 128) ≤ _; omega
  | 3, _ => show 64 * (64 * (at4 l 0 - base) + (at4 l 1 - 128)) + (at4 l 2 - 128) ≤ _; omega
  | 4, _ => show 64 * (64 * (64 * (at4 l 0 - base) + (at4 l 1 - 128)) + (at4 l 2 - 128)) + (at4 l 3 - 128) ≤ _; omega
theorem one_bad2 (l : List UInt8) (h : 192 ≤ at4 l 0) (h2 : at4 l 0 < 224) (m : Nat) (h3 : 1 ≤ m) (h4 : m < 2) (hg : ¬ good l m) : sg l = -1 ∧ wd l = 1 := by
  apply bad_sg
  have := at4_lt l 1; have := at4_lt l 2; have := at4_lt l 3
  unfold good at hg
  unfold dec Lib.decodeN
  rw [if_neg (by omega), if_neg (by intro hc; have : m = 1 := (by omega); rcases this with rfl <;> omega), if_neg (by omega), if_neg (by omega)]
theorem one_full2 (l : List UInt8) (h : 192 ≤ at4 l 0) (h2 : at4 l 0 < 224) (hg : ∀ m, 1 ≤ m → m < 2 → good l m) (n : Nat) (hn : nv l 192 2 = n) :
    ((n < 128 ∨ (55296 ≤ n ∧ n ≤ 57343) ∨ 1114111 < n) → sg l = -1 ∧ wd l = 1) ∧ (¬ (n < 128 ∨ (55296 ≤ n ∧ n ≤ 57343) ∨ 1114111 < n) → sg l = n ∧ wd l = 2) := by
  have hn' : 64 * (at4 l 0 - 192) + (at4 l 1 - 128) = n := hn
  have g1 : good l 1 := hg 1 (by decide) (by decide)
  unfold good at g1
  have e : at4 l 0 % 32 * 64 + at4 l 1 % 64 = n := by omega
  have hd : dec l = if 128 ≤ n ∧ (n < 55296 ∨ (57344 ≤ n ∧ n ≤ 1114111)) then (n, 2) else (65533, 1) := by
    unfold dec Lib.decodeN
    rw [if_neg (by omega), if_pos ⟨by omega, by omega, by omega⟩, e]
    by_cases hc : 128 ≤ n
    · rw [if_pos hc, if_pos (by omega)]
    · rw [if_neg hc, if_neg (by omega)]
  constructor
  · intro hc
    rw [if_neg (by omega)] at hd
    exact bad_sg hd
  · intro hc
    rw [if_pos (by omega)] at hd
    exact good_sg hd (by decide)
theorem one_bad3 (l : List UInt8) (h : 224 ≤ at4 l 0) (h2 : at4 l 0 < 240) (m : Nat) (h3 : 1 ≤ m) (h4 : m < 3) (hg : ¬ good l m) : sg l = -1 ∧ wd l = 1 := by
  apply bad_sg
  have := at4_lt l 1; have := at4_lt l 2; have := at4_lt l 3
  unfold good at hg
  unfold dec Lib.decodeN
  rw [if_neg (by omega), if_neg (by omega), if_neg (by intro hc; have : m = 1 ∨ m = 2 := (by omega); rcases this with rfl | rfl <;> omega), if_neg (by omega)]
theorem one_full3 (l : List UInt8) (h : 224 ≤ at4 l 0) (h2 : at4 l 0 < 240) (hg : ∀ m, 1 ≤ m → m < 3 → good l m) (n : Nat) (hn : nv l 224 3 = n) :
    ((n < 2048 ∨ (55296 ≤ n ∧ n ≤ 57343) ∨ 1114111 < n) → sg l = -1 ∧ wd l = 1) ∧ (¬ (n < 2048 ∨ (55296 ≤ n ∧ n ≤ 57343) ∨ 1114111 < n) → sg l = n ∧ wd l = 3) := by
  have hn' : 64 * (64 * (at4 l 0 - 224) + (at4 l 1 - 128)) + (at4 l 2 - 128) = n := hn
  have g1 : good l 1 := hg 1 (by decide) (by decide)
  unfold good at g1
  have g2 : good l 2 := hg 2 (by decide) (by decide)
  unfold good at g2
  have e : at4 l 0 % 16 * 4096 + at4 l 1 % 64 * 64 + at4 l 2 % 64 = n := by omega
  have hd : dec l = if 2048 ≤ n ∧ (n < 55296 ∨ (57344 ≤ n ∧ n ≤ 1114111)) then (n, 3) else (65533, 1) := by
    unfold dec Lib.decodeN
    rw [if_neg (by omega), if_neg (by omega), if_pos ⟨by omega, ⟨by omega, by omega⟩, by omega, by omega⟩, e]
  constructor
  · intro hc
    rw [if_neg (by omega)] at hd
    exact bad_sg hd
  · intro hc
    rw [if_pos (by omega)] at hd
    exact good_sg hd (by decide)
theorem one_bad4 (l : List UInt8) (h : 240 ≤ at4 l 0) (h2 : at4 l 0 < 248) (m : Nat) (h3 : 1 ≤ m) (h4 : m < 4) (hg : ¬ good l m) : sg l = -1 ∧ wd l = 1 := by
  apply bad_sg
  have := at4_lt l 1; have := at4_lt l 2; have := at4_lt l 3
  unfold good at hg
  unfold dec Lib.decodeN
  rw [if_neg (by omega), if_neg (by omega), if_neg (by omega), if_neg (by intro hc; have : m = 1 ∨ m = 2 ∨ m = 3 := (by omega); rcases this with rfl | rfl | rfl <;> omega)]
theorem one_full4 (l : List UInt8) (h : 240 ≤ at4 l 0) (h2 : at4 l 0 < 248) (hg : ∀ m, 1 ≤ m → m < 4 → good l m) (n : Nat) (hn : nv l 240 4 = n) :
    ((n < 65536 ∨ (55296 ≤ n ∧ n ≤ 57343) ∨ 1114111 < n) → sg l = -1 ∧ wd l = 1) ∧ (¬ (n < 65536 ∨ (55296 ≤ n ∧ n ≤ 57343) ∨ 1114111 < n) → sg l = n ∧ wd l = 4) := by
  have hn' : 64 * (64 * (64 * (at4 l 0 - 240) + (at4 l 1 - 128)) + (at4 l 2 - 128)) + (at4 l 3 - 128) = n := hn
  have g1 : good l 1 := hg 1 (by decide) (by decide)
  unfold good at g1
  have g2 : good l 2 := hg 2 (by decide) (by decide)
  unfold good at g2
  have g3 : good l 3 := hg 3 (by decide) (by decide)
  unfold good at g3
  have e : at4 l 0 % 8 * 262144 + at4 l 1 % 64 * 4096 + at4 l 2 % 64 * 64 + at4 l 3 % 64 = n := by omega
  have hd : dec l = if 65536 ≤ n ∧ (n < 55296 ∨ (57344 ≤ n ∧ n ≤ 1114111)) then (n, 4) else (65533, 1) := by
    unfold dec Lib.decodeN
    rw [if_neg (by omega), if_neg (by omega), if_neg (by omega), if_pos ⟨by omega, ⟨by omega, by omega⟩, ⟨by omega, by omega⟩, by omega, by omega⟩, e]
  constructor
  · intro hc
    rw [if_neg (by omega)] at hd
    exact bad_sg hd
  · intro hc
    rw [if_pos (by omega)] at hd
    exact good_sg hd (by decide)
theorem at4_drop (s : ByteArray) (i k : Nat) (h : i + k < s.size) : at4 ((bl s).drop i) k = (s[i + k]'h).toNat := by
  unfold at4
  rw [List.getD_eq_getElem?_getD, List.getElem?_drop, List.getElem?_eq_getElem (by rw [bl_len]; exact h)]
  rfl
theorem good_iff (s : ByteArray) (i k : Nat) : good ((bl s).drop i) k ↔ i + k < s.size ∧ 128 ≤ at4 ((bl s).drop i) k ∧ at4 ((bl s).drop i) k ≤ 191 := by
  unfold good
  rw [List.length_drop, bl_len]
  constructor <;> intro h <;> omega
set_option maxHeartbeats 400000 in
theorem tail_any (s : ByteArray) (i k : Nat) (w : World) (_hi : i ≤ 1000000) (_hk : k ≤ 10) (_hs : s.size ≤ 1000000) :
    Calls Tryd.prog 34 #[.string s, .int .i64 ((i : Int) + (k : Int))] w fun e w' => e = .returned (.int .i64 (tv ((bl s).drop i) k)) ∧ w = w' := by
  by_cases h : i + k < s.size
  · have h' : ¬ ((s.size : Int) ≤ (i : Int) + (k : Int)) := by omega
    have ha := at4_drop s i k h
    have hg := good_iff s i k
    rw [ha] at hg
    by_cases c1 : (s[i + k]'h).toNat < 128
    · have c1' : ((s[i + k]'h).toNat : Int) < 128 := by omega
      have HV : Hid (tv ((bl s).drop i) k = -1) := Lib.hid (by unfold tv; rw [if_neg (by rw [hg]; omega)])
      clear hg ha
      have hn : ((i : Int) + (k : Int)) = ((i + k : Nat) : Int) := by omega
      rw [hn] at h' ⊢
      generalize i + k = q at *
      go_enter Tryd.func34, Tryd.ntmps34
      go_wp2
      go_ret
      exact ⟨by rw [HV.out]; rfl, rfl⟩
    · by_cases c2 : 191 < (s[i + k]'h).toNat
      · have c1' : ¬ ((s[i + k]'h).toNat : Int) < 128 := by omega
        have c2' : (191 : Int) < ((s[i + k]'h).toNat : Int) := by omega
        have HV : Hid (tv ((bl s).drop i) k = -1) := Lib.hid (by unfold tv; rw [if_neg (by rw [hg]; omega)])
        clear hg ha
        have hn : ((i : Int) + (k : Int)) = ((i + k : Nat) : Int) := by omega
        rw [hn] at h' ⊢
        generalize i + k = q at *
        go_enter Tryd.func34, Tryd.ntmps34
        go_wp2
        go_ret
        exact ⟨by rw [HV.out]; rfl, rfl⟩
      · have c1' : ¬ ((s[i + k]'h).toNat : Int) < 128 := by omega
        have c2' : ¬ (191 : Int) < ((s[i + k]'h).toNat : Int) := by omega
        have HV : Hid (tv ((bl s).drop i) k = ((s[i + k]'h).toNat : Int) - 128) := Lib.hid (by unfold tv; rw [if_pos (by rw [hg]; omega), ha])
        have h8 := (s[i + k]'h).toNat_lt
        clear hg ha
        have hn : ((i : Int) + (k : Int)) = ((i + k : Nat) : Int) := by omega
        rw [hn] at h' ⊢
        generalize i + k = q at *
        go_enter Tryd.func34, Tryd.ntmps34
        go_wp2
        go_ret
        exact ⟨by rw [HV.out]; rfl, rfl⟩
  · have h' : (s.size : Int) ≤ (i : Int) + (k : Int) := by omega
    have HV : Hid (tv ((bl s).drop i) k = -1) := Lib.hid (by unfold tv; rw [if_neg (by rw [good_iff]; omega)])
    go_enter Tryd.func34, Tryd.ntmps34
    go_wp2
    go_ret
    exact ⟨by rw [HV.out]; rfl, rfl⟩
end Go.Proofs.YtpmhajpaijngmaaDoor.Glyph
