/-
  The document's roots: the primes.
-/
import Derived.Test.YtkoidcepamgidaaDoorBits
import Derived.IntWalk
namespace Go.Proofs.YtkoidcepamgidaaDoor
open Go.RowKit

def scanP (p : Nat) : Nat → Nat → Bool → Bool
  | 0, _, b => b
  | f + 1, d, b => if d * d ≤ p then scanP p f (d + 1) (b && !decide (p % d = 0)) else b
def isPrime (p : Nat) : Bool := scanP p 20 2 true
def cntP : Nat → Nat
  | 0 => 0
  | m + 1 => cntP m + (if isPrime (3 + m) then 1 else 0)
def pTab : List Nat := [2, 3, 5, 7, 11, 13, 17, 19, 23, 29, 31, 37, 41, 43, 47, 53, 59, 61, 67, 71, 73, 79, 83, 89, 97, 101, 103, 107, 109, 113, 127, 131, 137, 139, 149, 151, 157, 163, 167, 173, 179, 181, 191, 193, 197, 199, 211, 223, 227, 229, 233, 239, 241, 251, 257, 263, 269, 271, 277, 281, 283, 293, 307, 311]
def pAt (n : Nat) : Nat := pTab.getD n 0
theorem pAt_ok : ∀ n, n < 64 → (2 ≤ pAt n ∧ pAt n ≤ 311) ∧ cntP (pAt n - 2) = n ∧ (n = 0 → pAt n = 2) ∧ (0 < n → 3 ≤ pAt n ∧ cntP (pAt n - 3) + 1 = n) := by decide +kernel
theorem cntP_mono (m : Nat) : ∀ d, cntP m ≤ cntP (m + d)
  | 0 => Nat.le_refl _
  | d + 1 => Nat.le_trans (cntP_mono m d) (Nat.le_add_right _ _)
/-- The search has not come to its end before it is there. -/
theorem cntP_end (n m : Nat) (hn : n < 64) (hm : m ≤ pAt n - 2) (h : n ≤ cntP m) : m = pAt n - 2 := by
  obtain ⟨h1, h2, h3, h4⟩ := pAt_ok n hn
  rcases Nat.eq_zero_or_pos n with h0 | h0
  · have := h3 h0; omega
  · obtain ⟨h5, h6⟩ := h4 h0
    rcases Nat.lt_or_ge m (pAt n - 2) with h7 | h7
    · have := cntP_mono m (pAt n - 3 - m)
      rw [show m + (pAt n - 3 - m) = pAt n - 3 by omega] at this
      omega
    · omega
theorem cntP_on (n m : Nat) (hn : n < 64) (hm : m ≤ pAt n - 2) (h : cntP m < n) : m < pAt n - 2 := by
  obtain ⟨h1, h2, _⟩ := pAt_ok n hn
  rcases Nat.lt_or_ge m (pAt n - 2) with h7 | h7
  · exact h7
  · have : m = pAt n - 2 := by omega
    rw [this] at h; omega
theorem cntP_le (m : Nat) : cntP m ≤ m := by
  induction m with
  | zero => exact Nat.le_refl _
  | succ m ih => unfold cntP; split <;> omega
theorem sq_small (d P : Nat) (hP : P ≤ 311) (h : d * d ≤ P) : d ≤ 17 := by
  rcases Nat.lt_or_ge d 18 with h1 | h1
  · omega
  · have := Nat.mul_le_mul h1 h1
    omega
def ScanAt (P : Nat) (is i : Value) : Prop := ∃ (d : Nat) (b : Bool), 2 ≤ d ∧ d ≤ 18 ∧ i = .int .u64 d ∧ is = .bool b ∧ scanP P (22 - d) d b = isPrime P
def FindAt (n : Nat) (w : World) (p k : Value) (wr : World) : Prop := wr = w ∧ ∃ m : Nat, m ≤ pAt n - 2 ∧ p = .int .u64 ((2 : Int) + m) ∧ k = .int .i64 (cntP m)
theorem find_next {n m : Nat} {w : World} {P : Nat} {k : Int} (hm : m < pAt n - 2) (hP : 3 + m = P) (hk : k = (cntP (m + 1) : Nat)) : FindAt n w (.int .u64 P) (.int .i64 k) w := by
  refine ⟨rfl, m + 1, by omega, ?_, by rw [hk]⟩
  congr 1; omega

set_option maxHeartbeats 1000000 in
theorem prime_any (n : Nat) (w : World) (hn : n < 64) : Calls Tryd.prog 20 #[.int .i64 n] w fun e w' => e = .returned (.int .u64 (pAt n)) ∧ w = w' := by
  obtain ⟨⟨hlo, hhi⟩, _⟩ := pAt_ok n hn
  go_enter Tryd.func20, Tryd.ntmps20
  go_wp2
  go_loopw [3, 4, 5, 6] (fun p k _ _ wr => FindAt n w p k wr) (fun p _ _ _ _ => pAt n - (intOf p).toNat)
  case atStart => exact ⟨rfl, 0, by omega, rfl, rfl⟩
  case round =>
    obtain ⟨rfl, m, hm, rfl, rfl⟩ := hrel
    have HE := Lib.hid (cntP_end n m hn hm)
    have HO := Lib.hid (cntP_on n m hn hm)
    have HC : Hid (cntP (m + 1) = cntP m + (if isPrime (3 + m) then 1 else 0)) := Lib.hid rfl
    have HX := Lib.hid (fun (P : Nat) (k : Int) h => @find_next n m wr P k h)
    have hkm := cntP_le m
    generalize cntP m = k at HE HO HC hkm ⊢
    by_cases hk : k < n
    · have hm2 := HO.out hk
      obtain ⟨P, hP⟩ : ∃ P, 3 + m = P := ⟨_, rfl⟩
      have hPi : (2 : Int) + (m : Int) + 1 = (P : Int) := by omega
      have hP3 : P ≤ 311 := by omega
      have hP2 : 3 ≤ P := by omega
      rw [hP] at HC
      have HP := Lib.hid hP
      clear hP
      go_wp2
      go_loop [5, 6] (fun is i => ScanAt P is i) (fun _ i => 18 - (intOf i).toNat)
      case atStart => exact ⟨2, true, by omega, by omega, rfl, rfl, rfl⟩
      case round =>
        obtain ⟨d, b, hd2, hd18, rfl, rfl, hs⟩ := hrel
        obtain ⟨f, hf⟩ : ∃ f, 22 - d = f + 1 := ⟨21 - d, by omega⟩
        have HS : Hid ((if d * d ≤ P then scanP P (22 - (d + 1)) (d + 1) (b && !decide (P % d = 0)) else b) = isPrime P) := by
          show _ = _
          rw [← hs, hf, show 22 - (d + 1) = f by omega]
          rfl
        have hsq : d * d ≤ 324 := Nat.mul_le_mul hd18 hd18
        have HQ := Lib.hid (sq_small d P hP3)
        obtain ⟨q, hq⟩ : ∃ q, d * d = q := ⟨_, rfl⟩
        obtain ⟨r, hr⟩ : ∃ r, P % d = r := ⟨_, rfl⟩
        have eq : (d : Int) * (d : Int) = (q : Int) := by rw [← hq]; simp
        have er : (P : Int) % (d : Int) = (r : Int) := by rw [← hr]; simp
        have er2 : (P : Int).tmod (d : Int) = (r : Int) := by rw [Int.tmod_eq_emod_of_nonneg (by omega)]; exact er
        have hrl : r < d := by rw [← hr]; exact Nat.mod_lt _ (by omega)
        rw [hq] at HS HQ hsq
        rw [hr] at HS
        clear hq hr hs hf
        by_cases hqP : q ≤ P
        · have hd17 := HQ.out hqP
          have HS : Hid (scanP P (22 - (d + 1)) (d + 1) (b && !decide (r = 0)) = isPrime P) := by
            show _ = _
            rw [← HS.out, if_pos hqP]
          by_cases hr0 : r = 0
          · subst hr0
            cases b
            · go_wp2
              go_round
              case rel => exact ⟨d + 1, false, by omega, by omega, by go_num, rfl, HS.out⟩
              case measure => simp [intOf]; omega
            · go_wp2
              go_round
              case rel => exact ⟨d + 1, false, by omega, by omega, by go_num, rfl, HS.out⟩
              case measure => simp [intOf]; omega
          · have hrb : ((r : Int) != 0) = true := by simp; omega
            have HS : Hid (scanP P (22 - (d + 1)) (d + 1) b = isPrime P) := by
              show _ = _
              rw [← HS.out]
              simp [hr0]
            cases b
            · go_wp2
              go_round
              case rel => exact ⟨d + 1, false, by omega, by omega, by go_num, rfl, HS.out⟩
              case measure => simp [intOf]; omega
            · go_wp2
              go_round
              case rel => exact ⟨d + 1, true, by omega, by omega, by go_num, rfl, HS.out⟩
              case measure => simp [intOf]; omega
        · have HS : Hid (b = isPrime P) := by
            show _ = _
            rw [← HS.out, if_neg hqP]
          cases b
          · have HK : Hid (cntP (m + 1) = k) := by
              show _ = _
              rw [HC.out, ← HS.out]; rfl
            go_wp2
            go_roundw
            case rel => exact HX.out P _ hm2 HP.out (by rw [HK.out])
            case measure => simp [intOf]; omega
          · have HK : Hid (cntP (m + 1) = k + 1) := by
              show _ = _
              rw [HC.out, ← HS.out]; rfl
            go_wp2
            go_roundw
            case rel => exact HX.out P _ hm2 HP.out (by rw [HK.out]; rfl)
            case measure => simp [intOf]; omega
    · have he := HE.out (by omega)
      have hpi : (2 : Int) + (m : Int) = (pAt n : Int) := by omega
      go_wp2
      go_ret
      exact ⟨ret_int hpi, rfl⟩
end Go.Proofs.YtkoidcepamgidaaDoor
