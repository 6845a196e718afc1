/-
  The document's roots, by numbers: a product of 128 bits in two halves; a power held against a number.
-/
import Derived.Test.YtkoidcepamgidaaDoorBits
import Derived.IntWalk
namespace Go.Proofs.YtkoidcepamgidaaDoor
open Go.RowKit

def tMid (a b : Nat) : Nat := a / 4294967296 * (b % 4294967296) + a % 4294967296 * (b % 4294967296) / 4294967296
def tHi (a b : Nat) : Nat := a / 4294967296 * (b / 4294967296) + tMid a b / 4294967296 + (tMid a b % 4294967296 + a % 4294967296 * (b / 4294967296)) / 4294967296
def tLo (a b : Nat) : Nat := a * b % 18446744073709551616
theorem half_mul (x y : Nat) (hx : x < 4294967296) (hy : y < 4294967296) : x * y ≤ 18446744065119617025 := Nat.mul_le_mul (by omega : x ≤ 4294967295) (by omega : y ≤ 4294967295)
theorem tHi_lt (a b : Nat) (ha : a < 18446744073709551616) (hb : b < 18446744073709551616) : tHi a b < 18446744073709551616 := by
  unfold tHi tMid
  have h1 := half_mul (a / 4294967296) (b / 4294967296) (by omega) (by omega)
  have h2 := half_mul (a / 4294967296) (b % 4294967296) (by omega) (by omega)
  have h3 := half_mul (a % 4294967296) (b % 4294967296) (by omega) (by omega)
  have h4 := half_mul (a % 4294967296) (b / 4294967296) (by omega) (by omega)
  generalize a / 4294967296 * (b / 4294967296) = p at *
  generalize a / 4294967296 * (b % 4294967296) = q at *
  generalize a % 4294967296 * (b % 4294967296) = r at *
  generalize a % 4294967296 * (b / 4294967296) = s at *
  omega
theorem tLo_lt (a b : Nat) : tLo a b < 18446744073709551616 := Nat.mod_lt _ (by decide)
set_option maxHeartbeats 400000 in
theorem times_any (a b : Nat) (w : World) (ha : a < 18446744073709551616) (hb : b < 18446744073709551616) :
    Calls Tryd.prog 34 #[.int .u64 a, .int .u64 b] w fun e w' => e = .returned (.tuple #[.int .u64 (tHi a b), .int .u64 (tLo a b)]) ∧ w = w' := by
  have h1 := half_mul (a / 4294967296) (b / 4294967296) (by omega) (by omega)
  have h2 := half_mul (a / 4294967296) (b % 4294967296) (by omega) (by omega)
  have h3 := half_mul (a % 4294967296) (b % 4294967296) (by omega) (by omega)
  have h4 := half_mul (a % 4294967296) (b / 4294967296) (by omega) (by omega)
  obtain ⟨p, hp⟩ : ∃ p, a / 4294967296 * (b / 4294967296) = p := ⟨_, rfl⟩
  obtain ⟨q, hq⟩ : ∃ q, a / 4294967296 * (b % 4294967296) = q := ⟨_, rfl⟩
  obtain ⟨r, hr⟩ : ∃ r, a % 4294967296 * (b % 4294967296) = r := ⟨_, rfl⟩
  obtain ⟨s, hs⟩ : ∃ s, a % 4294967296 * (b / 4294967296) = s := ⟨_, rfl⟩
  obtain ⟨x, hx⟩ : ∃ x, a * b = x := ⟨_, rfl⟩
  have HH : Hid (tHi a b = p + (q + r / 4294967296) / 4294967296 + ((q + r / 4294967296) % 4294967296 + s) / 4294967296) := by
    show tHi a b = _
    unfold tHi tMid
    rw [hp, hq, hr, hs]
  have HL : Hid (tLo a b = x % 18446744073709551616) := by
    show tLo a b = _
    unfold tLo
    rw [hx]
  have ep : (a : Int) / 4294967296 * ((b : Int) / 4294967296) = (p : Int) := by rw [← hp]; simp
  have eq : (a : Int) / 4294967296 * ((b : Int) % 4294967296) = (q : Int) := by rw [← hq]; simp
  have er : (a : Int) % 4294967296 * ((b : Int) % 4294967296) = (r : Int) := by rw [← hr]; simp
  have es : (a : Int) % 4294967296 * ((b : Int) / 4294967296) = (s : Int) := by rw [← hs]; simp
  have ex : (a : Int) * (b : Int) = (x : Int) := by rw [← hx]; simp
  rw [hp] at h1
  rw [hq] at h2
  rw [hr] at h3
  rw [hs] at h4
  have HV : Hid (Ending.returned (.tuple #[.int .u64 ((p : Int) + ((q : Int) + (r : Int) / 4294967296) / 4294967296 + (((q : Int) + (r : Int) / 4294967296) % 4294967296 + (s : Int)) / 4294967296), .int .u64 (IntKind.u64.wrap (x : Int))]) = .returned (.tuple #[.int .u64 (tHi a b), .int .u64 (tLo a b)])) := by
    show Ending.returned _ = Ending.returned _
    rw [HH.out, HL.out]
    have e2 : IntKind.u64.wrap (x : Int) = ((x % 18446744073709551616 : Nat) : Int) := by
      unfold IntKind.wrap
      simp [IntKind.signed, IntKind.bits]
    rw [e2]
    congr 4
  clear hp hq hr hs hx HH HL
  go_enter Tryd.func34, Tryd.ntmps34
  go_wp2
  go_ret2
  exact ⟨HV.out, rfl⟩

/-- Is the square, or the third power, of x above n? (x in units of 1/4294967296.) -/
def aSum (x : Nat) : Nat := (tHi x x * x % 18446744073709551616 + tHi (tLo x x) x) % 18446744073709551616
def aboveB (x n : Nat) (cube : Bool) : Bool :=
  match cube with
  | false => decide (n < tHi x x) || (decide (tHi x x = n) && decide (0 < tLo x x))
  | true => decide (n < aSum x / 4294967296) || (decide (aSum x / 4294967296 = n) && (decide (0 < aSum x % 4294967296) || decide (0 < tLo (tLo x x) x)))
theorem wrap_nat (x : Nat) : IntKind.u64.wrap (x : Int) = ((x % 18446744073709551616 : Nat) : Int) := by
  unfold IntKind.wrap
  simp [IntKind.signed, IntKind.bits]
theorem beq_nat (a b : Nat) : ((a : Int) == (b : Int)) = decide (a = b) := by
  rw [Bool.beq_eq_decide_eq]
  exact decide_eq_decide.2 (by omega)
theorem lt_nat (a b : Nat) : decide ((a : Int) < (b : Int)) = decide (a < b) := decide_eq_decide.2 (by omega)
set_option maxHeartbeats 400000 in
theorem above_sq (x n : Nat) (w : World) (hx : x < 18446744073709551616) (_hn : n < 18446744073709551616) :
    Calls Tryd.prog 26 #[.int .u64 x, .int .u64 n, .bool false] w fun e w' => e = .returned (.bool (aboveB x n false)) ∧ w = w' := by
  have hh := tHi_lt x x hx hx
  have hl := tLo_lt x x
  have hT := fun W => times_any x x W hx hx
  obtain ⟨b, hb⟩ : ∃ b, aboveB x n false = b := ⟨_, rfl⟩
  rw [hb]
  unfold aboveB at hb
  simp only at hb
  generalize tHi x x = h at hh hT hb
  generalize tLo x x = l at hl hT hb
  rw [← beq_nat] at hb
  cases h1 : decide (n < h) <;> cases h2 : ((h : Int) == (n : Int)) <;> cases h3 : decide (0 < l) <;> rw [h1, h2, h3] at hb <;> subst hb
  all_goals
    go_enter Tryd.func26, Tryd.ntmps26
    go_wp2_with (go_at_call 34; refine (hT _).mono ?_; rintro e w' ⟨rfl, rfl⟩)
    go_ret
    exact ⟨rfl, rfl⟩
set_option maxHeartbeats 2000000 in
theorem above_cu (x n : Nat) (w : World) (hx : x < 18446744073709551616) (_hn : n < 18446744073709551616) :
    Calls Tryd.prog 26 #[.int .u64 x, .int .u64 n, .bool true] w fun e w' => e = .returned (.bool (aboveB x n true)) ∧ w = w' := by
  have hh := tHi_lt x x hx hx
  have hl := tLo_lt x x
  have hm := tHi_lt (tLo x x) x hl hx
  have hk := tLo_lt (tLo x x) x
  have hT := fun W => times_any x x W hx hx
  have hU := fun W => times_any (tLo x x) x W hl hx
  obtain ⟨b, hb⟩ : ∃ b, aboveB x n true = b := ⟨_, rfl⟩
  rw [hb]
  unfold aboveB at hb
  simp only at hb
  obtain ⟨S, hS⟩ : ∃ S, aSum x = S := ⟨_, rfl⟩
  rw [hS] at hb
  unfold aSum at hS
  have hS2 : S < 18446744073709551616 := by rw [← hS]; exact Nat.mod_lt _ (by decide)
  generalize tHi (tLo x x) x = m at hm hU hS
  generalize tLo (tLo x x) x = k at hk hU hb
  generalize tHi x x = h at hh hT hS
  generalize tLo x x = l at hl hT hU
  have e1 := wrap_nat (h * x)
  rw [Int.natCast_mul] at e1
  generalize h * x % 18446744073709551616 = y at e1 hS
  have e2 := wrap_nat (y + m)
  rw [hS, Int.natCast_add] at e2
  obtain ⟨q, hq⟩ : ∃ q, S / 4294967296 = q := ⟨_, rfl⟩
  obtain ⟨r, hr⟩ : ∃ r, S % 4294967296 = r := ⟨_, rfl⟩
  have e3 : (S : Int) / 4294967296 = (q : Int) := by omega
  have e4 : (S : Int) % 4294967296 = (r : Int) := by omega
  rw [hq, hr] at hb
  rw [← beq_nat] at hb
  clear hS hq hr
  cases h1 : decide (n < q) <;> cases h2 : ((q : Int) == (n : Int)) <;> cases h3 : decide (0 < r) <;> cases h4 : decide (0 < k) <;> rw [h1, h2, h3, h4] at hb <;> subst hb
  all_goals
    go_enter Tryd.func26, Tryd.ntmps26
    go_wp2_with fail
    refine (hT _).mono ?_
    rintro e w' ⟨rfl, rfl⟩
    go_wp2_with fail
    refine (hU _).mono ?_
    rintro e w' ⟨rfl, rfl⟩
    go_wp2
    go_ret
    exact ⟨rfl, rfl⟩
end Go.Proofs.YtkoidcepamgidaaDoor
