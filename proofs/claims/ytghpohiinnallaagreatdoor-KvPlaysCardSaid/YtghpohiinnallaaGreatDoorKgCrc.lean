/-
  What the walks of crc rest on, and the walks: Sum, Bytes, Number.
-/
import Derived.Test.YtghpohiinnallaaGreatDoorProg
import Derived.WalkKit
import Derived.WalkSpells
import Derived.WalkLawsBesides
import Derived.Lib.Hide
import Derived.Lib.Strings
import Derived.Lib.IndexBytes
import Derived.WalkSmall
import Derived.ShutString
import Derived.RegionTactic
import Derived.Deep.QuietTactic
import Derived.BigQuiet
import Derived.Laws.BitsAllLaws

/-
  The checksum over numbers and lists of bytes, without the program: one step, eight steps, a byte, a list; its bytes; that one changed byte is seen.
-/
namespace Go.Proofs.YtghpohiinnallaaGreatDoor.Crc

def pol : Nat := 2197175160
def top : Nat := 4294967295
def step (x : Nat) : Nat := if x % 2 = 1 then (x / 2) ^^^ 2197175160 else x / 2
def steps : Nat → Nat → Nat
  | 0, x => x
  | k + 1, x => step (steps k x)
def addB (x : Nat) (c : UInt8) : Nat := steps 8 (x ^^^ c.toNat)
def run (x : Nat) (l : List UInt8) : Nat := l.foldl addB x
def addS (x : Nat) (l : List UInt8) : Nat := 4294967295 - run (4294967295 - x) l
def sumS (l : List UInt8) : Nat := addS 0 l
def byt (n : Nat) : UInt8 := UInt8.ofNat n
def bytesS (n : Nat) : List UInt8 := [byt n, byt (n / 256), byt (n / 65536), byt (n / 16777216)]
def sealS (l : List UInt8) : List UInt8 := l ++ bytesS (sumS l)
def fitsS (l : List UInt8) : Bool := decide (4 ≤ l.length ∧ l.drop (l.length - 4) = bytesS (sumS (l.take (l.length - 4))))

theorem xor_lt32 {a b : Nat} (ha : a < 4294967296) (hb : b < 4294967296) : a ^^^ b < 4294967296 := Nat.xor_lt_two_pow (n := 32) ha hb
theorem step_lt {x : Nat} (h : x < 4294967296) : step x < 4294967296 := by
  unfold step
  split
  · exact xor_lt32 (by omega) (by decide)
  · omega
theorem steps_lt {x : Nat} (h : x < 4294967296) : ∀ k, steps k x < 4294967296
  | 0 => h
  | k + 1 => step_lt (steps_lt h k)
theorem byte_lt (c : UInt8) : c.toNat < 256 := c.toNat_lt
theorem addB_lt {x : Nat} (h : x < 4294967296) (c : UInt8) : addB x c < 4294967296 :=
  steps_lt (xor_lt32 h (by have := byte_lt c; omega)) 8
theorem run_lt : ∀ (l : List UInt8) {x : Nat}, x < 4294967296 → run x l < 4294967296
  | [], _, h => h
  | c :: l, _, h => run_lt l (addB_lt h c)
theorem run_snoc (x : Nat) (l : List UInt8) (c : UInt8) : run x (l ++ [c]) = addB (run x l) c := by
  unfold run; rw [List.foldl_append]; rfl
theorem run_append (x : Nat) (l m : List UInt8) : run x (l ++ m) = run (run x l) m := by
  unfold run; rw [List.foldl_append]
theorem addS_lt (x : Nat) (l : List UInt8) : addS x l < 4294967296 := by unfold addS; omega
theorem addS_nil (x : Nat) (h : x < 4294967296) : addS x [] = x := by unfold addS run; simp only [List.foldl_nil]; omega
theorem sum_append (l m : List UInt8) : sumS (l ++ m) = addS (sumS l) m := by
  have h := run_lt l (x := 4294967295 - 0) (by decide)
  unfold sumS addS
  rw [run_append]
  rw [show 4294967295 - (4294967295 - run (4294967295 - 0) l) = run (4294967295 - 0) l by omega]

/- The document's answer takes a byte's bits one by one. -/
def rstep (x c : Nat) : Nat := if (x + c) % 2 = 1 then (x / 2) ^^^ 2197175160 else x / 2
theorem xor_mod2 (x c : Nat) : (x ^^^ c) % 2 = (x + c) % 2 := by

  have h' : (x ^^^ c) % 2 = 1 ↔ ¬ (x % 2 = 1 ↔ c % 2 = 1) := by simp
  rcases Nat.mod_two_eq_zero_or_one (x ^^^ c) with e | e
  · have g : ¬ ¬ (x % 2 = 1 ↔ c % 2 = 1) := fun k => by have := h'.2 k; omega
    have g := Classical.not_not.1 g
    by_cases hx : x % 2 = 1
    · have := g.1 hx; omega
    · have : ¬ c % 2 = 1 := fun k => hx (g.2 k)
      omega
  · have g := h'.1 e
    by_cases hx : x % 2 = 1
    · have : ¬ c % 2 = 1 := fun k => g ⟨fun _ => k, fun _ => hx⟩
      omega
    · have : c % 2 = 1 := Classical.byContradiction fun k => g ⟨fun j => absurd j hx, fun j => absurd j k⟩
      omega
theorem xor_half (x c : Nat) : (x ^^^ c) / 2 = (x / 2) ^^^ (c / 2) := by
  have h := Nat.shiftRight_xor_distrib (a := x) (b := c) (i := 1)
  simpa [Nat.shiftRight_eq_div_pow] using h
theorem step_xor (x c : Nat) : step (x ^^^ c) = rstep x c ^^^ (c / 2) := by
  unfold step rstep
  rw [xor_mod2, xor_half]
  split
  · rw [Nat.xor_assoc, Nat.xor_comm (c / 2), ← Nat.xor_assoc]
  · rfl
/-- The number behind k bits of the byte. -/
def rsteps : Nat → Nat → Nat → Nat
  | 0, x, _ => x
  | k + 1, x, c => rstep (rsteps k x c) (c / 2 ^ k)
theorem rsteps_xor (x c : Nat) : ∀ k, steps k (x ^^^ c) = rsteps k x c ^^^ (c / 2 ^ k)
  | 0 => by simp [steps, rsteps]
  | k + 1 => by
    show step (steps k (x ^^^ c)) = rstep (rsteps k x c) (c / 2 ^ k) ^^^ (c / 2 ^ (k + 1))
    rw [rsteps_xor x c k, step_xor, Nat.pow_succ, Nat.div_div_eq_div_mul]
theorem rsteps_byte (x : Nat) (c : UInt8) : rsteps 8 x c.toNat = addB x c := by
  have h := rsteps_xor x c.toNat 8
  have h0 : c.toNat / 2 ^ 8 = 0 := Nat.div_eq_of_lt (byte_lt c)
  rw [h0, Nat.xor_zero] at h
  exact h.symm
theorem rstep_lt {x c : Nat} (h : x < 4294967296) : rstep x c < 4294967296 := by
  unfold rstep
  split
  · exact xor_lt32 (by omega) (by decide)
  · omega
theorem rsteps_lt {x c : Nat} (h : x < 4294967296) : ∀ k, rsteps k x c < 4294967296
  | 0 => h
  | k + 1 => rstep_lt (rsteps_lt h k)

/- One to one. -/
theorem half_xor_top {x : Nat} (h : x < 4294967296) : 2147483648 ≤ (x / 2) ^^^ 2197175160 := by
  have e : ((x / 2) ^^^ 2197175160) / 2147483648 = (x / 2) / 2147483648 ^^^ 2197175160 / 2147483648 := by
    have h := Nat.shiftRight_xor_distrib (a := x / 2) (b := 2197175160) (i := 31)
    simpa [Nat.shiftRight_eq_div_pow] using h
  rw [Nat.div_eq_of_lt (show x / 2 < 2147483648 by omega)] at e
  have e2 : (0 ^^^ 2197175160 / 2147483648 : Nat) = 1 := by decide
  rw [e2] at e
  omega
theorem xor_cancel {a b c : Nat} (h : a ^^^ c = b ^^^ c) : a = b := by
  have := congrArg (· ^^^ c) h
  simpa [Nat.xor_assoc] using this
theorem step_inj {x y : Nat} (hx : x < 4294967296) (hy : y < 4294967296) (h : step x = step y) : x = y := by
  have tx := half_xor_top hx
  have ty := half_xor_top hy
  unfold step at h
  split at h <;> split at h
  · have := xor_cancel h; omega
  · omega
  · omega
  · omega
theorem steps_inj {x y : Nat} (hx : x < 4294967296) (hy : y < 4294967296) : ∀ k, steps k x = steps k y → x = y
  | 0, h => h
  | k + 1, h => steps_inj hx hy k (step_inj (steps_lt hx k) (steps_lt hy k) h)
theorem addB_inj {x y : Nat} (hx : x < 4294967296) (hy : y < 4294967296) (c : UInt8) (h : addB x c = addB y c) : x = y :=
  have hc := byte_lt c
  xor_cancel (steps_inj (xor_lt32 hx (by omega)) (xor_lt32 hy (by omega)) 8 h)
theorem addB_byte {x : Nat} (hx : x < 4294967296) (c d : UInt8) (h : addB x c = addB x d) : c = d := by
  have hc := byte_lt c
  have hd := byte_lt d
  have e := steps_inj (xor_lt32 hx (by omega)) (xor_lt32 hx (by omega)) 8 h
  rw [Nat.xor_comm x, Nat.xor_comm x] at e
  exact UInt8.toNat.inj (xor_cancel e)
theorem run_inj : ∀ (l : List UInt8) {x y : Nat}, x < 4294967296 → y < 4294967296 → run x l = run y l → x = y
  | [], _, _, _, _, h => h
  | c :: l, _, _, hx, hy, h => addB_inj hx hy c (run_inj l (addB_lt hx c) (addB_lt hy c) h)
theorem run_set {x : Nat} (hx : x < 4294967296) (a b : List UInt8) (c d : UInt8) (h : run x (a ++ c :: b) = run x (a ++ d :: b)) : c = d := by
  rw [run_append, run_append] at h
  have ha := run_lt a hx
  exact addB_byte ha c d (run_inj b (addB_lt ha c) (addB_lt ha d) h)
theorem sum_set (a b : List UInt8) (c d : UInt8) (h : sumS (a ++ c :: b) = sumS (a ++ d :: b)) : c = d := by
  unfold sumS addS at h
  have h1 := run_lt (a ++ c :: b) (x := 4294967295 - 0) (by decide)
  have h2 := run_lt (a ++ d :: b) (x := 4294967295 - 0) (by decide)
  exact run_set (x := 4294967295 - 0) (by decide) a b c d (by omega)

theorem byt_toNat (n : Nat) : (byt n).toNat = n % 256 := by unfold byt; simp
theorem bytes_len (n : Nat) : (bytesS n).length = 4 := rfl
theorem bytes_inj {m n : Nat} (hm : m < 4294967296) (hn : n < 4294967296) (h : bytesS m = bytesS n) : m = n := by
  unfold bytesS at h
  simp only [List.cons.injEq, and_true] at h
  obtain ⟨h0, h1, h2, h3⟩ := h
  have h0 := congrArg UInt8.toNat h0
  have h1 := congrArg UInt8.toNat h1
  have h2 := congrArg UInt8.toNat h2
  have h3 := congrArg UInt8.toNat h3
  simp only [byt_toNat] at h0 h1 h2 h3
  omega

theorem fits_seal (l : List UInt8) : fitsS (sealS l) = true := by
  unfold fitsS sealS
  have e : (l ++ bytesS (sumS l)).length - 4 = l.length := by simp [bytes_len]
  rw [decide_eq_true_eq, e]
  exact ⟨by simp [bytes_len], by rw [List.drop_left, List.take_left]⟩
theorem fits_append (a b : List UInt8) (h : b.length = 4) : fitsS (a ++ b) = decide (b = bytesS (sumS a)) := by
  unfold fitsS
  have e : (a ++ b).length - 4 = a.length := by simp [h]
  rw [e, List.drop_left, List.take_left]
  have : 4 ≤ (a ++ b).length := by simp [h]
  simp only [this, true_and]
theorem fits_flip (l : List UInt8) (k : Nat) (c : UInt8) (hk : k < (sealS l).length) (hc : c ≠ (sealS l)[k]) : fitsS ((sealS l).set k c) = false := by
  unfold sealS at hc hk ⊢
  by_cases h : k < l.length
  · rw [List.set_append_left _ _ h, fits_append _ _ (bytes_len _), decide_eq_false_iff_not]
    intro e
    have e := bytes_inj (addS_lt 0 _) (addS_lt 0 _) e
    rw [List.getElem_append_left h] at hc
    have hs : l.set k c = l.take k ++ c :: l.drop (k + 1) := by rw [List.set_eq_take_append_cons_drop, if_pos h]
    have hl : l = l.take k ++ l[k] :: l.drop (k + 1) := by rw [← List.drop_eq_getElem_cons h, List.take_append_drop]
    rw [hs] at e
    have e2 : sumS (l.take k ++ l[k] :: l.drop (k + 1)) = sumS (l.take k ++ c :: l.drop (k + 1)) := by rw [← hl]; exact e
    exact hc (sum_set _ _ _ _ e2).symm
  · have hk' : k - l.length < 4 := by simp [bytes_len] at hk; omega
    rw [List.set_append_right _ _ (by omega), fits_append _ _ (by simp [bytes_len]), decide_eq_false_iff_not]
    intro e
    rw [List.getElem_append_right (by omega)] at hc
    have := congrArg (fun m => m[k - l.length]?) e
    simp only [List.getElem?_set_self (show k - l.length < (bytesS (sumS l)).length from hk'), List.getElem?_eq_getElem (show k - l.length < (bytesS (sumS l)).length from hk'), Option.some.injEq] at this
    exact hc this

/- A number out of its bytes. -/
def numS (l : List UInt8) : Nat := l.foldr (fun c n => c.toNat + 256 * n) 0
theorem num_bytes (n : Nat) (h : n < 4294967296) : numS (bytesS n) = n := by
  unfold numS bytesS
  simp only [List.foldr_cons, List.foldr_nil, byt_toNat]
  omega
theorem bytes_num (a b c d : UInt8) : bytesS (numS [a, b, c, d]) = [a, b, c, d] := by
  have ha := byte_lt a
  have hb := byte_lt b
  have hc := byte_lt c
  have hd := byte_lt d
  have e : ∀ (m : Nat) (x : UInt8), m % 256 = x.toNat → byt m = x := fun m x h => UInt8.toNat.inj (by rw [byt_toNat, h])
  unfold bytesS numS
  simp only [List.foldr_cons, List.foldr_nil]
  rw [e _ a (by omega), e _ b (by omega), e _ c (by omega), e _ d (by omega)]
end Go.Proofs.YtghpohiinnallaaGreatDoor.Crc

/-
  The operators of numbers of 32 and of 8 bits, in the walk's spelling.
-/
namespace Go.Proofs.YtghpohiinnallaaGreatDoor.Crc
open Go.RowKit

theorem ret_int {k : IntKind} {a b : Int} (h : a = b) : Ending.returned (.int k a) = .returned (.int k b) := by rw [h]
theorem int_eq {k : IntKind} {a b : Int} (h : a = b) : Value.int k a = .int k b := by rw [h]
abbrev bl (s : ByteArray) : List UInt8 := s.data.toList
abbrev ba (l : List UInt8) : ByteArray := ⟨l.toArray⟩
theorem take_snoc (s : ByteArray) (k : Nat) (h : k < s.size) : (bl s).take (k + 1) = (bl s).take k ++ [s[k]] := by
  rw [List.take_succ_eq_append_getElem (by simpa using h)]; rfl

theorem and1 (x : Nat) (h : x < 4294967296) : bits .and .u32 (x : Int) 1 = ((x % 2 : Nat) : Int) := by
  have := u32_and_nat x 1 h (by decide)
  rw [Nat.and_one_is_mod] at this
  exact this
theorem xorP (x : Nat) (h : x < 4294967296) : bits .xor .u32 ((x : Int) / 2) 2197175160 = (((x / 2) ^^^ 2197175160 : Nat) : Int) := by
  have := u32_xor_nat (x / 2) 2197175160 (by omega) (by decide)
  exact this
theorem odd_t (x : Nat) (h : x < 4294967296) (hp : x % 2 = 1) : (bits BinOp.and IntKind.u32 (x : Int) 1 == 1) = true := by rw [and1 x h, hp]; rfl
theorem odd_f (x : Nat) (h : x < 4294967296) (hp : ¬ x % 2 = 1) : (bits BinOp.and IntKind.u32 (x : Int) 1 == 1) = false := by
  rw [and1 x h, show x % 2 = 0 by omega]; rfl
theorem inv_nat (n : Nat) (h : n < 4294967296) : 4294967295 ^^^ n = 4294967295 - n := by
  have e : (BitVec.allOnes 32 ^^^ BitVec.ofNat 32 n) = ~~~ BitVec.ofNat 32 n := by rw [BitVec.allOnes_xor]
  have e := congrArg BitVec.toNat e
  rw [BitVec.toNat_xor, BitVec.toNat_not, BitVec.toNat_ofNat, Nat.mod_eq_of_lt h] at e
  exact e
theorem inv32 (n : Nat) (h : n < 4294967296) : bits .xor .u32 4294967295 (n : Int) = ((4294967295 - n : Nat) : Int) := by
  have := u32_xor_nat 4294967295 n (by decide) h
  rw [inv_nat n h] at this
  exact this
theorem invM (n : Nat) (h : n < 4294967296) : bits .xor .u32 IntKind.u32.max (n : Int) = ((4294967295 - n : Nat) : Int) := inv32 n h

set_option maxHeartbeats 400000 in
theorem shift_any (n : Nat) (w : World) (hn : n < 4294967296) :
    Calls Tryz.prog 162 #[.int .u32 n] w fun e w' => e = .returned (.int .u32 (steps 8 n)) ∧ w = w' := by
  go_enter Tryz.func162, Tryz.ntmps162
  go_wp2
  go_loop [0, 3, 4] (fun x _ i => ∃ k : Nat, k ≤ 8 ∧ i = .int .i64 k ∧ x = .int .u32 (steps k n)) (fun _ _ i => 8 - (intOf i).toNat)
  case atStart => exact ⟨0, by omega, rfl, rfl⟩
  case round =>
    obtain ⟨k, hk, rfl, rfl⟩ := hrel
    have hlt := steps_lt hn k
    by_cases hk8 : k < 8
    · obtain ⟨x, hx⟩ : ∃ x, steps k n = x := ⟨_, rfl⟩
      have HX : Hid (steps (k + 1) n = step x) := by show step (steps k n) = step x; rw [hx]
      rw [hx] at hlt ⊢
      clear hx
      by_cases hp : x % 2 = 1
      · have ht := odd_t x hlt hp
        have HP : Hid (bits .xor .u32 ((x : Int) / 2) 2197175160 = ((step x : Nat) : Int)) := by
          show bits .xor .u32 ((x : Int) / 2) 2197175160 = ((step x : Nat) : Int)
          rw [xorP x hlt]; unfold step; rw [if_pos hp]
        clear hp
        go_wp2
        go_round
        case rel => exact ⟨k + 1, by omega, by go_num, by rw [HX.out, HP.out]⟩
        case measure => simp [intOf]; omega
      · have ht := odd_f x hlt hp
        have HP : Hid ((x : Int) / 2 = ((step x : Nat) : Int)) := by
          show (x : Int) / 2 = ((step x : Nat) : Int)
          unfold step; rw [if_neg hp]; rfl
        clear hp
        go_wp2
        go_round
        case rel => exact ⟨k + 1, by omega, by go_num, by rw [HX.out, HP.out]⟩
        case measure => simp [intOf]; omega
    · obtain rfl : k = 8 := by omega
      go_wp2
      go_ret
      exact ⟨rfl, rfl⟩
theorem shift_xor (x c : Nat) (w : World) (hx : x < 4294967296) (hc : c < 256) :
    Calls Tryz.prog 162 #[.int .u32 (bits .xor .u32 (x : Int) (c : Int))] w fun e w' => e = .returned (.int .u32 (steps 8 (x ^^^ c))) ∧ w = w' := by
  rw [u32_xor_nat x c hx (by omega)]
  exact shift_any _ w (xor_lt32 hx (by omega))
end Go.Proofs.YtghpohiinnallaaGreatDoor.Crc

/-
  Walks of the bytes: Number, the document's Bytes.
-/
namespace Go.Proofs.YtghpohiinnallaaGreatDoor.Crc
open Go.RowKit

theorem or_up (x y k : Nat) (hx : x < 2 ^ k) : x ||| y * 2 ^ k = x + y * 2 ^ k := by
  rw [Nat.or_comm, ← Nat.shiftLeft_eq, ← Nat.shiftLeft_add_eq_or_of_lt hx, Nat.add_comm]
theorem or_b0 (a : Nat) (h : a < 256) : bits .or .u32 0 (a : Int) = (a : Int) := by
  have := u32_or_nat 0 a (by decide) (by omega)
  rw [Nat.zero_or] at this
  exact this
theorem or_b1 (a b : Nat) (ha : a < 256) (hb : b < 256) : bits .or .u32 (a : Int) ((b : Int) * 256) = ((a + 256 * b : Nat) : Int) := by
  have := u32_or_nat a (b * 256) (by omega) (by omega)
  rw [or_up a b 8 ha] at this
  rw [show (b : Int) * 256 = ((b * 256 : Nat) : Int) by omega, this]
  omega
theorem or_b2 (a b : Nat) (ha : a < 65536) (hb : b < 256) : bits .or .u32 (a : Int) ((b : Int) * 65536) = ((a + 65536 * b : Nat) : Int) := by
  have := u32_or_nat a (b * 65536) (by omega) (by omega)
  rw [or_up a b 16 ha] at this
  rw [show (b : Int) * 65536 = ((b * 65536 : Nat) : Int) by omega, this]
  omega
theorem or_b3 (a b : Nat) (ha : a < 16777216) (hb : b < 256) : bits .or .u32 (a : Int) ((b : Int) * 16777216) = ((a + 16777216 * b : Nat) : Int) := by
  have := u32_or_nat a (b * 16777216) (by omega) (by omega)
  rw [or_up a b 24 ha] at this
  rw [show (b : Int) * 16777216 = ((b * 16777216 : Nat) : Int) by omega, this]
  omega

set_option maxHeartbeats 400000 in
theorem number_no (s : ByteArray) (w : World) (hs : s.size ≤ 100000) (h4 : s.size < 4 ∨ 4 < s.size) :
    Calls Tryz.prog 146 #[.string s] w fun e w' => e = .returned (.tuple #[.int .u32 0, .int .i64 4]) ∧ w = w' := by
  rcases h4 with h4 | h4
  all_goals
    go_enter Tryz.func146, Tryz.ntmps146
    go_wp2
    go_ret2
    exact ⟨rfl, rfl⟩

def NumAt (p q r t : Nat) (x i : Value) : Prop :=
  (i = .int .i64 0 ∧ x = .int .u32 0) ∨ (i = .int .i64 1 ∧ x = .int .u32 p) ∨ (i = .int .i64 2 ∧ x = .int .u32 q) ∨ (i = .int .i64 3 ∧ x = .int .u32 r) ∨ (i = .int .i64 4 ∧ x = .int .u32 t)

set_option maxHeartbeats 400000 in
theorem number_at (s : ByteArray) (w : World) (h1 : 4 ≤ s.size) (h2 : s.size ≤ 4) (p q r t : Nat) (HP : Hid (s[0].toNat = p)) (HQ : Hid (p + 256 * s[1].toNat = q)) (HR : Hid (q + 65536 * s[2].toNat = r)) (HT : Hid (r + 16777216 * s[3].toNat = t)) :
    Calls Tryz.prog 146 #[.string s] w fun e w' => e = .returned (.tuple #[.int .u32 t, .int .i64 0]) ∧ w = w' := by
  have b0 := byte_lt s[0]
  have b1 := byte_lt s[1]
  have b2 := byte_lt s[2]
  have b3 := byte_lt s[3]
  have hp : p < 256 := by have := HP.out; omega
  have hq : q < 65536 := by have := HQ.out; omega
  have hr : r < 16777216 := by have := HR.out; omega
  have E0 : Hid (bits .or .u32 0 (s[0].toNat : Int) = (p : Int)) := by
    show bits .or .u32 0 (s[0].toNat : Int) = (p : Int)
    rw [or_b0 _ b0, HP.out]
  have E1 : Hid (bits .or .u32 (p : Int) ((s[1].toNat : Int) * 256) = (q : Int)) := by
    show bits .or .u32 (p : Int) ((s[1].toNat : Int) * 256) = (q : Int)
    rw [or_b1 _ _ hp b1, HQ.out]
  have E2 : Hid (bits .or .u32 (q : Int) ((s[2].toNat : Int) * 65536) = (r : Int)) := by
    show bits .or .u32 (q : Int) ((s[2].toNat : Int) * 65536) = (r : Int)
    rw [or_b2 _ _ hq b2, HR.out]
  have E3 : Hid (bits .or .u32 (r : Int) ((s[3].toNat : Int) * 16777216) = (t : Int)) := by
    show bits .or .u32 (r : Int) ((s[3].toNat : Int) * 16777216) = (t : Int)
    rw [or_b3 _ _ hr b3, HT.out]
  clear HP HQ HR HT
  have hne : ((s.size : Int) != 4) = false := by simp; omega
  go_enter Tryz.func146, Tryz.ntmps146
  go_wp2
  go_loop [4, 5, 9] (fun x _ i => NumAt p q r t x i) (fun _ _ i => 4 - (intOf i).toNat)
  case atStart => exact .inl ⟨rfl, rfl⟩
  case round =>
    rcases hrel with ⟨rfl, rfl⟩ | ⟨rfl, rfl⟩ | ⟨rfl, rfl⟩ | ⟨rfl, rfl⟩ | ⟨rfl, rfl⟩
    · have hz : 0 < s.size := by omega
      go_wp2
      go_round
      case rel => exact .inr (.inl ⟨rfl, int_eq E0.out⟩)
      case measure => simp [intOf]
    · have hz : 1 < s.size := by omega
      go_wp2
      go_round
      case rel => exact .inr (.inr (.inl ⟨rfl, int_eq E1.out⟩))
      case measure => simp [intOf]
    · have hz : 2 < s.size := by omega
      go_wp2
      go_round
      case rel => exact .inr (.inr (.inr (.inl ⟨rfl, int_eq E2.out⟩)))
      case measure => simp [intOf]
    · have hz : 3 < s.size := by omega
      go_wp2
      go_round
      case rel => exact .inr (.inr (.inr (.inr ⟨rfl, int_eq E3.out⟩)))
      case measure => simp [intOf]
    · go_wp2
      go_ret2
      exact ⟨rfl, rfl⟩
theorem number_yes (s : ByteArray) (w : World) (h4 : s.size = 4) :
    Calls Tryz.prog 146 #[.string s] w fun e w' => e = .returned (.tuple #[.int .u32 (numS (bl s)), .int .i64 0]) ∧ w = w' := by
  have e : bl s = [s[0], s[1], s[2], s[3]] := by
    apply List.ext_getElem
    · simp [h4]
    · intro i hi _
      have hi : i < 4 := by simpa [h4] using hi
      match i, hi with
      | 0, _ => rfl
      | 1, _ => rfl
      | 2, _ => rfl
      | 3, _ => rfl
  refine number_at s w (by omega) (by omega) _ _ _ _ (Lib.hid rfl) (Lib.hid rfl) (Lib.hid rfl) ?_
  show s[0].toNat + 256 * s[1].toNat + 65536 * s[2].toNat + 16777216 * s[3].toNat = numS (bl s)
  rw [e]
  unfold numS
  simp only [List.foldr_cons, List.foldr_nil]
  omega

/- The bytes of a row of four numbers that was just laid. -/
def fourB (a b c d : Int) : ByteArray := ⟨#[UInt8.ofNat a.toNat, UInt8.ofNat b.toNat, UInt8.ofNat c.toNat, UInt8.ofNat d.toNat]⟩
theorem four_laid (T : TypeId) (w : World) (a b c d : Int) : (convert 181 9 (.slice (some ⟨w.heap.size, 0, none⟩) 4 4)).run Tryz.prog (w.alloc (.cells #[.int .u8 a, .int .u8 b, .int .u8 c, .int .u8 d] T)) = .ok (.string (fourB a b c d)) (w.alloc (.cells #[.int .u8 a, .int .u8 b, .int .u8 c, .int .u8 d] T)) := by
  have hh : (w.alloc (.cells #[.int .u8 a, .int .u8 b, .int .u8 c, .int .u8 d] T)).heap[w.heap.size]? = some (.cells #[.int .u8 a, .int .u8 b, .int .u8 c, .int .u8 d] T) := by
    show (w.heap.push (.cells #[.int .u8 a, .int .u8 b, .int .u8 c, .int .u8 d] T))[w.heap.size]? = _
    simp
  have h := run_convert_bytes_arg (P := Tryz.prog) (w.alloc (.cells #[.int .u8 a, .int .u8 b, .int .u8 c, .int .u8 d] T)) 181 5 Tryz.underlying181 Tryz.underlying5 w.heap.size 0 4 4 [a, b, c, d] rfl (fun i hi => by
    simp only [World.cell?, hh]
    match i, hi with
    | 0, _ => rfl
    | 1, _ => rfl
    | 2, _ => rfl
    | 3, _ => rfl) 9 Tryz.underlying9
  exact h
def bytesB (n : Nat) : ByteArray := ba (bytesS n)
theorem bytesB_size (n : Nat) : (bytesB n).size = 4 := rfl
theorem bytesB_bl (n : Nat) : bl (bytesB n) = bytesS n := rfl
theorem byt_mod (n : Nat) : byt (n % 256) = byt n := UInt8.toNat.inj (by rw [byt_toNat, byt_toNat]; omega)
theorem fourB_bytes (n : Nat) : fourB ((n : Int) % 256) ((n : Int) / 256 % 256) ((n : Int) / 65536 % 256) ((n : Int) / 16777216) = bytesB n := by
  have e0 : ((n : Int) % 256).toNat = n % 256 := by omega
  have e1 : ((n : Int) / 256 % 256).toNat = n / 256 % 256 := by omega
  have e2 : ((n : Int) / 65536 % 256).toNat = n / 65536 % 256 := by omega
  have e3 : ((n : Int) / 16777216).toNat = n / 16777216 := by omega
  unfold fourB
  rw [e0, e1, e2, e3]
  show (⟨#[byt (n % 256), byt (n / 256 % 256), byt (n / 65536 % 256), byt (n / 16777216)]⟩ : ByteArray) = _
  rw [byt_mod, byt_mod, byt_mod]
  rfl
theorem ret_four (n : Nat) : Ending.returned (.string (fourB ((n : Int) % 256) ((n : Int) / 256 % 256) ((n : Int) / 65536 % 256) ((n : Int) / 16777216))) = .returned (.string (bytesB n)) := by rw [fourB_bytes]

set_option maxHeartbeats 400000 in
theorem refBytes_any (n : Nat) (w : World) (hn : n < 4294967296) :
    Calls Tryz.prog 137 #[.int .u32 n] w fun e w' => e = .returned (.string (bytesB n)) ∧ Below w.heap.size w w' := by
  have hone := four_laid 5
  go_enter Tryz.func137, Tryz.ntmps137
  go_wp2
  go_ret
  exact ⟨ret_four n, (Below.refl _ _).alloc (Nat.le_refl _) _⟩

def BytesAt (n : Nat) (w : World) (i : Value) (wr : World) : Prop :=
  (i = .int .i64 0 ∧ wr = w.alloc (.cells #[.int .u8 0, .int .u8 0, .int .u8 0, .int .u8 0] 223)) ∨
  (i = .int .i64 1 ∧ wr = w.alloc (.cells #[.int .u8 ((n : Int) % 256), .int .u8 0, .int .u8 0, .int .u8 0] 223)) ∨
  (i = .int .i64 2 ∧ wr = w.alloc (.cells #[.int .u8 ((n : Int) % 256), .int .u8 ((n : Int) / 256 % 256), .int .u8 0, .int .u8 0] 223)) ∨
  (i = .int .i64 3 ∧ wr = w.alloc (.cells #[.int .u8 ((n : Int) % 256), .int .u8 ((n : Int) / 256 % 256), .int .u8 ((n : Int) / 65536 % 256), .int .u8 0] 223)) ∨
  (i = .int .i64 4 ∧ wr = w.alloc (.cells #[.int .u8 ((n : Int) % 256), .int .u8 ((n : Int) / 256 % 256), .int .u8 ((n : Int) / 65536 % 256), .int .u8 ((n : Int) / 16777216)] 223))

set_option maxHeartbeats 400000 in
theorem bytes_any (n : Nat) (w : World) (hn : n < 4294967296) :
    Calls Tryz.prog 129 #[.int .u32 n] w fun e w' => e = .returned (.string (bytesB n)) ∧ Below w.heap.size w w' := by
  have hone := four_laid 223
  go_enter Tryz.func129, Tryz.ntmps129
  go_wp2
  go_loopw [4, 5] (fun _ i wr => BytesAt n w i wr) (fun _ i _ => 4 - (intOf i).toNat)
  case atStart => exact .inl ⟨rfl, rfl⟩
  case round =>
    rcases hrel with ⟨rfl, rfl⟩ | ⟨rfl, rfl⟩ | ⟨rfl, rfl⟩ | ⟨rfl, rfl⟩ | ⟨rfl, rfl⟩
    · go_wp2
      go_roundw
      case rel => exact .inr (.inl ⟨rfl, rfl⟩)
      case measure => simp [intOf]
    · go_wp2
      go_roundw
      case rel => exact .inr (.inr (.inl ⟨rfl, rfl⟩))
      case measure => simp [intOf]
    · go_wp2
      go_roundw
      case rel => exact .inr (.inr (.inr (.inl ⟨rfl, rfl⟩)))
      case measure => simp [intOf]
    · go_wp2
      go_roundw
      case rel => exact .inr (.inr (.inr (.inr ⟨rfl, rfl⟩)))
      case measure => simp [intOf]
    · go_wp2
      go_ret
      exact ⟨ret_four n, (Below.refl _ _).alloc (Nat.le_refl _) _⟩
end Go.Proofs.YtghpohiinnallaaGreatDoor.Crc

/-
  Walks of the program's own sums: Add, Sum.
-/
namespace Go.Proofs.YtghpohiinnallaaGreatDoor.Crc
open Go.RowKit

set_option maxHeartbeats 400000 in
theorem add_any (n : Nat) (s : ByteArray) (w : World) (hn : n < 4294967296) (hs : s.size ≤ 100000) :
    Calls Tryz.prog 151 #[.int .u32 n, .string s] w fun e w' => e = .returned (.int .u32 (addS n (bl s))) ∧ w = w' := by
  have HI := Lib.hid (invM n hn)
  go_enter Tryz.func151, Tryz.ntmps151
  go_wp2
  go_loop [5, 6, 11] (fun x _ i => ∃ k : Nat, k ≤ s.size ∧ i = .int .i64 k ∧ x = .int .u32 (run (4294967295 - n) ((bl s).take k))) (fun _ _ i => s.size - (intOf i).toNat)
  case atStart => exact ⟨0, Nat.zero_le _, rfl, by rw [HI.out]; rfl⟩
  case round =>
    obtain ⟨k, hk, rfl, rfl⟩ := hrel
    have hlt := run_lt ((bl s).take k) (x := 4294967295 - n) (by omega)
    by_cases hks : k < s.size
    · have HS : Hid (run (4294967295 - n) ((bl s).take (k + 1)) = addB (run (4294967295 - n) ((bl s).take k)) s[k]) := by
        show run (4294967295 - n) ((bl s).take (k + 1)) = addB (run (4294967295 - n) ((bl s).take k)) s[k]
        rw [take_snoc s k hks, run_snoc]
      have hb := byte_lt s[k]
      go_wp2_with (go_at_call 162; refine (shift_xor _ _ _ (by omega) (by omega)).mono ?_; rintro e w' ⟨rfl, rfl⟩)
      go_round
      case rel => exact ⟨k + 1, by omega, by go_num, by rw [HS.out]; rfl⟩
      case measure => simp [intOf]; omega
    · have HE : Hid (addS n (bl s) = 4294967295 - run (4294967295 - n) ((bl s).take k)) := by
        show addS n (bl s) = 4294967295 - run (4294967295 - n) ((bl s).take k)
        rw [List.take_of_length_le (by simp; omega)]; rfl
      have HI2 := Lib.hid (invM _ hlt)
      go_wp2
      go_ret
      exact ⟨ret_int (by rw [HE.out, HI2.out]), rfl⟩
theorem add_0 (s : ByteArray) (w : World) (hs : s.size ≤ 100000) :
    Calls Tryz.prog 151 #[.int .u32 0, .string s] w fun e w' => e = .returned (.int .u32 (sumS (bl s))) ∧ w = w' := add_any 0 s w (by decide) hs
theorem sum_any (s : ByteArray) (w : World) (hs : s.size ≤ 100000) :
    Calls Tryz.prog 130 #[.string s] w fun e w' => e = .returned (.int .u32 (sumS (bl s))) ∧ w = w' := by
  go_enter Tryz.func130, Tryz.ntmps130
  go_wp2_with (go_at_call 151; refine (add_0 _ _ (by omega)).mono ?_; rintro e w' ⟨rfl, rfl⟩)
  go_ret
  exact ⟨rfl, rfl⟩
end Go.Proofs.YtghpohiinnallaaGreatDoor.Crc
