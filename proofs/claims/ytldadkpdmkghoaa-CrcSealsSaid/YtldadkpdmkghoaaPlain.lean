/-
  The checksum over numbers and lists of bytes, without the program: one step, eight steps, a byte, a list; its bytes; that one changed byte is seen.
-/
namespace Go.Proofs.Ytldadkpdmkghoaa

def pol : Nat := 2197175160
def top : Nat := 4294967295
def step (x : Nat) : Nat := if x % 2 = 1 then (x / 2) ^^^ 2197175160 else x / 2
def steps : Nat → Nat → Nat
  | 0, x => x
  | k + 1, x => step (steps k x)
def addB (x : Nat) (c : UInt8) : Nat := steps 8 (x ^^^ c.toNat)
def run (x : Nat) (l : List UInt8) : Nat := l.foldl addB x
def addS (x : Nat) (l : List UInt8) : Nat := 4294967295 - run (4294967295 - x) l
def sumS (l : List UInt8) : Nat := addS 0 l
def byt (n : Nat) : UInt8 := UInt8.ofNat n
def bytesS (n : Nat) : List UInt8 := [byt n, byt (n / 256), byt (n / 65536), byt (n / 16777216)]
def sealS (l : List UInt8) : List UInt8 := l ++ bytesS (sumS l)
def fitsS (l : List UInt8) : Bool := decide (4 ≤ l.length ∧ l.drop (l.length - 4) = bytesS (sumS (l.take (l.length - 4))))

theorem xor_lt32 {a b : Nat} (ha : a < 4294967296) (hb : b < 4294967296) : a ^^^ b < 4294967296 := Nat.xor_lt_two_pow (n := 32) ha hb
theorem step_lt {x : Nat} (h : x < 4294967296) : step x < 4294967296 := by
  unfold step
  split
  · exact xor_lt32 (by omega) (by decide)
  · omega
theorem steps_lt {x : Nat} (h : x < 4294967296) : ∀ k, steps k x < 4294967296
  | 0 => h
  | k + 1 => step_lt (steps_lt h k)
theorem byte_lt (c : UInt8) : c.toNat < 256 := c.toNat_lt
theorem addB_lt {x : Nat} (h : x < 4294967296) (c : UInt8) : addB x c < 4294967296 :=
  steps_lt (xor_lt32 h (by have := byte_lt c; omega)) 8
theorem run_lt : ∀ (l : List UInt8) {x : Nat}, x < 4294967296 → run x l < 4294967296
  | [], _, h => h
  | c :: l, _, h => run_lt l (addB_lt h c)
theorem run_snoc (x : Nat) (l : List UInt8) (c : UInt8) : run x (l ++ [c]) = addB (run x l) c := by
  unfold run; rw [List.foldl_append]; rfl
theorem run_append (x : Nat) (l m : List UInt8) : run x (l ++ m) = run (run x l) m := by
  unfold run; rw [List.foldl_append]
theorem addS_lt (x : Nat) (l : List UInt8) : addS x l < 4294967296 := by unfold addS; omega
theorem addS_nil (x : Nat) (h : x < 4294967296) : addS x [] = x := by unfold addS run; simp only [List.foldl_nil]; omega
theorem sum_append (l m : List UInt8) : sumS (l ++ m) = addS (sumS l) m := by
  have h := run_lt l (x := 4294967295 - 0) (by decide)
  unfold sumS addS
  rw [run_append]
  rw [show 4294967295 - (4294967295 - run (4294967295 - 0) l) = run (4294967295 - 0) l by omega]

/- The document's answer takes a byte's bits one by one. -/
def rstep (x c : Nat) : Nat := if (x + c) % 2 = 1 then (x / 2) ^^^ 2197175160 else x / 2
theorem xor_mod2 (x c : Nat) : (x ^^^ c) % 2 = (x + c) % 2 := by

  have h' : (x ^^^ c) % 2 = 1 ↔ ¬ (x % 2 = 1 ↔ c % 2 = 1) := by simp
  rcases Nat.mod_two_eq_zero_or_one (x ^^^ c) with e | e
  · have g : ¬ ¬ (x % 2 = 1 ↔ c % 2 = 1) := fun k => by have := h'.2 k; omega
    have g := Classical.not_not.1 g
    by_cases hx : x % 2 = 1
    · have := g.1 hx; omega
    · have : ¬ c % 2 = 1 := fun k => hx (g.2 k)
      omega
  · have g := h'.1 e
    by_cases hx : x % 2 = 1
    · have : ¬ c % 2 = 1 := fun k => g ⟨fun _ => k, fun _ => hx⟩
      omega
    · have : c % 2 = 1 := Classical.byContradiction fun k => g ⟨fun j => absurd j hx, fun j => absurd j k⟩
      omega
theorem xor_half (x c : Nat) : (x ^^^ c) / 2 = (x / 2) ^^^ (c / 2) := by
  have h := Nat.shiftRight_xor_distrib (a := x) (b := c) (i := 1)
  simpa [Nat.shiftRight_eq_div_pow] using h
theorem step_xor (x c : Nat) : step (x ^^^ c) = rstep x c ^^^ (c / 2) := by
  unfold step rstep
  rw [xor_mod2, xor_half]
  split
  · rw [Nat.xor_assoc, Nat.xor_comm (c / 2), ← Nat.xor_assoc]
  · rfl
/-- The number behind k bits of the byte. -/
def rsteps : Nat → Nat → Nat → Nat
  | 0, x, _ => x
  | k + 1, x, c => rstep (rsteps k x c) (c / 2 ^ k)
theorem rsteps_xor (x c : Nat) : ∀ k, steps k (x ^^^ c) = rsteps k x c ^^^ (c / 2 ^ k)
  | 0 => by simp [steps, rsteps]
  | k + 1 => by
    show step (steps k (x ^^^ c)) = rstep (rsteps k x c) (c / 2 ^ k) ^^^ (c / 2 ^ (k + 1))
    rw [rsteps_xor x c k, step_xor, Nat.pow_succ, Nat.div_div_eq_div_mul]
theorem rsteps_byte (x : Nat) (c : UInt8) : rsteps 8 x c.toNat = addB x c := by
  have h := rsteps_xor x c.toNat 8
  have h0 : c.toNat / 2 ^ 8 = 0 := Nat.div_eq_of_lt (byte_lt c)
  rw [h0, Nat.xor_zero] at h
  exact h.symm
theorem rstep_lt {x c : Nat} (h : x < 4294967296) : rstep x c < 4294967296 := by
  unfold rstep
  split
  · exact xor_lt32 (by omega) (by decide)
  · omega
theorem rsteps_lt {x c : Nat} (h : x < 4294967296) : ∀ k, rsteps k x c < 4294967296
  | 0 => h
  | k + 1 => rstep_lt (rsteps_lt h k)

/- One to one. -/
theorem half_xor_top {x : Nat} (h : x < 4294967296) : 2147483648 ≤ (x / 2) ^^^ 2197175160 := by
  have e : ((x / 2) ^^^ 2197175160) / 2147483648 = (x / 2) / 2147483648 ^^^ 2197175160 / 2147483648 := by
    have h := Nat.shiftRight_xor_distrib (a := x / 2) (b := 2197175160) (i := 31)
    simpa [Nat.shiftRight_eq_div_pow] using h
  rw [Nat.div_eq_of_lt (show x / 2 < 2147483648 by omega)] at e
  have e2 : (0 ^^^ 2197175160 / 2147483648 : Nat) = 1 := by decide
  rw [e2] at e
  omega
theorem xor_cancel {a b c : Nat} (h : a ^^^ c = b ^^^ c) : a = b := by
  have := congrArg (· ^^^ c) h
  simpa [Nat.xor_assoc] using this
theorem step_inj {x y : Nat} (hx : x < 4294967296) (hy : y < 4294967296) (h : step x = step y) : x = y := by
  have tx := half_xor_top hx
  have ty := half_xor_top hy
  unfold step at h
  split at h <;> split at h
  · have := xor_cancel h; omega
  · omega
  · omega
  · omega
theorem steps_inj {x y : Nat} (hx : x < 4294967296) (hy : y < 4294967296) : ∀ k, steps k x = steps k y → x = y
  | 0, h => h
  | k + 1, h => steps_inj hx hy k (step_inj (steps_lt hx k) (steps_lt hy k) h)
theorem addB_inj {x y : Nat} (hx : x < 4294967296) (hy : y < 4294967296) (c : UInt8) (h : addB x c = addB y c) : x = y :=
  have hc := byte_lt c
  xor_cancel (steps_inj (xor_lt32 hx (by omega)) (xor_lt32 hy (by omega)) 8 h)
theorem addB_byte {x : Nat} (hx : x < 4294967296) (c d : UInt8) (h : addB x c = addB x d) : c = d := by
  have hc := byte_lt c
  have hd := byte_lt d
  have e := steps_inj (xor_lt32 hx (by omega)) (xor_lt32 hx (by omega)) 8 h
  rw [Nat.xor_comm x, Nat.xor_comm x] at e
  exact UInt8.toNat.inj (xor_cancel e)
theorem run_inj : ∀ (l : List UInt8) {x y : Nat}, x < 4294967296 → y < 4294967296 → run x l = run y l → x = y
  | [], _, _, _, _, h => h
  | c :: l, _, _, hx, hy, h => addB_inj hx hy c (run_inj l (addB_lt hx c) (addB_lt hy c) h)
theorem run_set {x : Nat} (hx : x < 4294967296) (a b : List UInt8) (c d : UInt8) (h : run x (a ++ c :: b) = run x (a ++ d :: b)) : c = d := by
  rw [run_append, run_append] at h
  have ha := run_lt a hx
  exact addB_byte ha c d (run_inj b (addB_lt ha c) (addB_lt ha d) h)
theorem sum_set (a b : List UInt8) (c d : UInt8) (h : sumS (a ++ c :: b) = sumS (a ++ d :: b)) : c = d := by
  unfold sumS addS at h
  have h1 := run_lt (a ++ c :: b) (x := 4294967295 - 0) (by decide)
  have h2 := run_lt (a ++ d :: b) (x := 4294967295 - 0) (by decide)
  exact run_set (x := 4294967295 - 0) (by decide) a b c d (by omega)

theorem byt_toNat (n : Nat) : (byt n).toNat = n % 256 := by unfold byt; simp
theorem bytes_len (n : Nat) : (bytesS n).length = 4 := rfl
theorem bytes_inj {m n : Nat} (hm : m < 4294967296) (hn : n < 4294967296) (h : bytesS m = bytesS n) : m = n := by
  unfold bytesS at h
  simp only [List.cons.injEq, and_true] at h
  obtain ⟨h0, h1, h2, h3⟩ := h
  have h0 := congrArg UInt8.toNat h0
  have h1 := congrArg UInt8.toNat h1
  have h2 := congrArg UInt8.toNat h2
  have h3 := congrArg UInt8.toNat h3
  simp only [byt_toNat] at h0 h1 h2 h3
  omega

theorem fits_seal (l : List UInt8) : fitsS (sealS l) = true := by
  unfold fitsS sealS
  have e : (l ++ bytesS (sumS l)).length - 4 = l.length := by simp [bytes_len]
  rw [decide_eq_true_eq, e]
  exact ⟨by simp [bytes_len], by rw [List.drop_left, List.take_left]⟩
theorem fits_append (a b : List UInt8) (h : b.length = 4) : fitsS (a ++ b) = decide (b = bytesS (sumS a)) := by
  unfold fitsS
  have e : (a ++ b).length - 4 = a.length := by simp [h]
  rw [e, List.drop_left, List.take_left]
  have : 4 ≤ (a ++ b).length := by simp [h]
  simp only [this, true_and]
theorem fits_flip (l : List UInt8) (k : Nat) (c : UInt8) (hk : k < (sealS l).length) (hc : c ≠ (sealS l)[k]) : fitsS ((sealS l).set k c) = false := by
  unfold sealS at hc hk ⊢
  by_cases h : k < l.length
  · rw [List.set_append_left _ _ h, fits_append _ _ (bytes_len _), decide_eq_false_iff_not]
    intro e
    have e := bytes_inj (addS_lt 0 _) (addS_lt 0 _) e
    rw [List.getElem_append_left h] at hc
    have hs : l.set k c = l.take k ++ c :: l.drop (k + 1) := by rw [List.set_eq_take_append_cons_drop, if_pos h]
    have hl : l = l.take k ++ l[k] :: l.drop (k + 1) := by rw [← List.drop_eq_getElem_cons h, List.take_append_drop]
    rw [hs] at e
    have e2 : sumS (l.take k ++ l[k] :: l.drop (k + 1)) = sumS (l.take k ++ c :: l.drop (k + 1)) := by rw [← hl]; exact e
    exact hc (sum_set _ _ _ _ e2).symm
  · have hk' : k - l.length < 4 := by simp [bytes_len] at hk; omega
    rw [List.set_append_right _ _ (by omega), fits_append _ _ (by simp [bytes_len]), decide_eq_false_iff_not]
    intro e
    rw [List.getElem_append_right (by omega)] at hc
    have := congrArg (fun m => m[k - l.length]?) e
    simp only [List.getElem?_set_self (show k - l.length < (bytesS (sumS l)).length from hk'), List.getElem?_eq_getElem (show k - l.length < (bytesS (sumS l)).length from hk'), Option.some.injEq] at this
    exact hc this

/- A number out of its bytes. -/
def numS (l : List UInt8) : Nat := l.foldr (fun c n => c.toNat + 256 * n) 0
theorem num_bytes (n : Nat) (h : n < 4294967296) : numS (bytesS n) = n := by
  unfold numS bytesS
  simp only [List.foldr_cons, List.foldr_nil, byt_toNat]
  omega
theorem bytes_num (a b c d : UInt8) : bytesS (numS [a, b, c, d]) = [a, b, c, d] := by
  have ha := byte_lt a
  have hb := byte_lt b
  have hc := byte_lt c
  have hd := byte_lt d
  have e : ∀ (m : Nat) (x : UInt8), m % 256 = x.toNat → byt m = x := fun m x h => UInt8.toNat.inj (by rw [byt_toNat, h])
  unfold bytesS numS
  simp only [List.foldr_cons, List.foldr_nil]
  rw [e _ a (by omega), e _ b (by omega), e _ c (by omega), e _ d (by omega)]
end Go.Proofs.Ytldadkpdmkghoaa
