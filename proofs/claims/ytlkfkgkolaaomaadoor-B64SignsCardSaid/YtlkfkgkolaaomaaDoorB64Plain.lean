/-
  Base64 in plain words, no program: letters, groups, lines, what is white; what any bytes are read as; and what follows of these.
-/
import Derived.Test.YtlkfkgkolaaomaaDoorCodePlain
import Derived.Lib.Hide
namespace Go.Proofs.YtlkfkgkolaaomaaDoor.B64
open Go.Proofs.YtlkfkgkolaaomaaDoor.Code

def d64 : List UInt8 := [65, 66, 67, 68, 69, 70, 71, 72, 73, 74, 75, 76, 77, 78, 79, 80, 81, 82, 83, 84, 85, 86, 87, 88, 89, 90, 97, 98, 99, 100, 101, 102, 103, 104, 105, 106, 107, 108, 109, 110, 111, 112, 113, 114, 115, 116, 117, 118, 119, 120, 121, 122, 48, 49, 50, 51, 52, 53, 54, 55, 56, 57, 43, 47]
theorem d64_len : d64.length = 64 := rfl
theorem d64_idx : ∀ n, n < 64 → d64.idxOf (digOf d64 n) = n := by decide +kernel
theorem all256 {p : Nat → Bool} (h : (List.range 256).all p = true) (n : Nat) (hn : n < 256) : p n = true := List.all_eq_true.1 h n (List.mem_range.2 hn)
theorem idx64 {c : UInt8} (h : d64.contains c = true) : d64.idxOf c < 64 := by
  rw [← d64_len]
  exact List.idxOf_lt_length_of_mem (by simpa using h)
theorem dig_in (n : Nat) (h : n < 64) : d64.contains (digOf d64 n) = true := by
  rw [← d64_len] at h
  unfold digOf
  rw [List.getD_eq_getElem?_getD, List.getElem?_eq_getElem h]
  simp

/-! What is white. -/
def wsB (c : UInt8) : Bool := c == 32 || (c == 9 || (c == 13 || c == 10))
def bareL (l : List UInt8) : List UInt8 := l.filter fun c => !wsB c
theorem bare_app (a b : List UInt8) : bareL (a ++ b) = bareL a ++ bareL b := List.filter_append ..
theorem bare_cons_in {c : UInt8} (t : List UInt8) (h : wsB c = false) : bareL (c :: t) = c :: bareL t := by
  unfold bareL
  rw [List.filter_cons, h]
  rfl
theorem bare_cons_out {c : UInt8} (t : List UInt8) (h : wsB c = true) : bareL (c :: t) = bareL t := by
  unfold bareL
  rw [List.filter_cons, h]
  rfl
theorem bare_len (l : List UInt8) : (bareL l).length ≤ l.length := List.length_filter_le ..
theorem in_not_ws {c : UInt8} (h : d64.contains c = true) : wsB c = false ∧ c ≠ 61 := by
  have := all256 (p := fun n => !d64.contains (UInt8.ofNat n) || (!wsB (UInt8.ofNat n) && !(UInt8.ofNat n == 61))) (by decide +kernel) c.toNat c.toNat_lt
  simp only [UInt8.ofNat_toNat, h, Bool.not_true, Bool.false_or, Bool.and_eq_true, Bool.not_eq_true', beq_eq_false_iff_ne] at this
  exact this

/-! The signs of bytes. -/
def padN (n : Nat) : Nat := (4 - elen 6 n % 4) % 4
def plainL (l : List UInt8) : List UInt8 := enc 6 d64 l ++ List.replicate (padN l.length) 61
/-- One group of four signs, of one to three bytes. -/
def grpL (g : List UInt8) : List UInt8 := (List.range 4).map fun i => if g.length < i then 61 else digOf d64 (sg (strL g) (6 * i) 6)
theorem grp_len (g : List UInt8) : (grpL g).length = 4 := rfl
theorem elen6 (n : Nat) : elen 6 (n + 3) = 4 + elen 6 n := by unfold elen; omega
theorem elen_le (n : Nat) : elen 6 n ≤ 2 * n + 1 := by unfold elen; omega
theorem pad3 (n : Nat) : padN (n + 3) = padN n := by unfold padN; rw [elen6]; omega
theorem pad_le (n : Nat) : padN n ≤ 3 := by unfold padN; omega
theorem plain_len (l : List UInt8) : (plainL l).length ≤ 2 * l.length + 4 := by
  unfold plainL
  rw [List.length_append, enc_len, List.length_replicate]
  have := elen_le l.length
  have := pad_le l.length
  omega
theorem strL_head (a b c : UInt8) (r : List UInt8) (i : Nat) (h : i < 24) : strL (a :: b :: c :: r) i = strL [a, b, c] i := by
  unfold strL strm
  have : i / 8 < 3 := by omega
  have e : byteAt (a :: b :: c :: r) (i / 8) = byteAt [a, b, c] (i / 8) := by
    generalize i / 8 = q at *
    match q, this with
    | 0, _ => rfl
    | 1, _ => rfl
    | 2, _ => rfl
  rw [e]
theorem strL_tail (a b c : UInt8) (r : List UInt8) (i : Nat) : strL (a :: b :: c :: r) (24 + i) = strL r i := by
  unfold strL strm
  rw [show (24 + i) / 8 = i / 8 + 3 by omega, show (24 + i) % 8 = i % 8 by omega]
  rfl
theorem sg_shift (f g : Nat → Nat) (d p : Nat) (h : ∀ i, f (d + i) = g i) : ∀ k, sg f (d + p) k = sg g p k
  | 0 => rfl
  | k + 1 => by
    show 2 * sg f (d + p) k + f (d + p + k) = 2 * sg g p k + g (p + k)
    rw [sg_shift f g d p h k, Nat.add_assoc, h]
theorem plain_nil : plainL [] = [] := rfl
theorem plain_cons (l : List UInt8) (h : l ≠ []) : plainL l = grpL (l.take 3) ++ plainL (l.drop 3) := by
  match l, h with
  | [a], _ =>
    show plainL [a] = grpL [a] ++ plainL []
    rw [plain_nil, List.append_nil]
    unfold plainL enc
    rw [show ([a] : List UInt8).length = 1 from rfl, show elen 6 1 = 2 by decide, show padN 1 = 2 by decide]
    rfl
  | [a, b], _ =>
    show plainL [a, b] = grpL [a, b] ++ plainL []
    rw [plain_nil, List.append_nil]
    unfold plainL enc
    rw [show ([a, b] : List UInt8).length = 2 from rfl, show elen 6 2 = 3 by decide, show padN 2 = 1 by decide]
    rfl
  | a :: b :: c :: r, _ =>
    show plainL (a :: b :: c :: r) = grpL [a, b, c] ++ plainL r
    unfold plainL
    have hl : (a :: b :: c :: r).length = r.length + 3 := rfl
    rw [← List.append_assoc, hl, pad3]
    congr 1
    unfold enc
    rw [hl, elen6, List.range_add, List.map_append, List.map_map]
    have e1 : (List.range 4).map (fun j => digOf d64 (sg (strL (a :: b :: c :: r)) (6 * j) 6)) = grpL [a, b, c] := by
      unfold grpL
      apply List.map_congr_left
      intro i hi
      have hi := List.mem_range.1 hi
      have hn : ¬ ([a, b, c] : List UInt8).length < i := by show ¬ 3 < i; omega
      rw [if_neg hn, sg_congr _ (strL [a, b, c]) _ _ fun j h1 h2 => strL_head a b c r j (by omega)]
    have e2 : (List.range (elen 6 r.length)).map ((fun j => digOf d64 (sg (strL (a :: b :: c :: r)) (6 * j) 6)) ∘ fun x => 4 + x) = (List.range (elen 6 r.length)).map (fun j => digOf d64 (sg (strL r) (6 * j) 6)) := by
      apply List.map_congr_left
      intro j _
      show digOf d64 (sg (strL (a :: b :: c :: r)) (6 * (4 + j)) 6) = _
      rw [show 6 * (4 + j) = 24 + 6 * j by omega, sg_shift _ (strL r) 24 (6 * j) (strL_tail a b c r)]
    rw [e1, e2]

/-! What is written is read. -/
theorem all_enc (l : List UInt8) : ∀ c ∈ enc 6 d64 l, d64.contains c = true := by
  intro c hc
  unfold enc at hc
  obtain ⟨j, _, rfl⟩ := List.mem_map.1 hc
  exact dig_in _ (sg_lt _ (strL_bit l) _ 6)
theorem vAt64 (l : List UInt8) (j : Nat) : vAt d64 (enc 6 d64 l) j = sg (strL l) (6 * j) 6 := by
  unfold vAt
  rw [enc_len]
  by_cases h : j < elen 6 l.length
  · rw [if_pos h, List.getD_eq_getElem?_getD, enc_get 6 d64 l j h]
    exact d64_idx _ (sg_lt _ (strL_bit l) _ 6)
  · rw [if_neg h, sg_nil]
    intro i h1 _
    refine strL_out l i ?_
    unfold elen at h
    omega
theorem strV64 (l : List UInt8) : strV 6 d64 (enc 6 d64 l) = strL l := by
  funext i
  exact strm_sg 6 (by decide) (strL l) (strL_bit l) _ i (vAt64 l _)
theorem out64 (l : List UInt8) : outB 6 d64 (enc 6 d64 l) = l := by
  unfold outB
  have hb : 6 * elen 6 l.length / 8 = l.length := by unfold elen; omega
  rw [strV64, enc_len, hb]
  apply List.ext_getElem?
  intro j
  by_cases h : j < l.length
  · rw [List.getElem?_map, List.getElem?_range h, List.getElem?_eq_getElem h]
    simp only [Option.map_some]
    rw [strL_byte, byt_byteAt l j h]
  · rw [List.getElem?_eq_none (by simp; omega), List.getElem?_eq_none (by omega)]
/-- The letters alone. -/
def letL (t : List UInt8) : List UInt8 := t.filter fun c => d64.contains c
theorem let_len (l : List UInt8) : (letL l).length ≤ l.length := List.length_filter_le ..
theorem let_in {c : UInt8} (t : List UInt8) (h : d64.contains c = true) : letL (c :: t) = c :: letL t := by
  unfold letL
  rw [List.filter_cons, h]
  rfl
theorem let_out {c : UInt8} (t : List UInt8) (h : d64.contains c = false) : letL (c :: t) = letL t := by
  unfold letL
  rw [List.filter_cons, h]
  rfl
/-- Without what fills up at the end. -/
def trimL (t : List UInt8) : List UInt8 := (t.reverse.dropWhile fun c => c == 61).reverse
theorem trim_nil : trimL [] = [] := rfl
theorem trim_pad (t : List UInt8) : trimL (t ++ [61]) = trimL t := by
  unfold trimL
  rw [List.reverse_append]
  rfl
theorem trim_end (t : List UInt8) {c : UInt8} (h : c ≠ 61) : trimL (t ++ [c]) = t ++ [c] := by
  unfold trimL
  rw [List.reverse_append]
  show (List.dropWhile _ (c :: t.reverse)).reverse = _
  rw [List.dropWhile_cons_of_neg (by simpa using h), List.reverse_cons, List.reverse_reverse]
theorem trim_pads (t : List UInt8) : ∀ k, trimL (t ++ List.replicate k 61) = trimL t
  | 0 => by simp
  | k + 1 => by rw [List.replicate_succ', ← List.append_assoc, trim_pad, trim_pads t k]
theorem trim_in (t : List UInt8) (h : ∀ c ∈ t, c ≠ 61) : trimL t = t := by
  rcases List.eq_nil_or_concat t with rfl | ⟨q, c, rfl⟩
  · rfl
  · rw [List.concat_eq_append] at h ⊢
    exact trim_end q (h c (by simp))
theorem trim_len (t : List UInt8) : (trimL t).length ≤ t.length := by
  unfold trimL
  rw [List.length_reverse]
  have := (List.dropWhile_suffix (l := t.reverse) (fun c : UInt8 => c == 61)).length_le
  simpa using this
theorem let_plain (x : List UInt8) : letL (plainL x) = enc 6 d64 x := by
  unfold letL plainL
  rw [List.filter_append, List.filter_eq_self.2 (fun c hc => all_enc x c hc), List.filter_eq_nil_iff.2 (fun c hc => by rw [(List.mem_replicate.1 hc).2]; decide), List.append_nil]
theorem trim_plain (x : List UInt8) : trimL (plainL x) = enc 6 d64 x := by
  unfold plainL
  rw [trim_pads, trim_in _ fun c hc => (in_not_ws (all_enc x c hc)).2]
theorem allIn_plain (x : List UInt8) : allIn d64 (trimL (plainL x)) = true := by
  rw [trim_plain]
  unfold allIn
  rw [List.all_eq_true]
  exact all_enc x
theorem bare_plain (x : List UInt8) : bareL (plainL x) = plainL x := by
  unfold bareL plainL
  rw [List.filter_eq_self]
  intro c hc
  rcases List.mem_append.1 hc with h | h
  · rw [(in_not_ws (all_enc x c h)).1]; rfl
  · rw [(List.mem_replicate.1 h).2]; decide
theorem plain_inj {a b : List UInt8} (h : plainL a = plainL b) : a = b := by
  rw [← out64 a, ← out64 b, ← let_plain a, ← let_plain b, h]

/-! What is read. -/
/-- The bytes of the letters among these. -/
def readL (t : List UInt8) : List UInt8 := outB 6 d64 (letL t)
def decS (s : List UInt8) : Bool := plainL (readL (bareL s)) == bareL s
def decV (s : List UInt8) : List UInt8 := if decS s then readL (bareL s) else []
def decC (s : List UInt8) : Nat := if decS s then 0 else 3
theorem dec_of {s x : List UInt8} (h : bareL s = plainL x) : decS s = true ∧ decV s = x := by
  have e : readL (bareL s) = x := by
    unfold readL
    rw [h, let_plain, out64]
  have e1 : decS s = true := by
    unfold decS
    rw [e, h]
    simp
  refine ⟨e1, ?_⟩
  unfold decV
  rw [e1, if_pos rfl, e]
theorem dec_plain {s : List UInt8} (h : decS s = true) : plainL (decV s) = bareL s := by
  unfold decV
  rw [h, if_pos rfl]
  unfold decS at h
  exact beq_iff_eq.1 h
theorem out_len (t : List UInt8) : (outB 6 d64 t).length ≤ t.length := by rw [outB_len]; omega
/-- What the program looks at: the letters ahead of what fills up. -/
theorem dec_trim {s t : List UInt8} (ht : bareL s = t) : decS s = (allIn d64 (trimL t) && (plainL (outB 6 d64 (trimL t)) == t)) ∧ (decS s = true → decV s = outB 6 d64 (trimL t)) := by
  subst ht
  have h1 : decS s = true → bareL s = plainL (decV s) ∧ outB 6 d64 (trimL (bareL s)) = decV s := by
    intro h
    have e := (dec_plain h).symm
    exact ⟨e, by rw [e, trim_plain, out64]⟩
  refine ⟨?_, fun h => (h1 h).2.symm⟩
  rw [Bool.eq_iff_iff]
  constructor
  · intro h
    obtain ⟨e1, e2⟩ := h1 h
    rw [e2, ← e1]
    rw [e1, allIn_plain]
    simp
  · intro h
    rw [Bool.and_eq_true, beq_iff_eq] at h
    exact (dec_of h.2.symm).1

/-! Lines. -/
/-- Lines of so many signs, of which so many stand already. -/
def lnL : Nat → List UInt8 → List UInt8
  | _, [] => []
  | k, c :: r => c :: (if (k == 75 || r.isEmpty) = true then 13 :: 10 :: lnL 0 r else lnL (k + 1) r)
theorem ln_take : ∀ (r : List UInt8) (k : Nat), r ≠ [] → k ≤ 75 → lnL k r = r.take (76 - k) ++ 13 :: 10 :: lnL 0 (r.drop (76 - k))
  | [], _, h, _ => absurd rfl h
  | c :: r, k, _, hk => by
    rw [lnL]
    obtain ⟨m, hm⟩ : ∃ m, 76 - k = m + 1 := ⟨75 - k, by omega⟩
    rw [hm, List.take_succ_cons, List.drop_succ_cons]
    by_cases h1 : k = 75
    · obtain rfl : m = 0 := by omega
      rw [h1]
      simp
    · cases r with
      | nil => simp [lnL]
      | cons d r =>
        have h2 : (k == 75) = false := by simpa using h1
        rw [h2]
        show c :: lnL (k + 1) (d :: r) = _
        rw [ln_take (d :: r) (k + 1) (by simp) (by omega), show 76 - (k + 1) = m by omega]
        rfl
theorem ln_len : ∀ (r : List UInt8) (k : Nat), (lnL k r).length ≤ 3 * r.length
  | [], _ => by simp [lnL]
  | c :: r, k => by
    rw [lnL]
    split
    · have := ln_len r 0
      simp only [List.length_cons]
      omega
    · have := ln_len r (k + 1)
      simp only [List.length_cons]
      omega
theorem ln_bare : ∀ (r : List UInt8) (k : Nat), bareL (lnL k r) = bareL r
  | [], _ => rfl
  | c :: r, k => by
    have hx : bareL (if (k == 75 || r.isEmpty) = true then 13 :: 10 :: lnL 0 r else lnL (k + 1) r) = bareL r := by
      split
      · rw [bare_cons_out _ (by decide), bare_cons_out _ (by decide), ln_bare r 0]
      · exact ln_bare r (k + 1)
    rw [lnL]
    cases h : wsB c
    · rw [bare_cons_in _ h, bare_cons_in _ h, hx]
    · rw [bare_cons_out _ h, bare_cons_out _ h, hx]
def linesL (s : List UInt8) : List UInt8 := lnL 0 (plainL s)
theorem lines_len (s : List UInt8) : (linesL s).length ≤ 6 * s.length + 12 := by
  have h1 := ln_len (plainL s) 0
  have h2 := plain_len s
  unfold linesL
  omega
theorem lines_bare (s : List UInt8) : bareL (linesL s) = plainL s := by
  unfold linesL
  rw [ln_bare, bare_plain]
/-- White, put in at any place. -/
theorem bare_put (t w : List UInt8) (k : Nat) (h : bareL w = []) : bareL ((t.take k ++ w) ++ t.drop k) = bareL t := by
  rw [bare_app, bare_app, h, List.append_nil, ← bare_app, List.take_append_drop]
end Go.Proofs.YtlkfkgkolaaomaaDoor.B64
