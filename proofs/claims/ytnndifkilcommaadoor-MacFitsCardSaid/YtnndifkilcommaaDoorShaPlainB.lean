/-
  The schedule's words, one by one.
-/
import Derived.Test.YtnndifkilcommaaDoorShaArr
namespace Go.Proofs.YtnndifkilcommaaDoor.Sha

theorem byteAt_lt (b : List UInt8) (i : Nat) : byteAt b i < 256 := (b.getD i 0).toNat_lt
theorem wordAt_lt (b : List UInt8) (t : Nat) : wordAt b t < 4294967296 := by
  have h0 := byteAt_lt b (4 * t)
  have h1 := byteAt_lt b (4 * t + 1)
  have h2 := byteAt_lt b (4 * t + 2)
  have h3 := byteAt_lt b (4 * t + 3)
  unfold wordAt
  omega
theorem sch_len (b : List UInt8) : ∀ n, (sch b n).length = n
  | 0 => rfl
  | n + 1 => by simp [sch, sch_len b n]
theorem sch_get (b : List UInt8) (n d j : Nat) (h : j < n) : (sch b (n + d)).getD j 0 = (sch b n).getD j 0 := by
  induction d with
  | zero => rfl
  | succ d ih =>
    rw [← ih]
    show (sch b (n + d) ++ [nextW b (sch b (n + d)) (n + d)]).getD j 0 = _
    rw [List.getD_eq_getElem?_getD, List.getD_eq_getElem?_getD, List.getElem?_append_left (by rw [sch_len]; omega)]
def wAt (b : List UInt8) (t : Nat) : Nat := (sch b 64).getD t 0
theorem wAt_next (b : List UInt8) (t : Nat) (h : t < 64) : wAt b t = nextW b (sch b t) t := by
  unfold wAt
  have e := sch_get b (t + 1) (63 - t) t (by omega)
  rw [show t + 1 + (63 - t) = 64 by omega] at e
  rw [e]
  show (sch b t ++ [nextW b (sch b t) t]).getD t 0 = _
  rw [List.getD_eq_getElem?_getD, List.getElem?_append_right (by rw [sch_len]; omega), sch_len]
  simp
theorem wAt_early (b : List UInt8) (t j : Nat) (h : t < 64) (hj : j < t) : (sch b t).getD j 0 = wAt b j := by
  unfold wAt
  have e := sch_get b t (64 - t) j hj
  rw [show t + (64 - t) = 64 by omega] at e
  exact e.symm
theorem wAt_lo (b : List UInt8) (t : Nat) (h : t < 16) : wAt b t = wordAt b t := by
  rw [wAt_next b t (by omega)]; unfold nextW; rw [if_pos h]
theorem wAt_hi (b : List UInt8) (t : Nat) (h : 16 ≤ t) (h2 : t < 64) : wAt b t = (sL (wAt b (t - 2)) + wAt b (t - 7) + sE (wAt b (t - 15)) + wAt b (t - 16)) % 4294967296 := by
  rw [wAt_next b t h2]
  unfold nextW
  rw [if_neg (by omega), wAt_early b t _ h2 (by omega), wAt_early b t _ h2 (by omega), wAt_early b t _ h2 (by omega), wAt_early b t _ h2 (by omega)]
theorem wAt_lt (b : List UInt8) (t : Nat) : wAt b t < 4294967296 := by
  by_cases h : t < 64
  · by_cases h2 : t < 16
    · rw [wAt_lo b t h2]; exact wordAt_lt b t
    · rw [wAt_hi b t (by omega) h]; exact Nat.mod_lt _ (by decide)
  · unfold wAt
    rw [List.getD_eq_getElem?_getD, List.getElem?_eq_none (by rw [sch_len]; omega)]
    decide

/- The program fills the words byte by byte. -/
def fillV (b : List UInt8) (k x : Nat) : Nat := (x * 256 % 4294967296) ||| byteAt b k
def fillF (b : List UInt8) : Nat → Nat → Nat
  | 0 => fun _ => 0
  | k + 1 => upd (fillF b k) (k / 4) (fillV b k (fillF b k (k / 4)))
theorem or_up (x y k : Nat) (hx : x < 2 ^ k) : y * 2 ^ k ||| x = y * 2 ^ k + x := by
  rw [← Nat.shiftLeft_eq, Nat.shiftLeft_add_eq_or_of_lt hx]
theorem or_b (x c : Nat) (hc : c < 256) : x * 256 ||| c = x * 256 + c := or_up c x 8 hc
theorem fillV_lt (b : List UInt8) (k x : Nat) : fillV b k x < 4294967296 := or_lt32 (Nat.mod_lt _ (by decide)) (by have := byteAt_lt b k; omega)
theorem fillF_lt (b : List UInt8) : ∀ k j, fillF b k j < 4294967296
  | 0, _ => by show 0 < 4294967296; decide
  | k + 1, j => by
    show upd (fillF b k) (k / 4) (fillV b k (fillF b k (k / 4))) j < _
    unfold upd
    split
    · exact fillV_lt _ _ _
    · exact fillF_lt b k j
def partF (b : List UInt8) (k j : Nat) : Nat :=
  if k ≤ 4 * j then 0 else if k = 4 * j + 1 then byteAt b (4 * j) else if k = 4 * j + 2 then byteAt b (4 * j) * 256 + byteAt b (4 * j + 1)
  else if k = 4 * j + 3 then byteAt b (4 * j) * 65536 + byteAt b (4 * j + 1) * 256 + byteAt b (4 * j + 2) else wordAt b j
theorem fillF_part (b : List UInt8) : ∀ k j, fillF b k j = partF b k j
  | 0, j => by unfold partF; rw [if_pos (by omega)]; rfl
  | k + 1, j => by
    show upd (fillF b k) (k / 4) (fillV b k (fillF b k (k / 4))) j = _
    unfold upd
    rw [fillF_part b k (k / 4), fillF_part b k j]
    have h0 := byteAt_lt b (4 * j)
    have h1 := byteAt_lt b (4 * j + 1)
    have h2 := byteAt_lt b (4 * j + 2)
    have h3 := byteAt_lt b (4 * j + 3)
    by_cases hj : j = k / 4
    · rw [if_pos hj, ← hj]
      have hk : k = 4 * j ∨ k = 4 * j + 1 ∨ k = 4 * j + 2 ∨ k = 4 * j + 3 := by omega
      unfold fillV
      rcases hk with rfl | rfl | rfl | rfl
      · have e : partF b (4 * j) j = 0 := by unfold partF; rw [if_pos (by omega)]
        rw [e]; unfold partF; rw [if_neg (by omega), if_pos (by omega)]; simp
      · have e : partF b (4 * j + 1) j = byteAt b (4 * j) := by unfold partF; rw [if_neg (by omega), if_pos (by omega)]
        rw [e, Nat.mod_eq_of_lt (by omega), or_b _ _ h1]; unfold partF; rw [if_neg (by omega), if_neg (by omega), if_pos (by omega)]
      · have e : partF b (4 * j + 2) j = byteAt b (4 * j) * 256 + byteAt b (4 * j + 1) := by unfold partF; rw [if_neg (by omega), if_neg (by omega), if_pos (by omega)]
        rw [e, Nat.mod_eq_of_lt (by omega), or_b _ _ h2]; unfold partF; rw [if_neg (by omega), if_neg (by omega), if_neg (by omega), if_pos (by omega)]; omega
      · have e : partF b (4 * j + 3) j = byteAt b (4 * j) * 65536 + byteAt b (4 * j + 1) * 256 + byteAt b (4 * j + 2) := by unfold partF; rw [if_neg (by omega), if_neg (by omega), if_neg (by omega), if_pos (by omega)]
        rw [e, Nat.mod_eq_of_lt (by omega), or_b _ _ h3]; unfold partF wordAt; rw [if_neg (by omega), if_neg (by omega), if_neg (by omega), if_neg (by omega)]; omega
    · rw [if_neg hj]
      unfold partF
      by_cases g : k < 4 * j
      · rw [if_pos (by omega), if_pos (by omega)]
      · rw [if_neg (by omega), if_neg (by omega), if_neg (by omega), if_neg (by omega), if_neg (by omega), if_neg (by omega), if_neg (by omega), if_neg (by omega)]
/-- The words that are there behind t rounds. -/
def wUpto (b : List UInt8) (t : Nat) : Nat → Nat := fun j => if j < t then wAt b j else 0
theorem fill_done (b : List UInt8) (j : Nat) (hj : j < 64) : fillF b 64 j = wUpto b 16 j := by
  rw [fillF_part]
  unfold partF wUpto
  by_cases h : j < 16
  · rw [if_neg (by omega), if_neg (by omega), if_neg (by omega), if_neg (by omega), if_pos h, wAt_lo b j h]
  · rw [if_pos (by omega), if_neg h]
theorem wUpto_next (b : List UInt8) (t j : Nat) : upd (wUpto b t) t (wAt b t) j = wUpto b (t + 1) j := by
  unfold upd wUpto
  by_cases h : j = t
  · subst h; rw [if_pos rfl, if_pos (by omega)]
  · rw [if_neg h]
    by_cases g : j < t
    · rw [if_pos g, if_pos (by omega)]
    · rw [if_neg g, if_neg (by omega)]
theorem wUpto_at (b : List UInt8) (t j : Nat) (h : j < t) : wUpto b t j = wAt b j := by unfold wUpto; rw [if_pos h]
end Go.Proofs.YtnndifkilcommaaDoor.Sha
