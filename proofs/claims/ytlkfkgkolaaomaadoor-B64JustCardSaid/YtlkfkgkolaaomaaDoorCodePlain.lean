/-
  Words of bits as streams, and what an encoder and a decoder of signs of so many bits do with them; without the program.
-/
namespace Go.Proofs.YtlkfkgkolaaomaaDoor.Code

/-- The number that k bits from place p on are. -/
def sg (f : Nat → Nat) (p : Nat) : Nat → Nat
  | 0 => 0
  | k + 1 => 2 * sg f p k + f (p + k)
/-- The bits of words of w bits. -/
def strm (w : Nat) (v : Nat → Nat) (i : Nat) : Nat := v (i / w) / 2 ^ (w - 1 - i % w) % 2

theorem strm_bit (w : Nat) (v : Nat → Nat) (i : Nat) : strm w v i < 2 := Nat.mod_lt _ (by decide)
theorem sg_lt (f : Nat → Nat) (h : ∀ i, f i < 2) (p : Nat) : ∀ k, sg f p k < 2 ^ k
  | 0 => by show 0 < 1; decide
  | k + 1 => by
    have h1 := sg_lt f h p k
    have h2 := h (p + k)
    show 2 * sg f p k + f (p + k) < 2 ^ (k + 1)
    rw [Nat.pow_succ]
    omega
theorem sg_add (f : Nat → Nat) (p a : Nat) : ∀ b, sg f p (a + b) = sg f p a * 2 ^ b + sg f (p + a) b
  | 0 => by simp [sg]
  | b + 1 => by
    show 2 * sg f p (a + b) + f (p + (a + b)) = _ + (2 * sg f (p + a) b + f (p + a + b))
    rw [sg_add f p a b, Nat.pow_succ, ← Nat.mul_assoc, Nat.add_assoc p a b]
    generalize sg f p a * 2 ^ b = x
    omega
theorem sg_div (f : Nat → Nat) (h : ∀ i, f i < 2) (p a b : Nat) : sg f p (a + b) / 2 ^ b = sg f p a := by
  rw [sg_add, Nat.mul_comm, Nat.mul_add_div (Nat.two_pow_pos b), Nat.div_eq_of_lt (sg_lt f h _ b)]; rfl
theorem sg_mod (f : Nat → Nat) (h : ∀ i, f i < 2) (p a b : Nat) : sg f p (a + b) % 2 ^ b = sg f (p + a) b := by
  rw [sg_add, Nat.mul_comm, Nat.mul_add_mod, Nat.mod_eq_of_lt (sg_lt f h _ b)]
theorem sg_congr (f g : Nat → Nat) (p : Nat) : ∀ k, (∀ i, p ≤ i → i < p + k → f i = g i) → sg f p k = sg g p k
  | 0, _ => rfl
  | k + 1, h => by
    show 2 * sg f p k + f (p + k) = 2 * sg g p k + g (p + k)
    rw [sg_congr f g p k fun i h1 h2 => h i h1 (by omega), h (p + k) (by omega) (by omega)]
theorem sg_nil (f : Nat → Nat) (p : Nat) : ∀ k, (∀ i, p ≤ i → i < p + k → f i = 0) → sg f p k = 0
  | 0, _ => rfl
  | k + 1, h => by
    show 2 * sg f p k + f (p + k) = 0
    rw [sg_nil f p k fun i h1 h2 => h i h1 (by omega), h (p + k) (by omega) (by omega)]
theorem nil_sg (f : Nat → Nat) (p : Nat) : ∀ k, sg f p k = 0 → ∀ i, p ≤ i → i < p + k → f i = 0
  | 0, _, i, h1, h2 => by omega
  | k + 1, h, i, h1, h2 => by
    have h : 2 * sg f p k + f (p + k) = 0 := h
    by_cases e : i = p + k
    · subst e; omega
    · exact nil_sg f p k (by omega) i h1 (by omega)
/-- The words of a stream of words. -/
theorem sg_strm_part (w : Nat) (v : Nat → Nat) (j : Nat) (hv : v j < 2 ^ w) : ∀ k, k ≤ w → sg (strm w v) (w * j) k = v j / 2 ^ (w - k)
  | 0, _ => by rw [Nat.sub_zero, Nat.div_eq_of_lt hv]; rfl
  | k + 1, hk => by
    show 2 * sg (strm w v) (w * j) k + strm w v (w * j + k) = _
    rw [sg_strm_part w v j hv k (by omega)]
    unfold strm
    rw [Nat.mul_add_div (by omega), Nat.div_eq_of_lt (by omega : k < w), Nat.add_zero, Nat.mul_add_mod, Nat.mod_eq_of_lt (by omega : k < w)]
    rw [show w - k = (w - 1 - k) + 1 by omega, show w - (k + 1) = w - 1 - k by omega, Nat.pow_succ, ← Nat.div_div_eq_div_mul]
    generalize v j / 2 ^ (w - 1 - k) = x
    omega
theorem sg_strm (w : Nat) (v : Nat → Nat) (j : Nat) (hv : v j < 2 ^ w) : sg (strm w v) (w * j) w = v j := by
  rw [sg_strm_part w v j hv w (Nat.le_refl _), Nat.sub_self, Nat.pow_zero, Nat.div_one]
/-- The stream of the words of a stream. -/
theorem strm_sg (w : Nat) (hw : 0 < w) (f : Nat → Nat) (h : ∀ i, f i < 2) (v : Nat → Nat) (i : Nat) (hv : v (i / w) = sg f (w * (i / w)) w) : strm w v i = f i := by
  have hr : i % w < w := Nat.mod_lt _ hw
  have he : w * (i / w) + i % w = i := Nat.div_add_mod i w
  unfold strm
  rw [hv]
  have e : w = (i % w + 1) + (w - 1 - i % w) := by omega
  have h2 : sg f (w * (i / w)) w / 2 ^ (w - 1 - i % w) = sg f (w * (i / w)) (i % w + 1) := by
    conv => lhs; lhs; rw [show sg f (w * (i / w)) w = sg f (w * (i / w)) ((i % w + 1) + (w - 1 - i % w)) from congrArg _ e]
    exact sg_div f h _ _ _
  rw [h2]
  show (2 * sg f (w * (i / w)) (i % w) + f (w * (i / w) + i % w)) % 2 = f i
  rw [he]
  have := h i
  omega

/- Bytes and signs. -/
def byteAt (l : List UInt8) (i : Nat) : Nat := (l.getD i 0).toNat
theorem byteAt_lt (l : List UInt8) (i : Nat) : byteAt l i < 2 ^ 8 := (l.getD i 0).toNat_lt
theorem byteAt_out (l : List UInt8) (i : Nat) (h : l.length ≤ i) : byteAt l i = 0 := by
  unfold byteAt
  rw [List.getD_eq_getElem?_getD, List.getElem?_eq_none h]; rfl
def byt (n : Nat) : UInt8 := UInt8.ofNat n
theorem byt_toNat (x : Nat) (h : x < 256) : (byt x).toNat = x := by
  unfold byt
  simp
  omega
theorem byt_byteAt (l : List UInt8) (i : Nat) (h : i < l.length) : byt (byteAt l i) = l[i] := by
  unfold byt byteAt
  rw [List.getD_eq_getElem?_getD, List.getElem?_eq_getElem h]
  simp
/-- The bits of bytes, and 0 behind them. -/
def strL (l : List UInt8) : Nat → Nat := strm 8 (byteAt l)
theorem strL_bit (l : List UInt8) (i : Nat) : strL l i < 2 := strm_bit _ _ _
theorem strL_out (l : List UInt8) (i : Nat) (h : 8 * l.length ≤ i) : strL l i = 0 := by
  unfold strL strm
  rw [byteAt_out l _ (by omega)]; simp
theorem strL_byte (l : List UInt8) (j : Nat) : sg (strL l) (8 * j) 8 = byteAt l j := sg_strm 8 _ j (byteAt_lt l j)

def elen (w n : Nat) : Nat := (8 * n + w - 1) / w
def digOf (D : List UInt8) (n : Nat) : UInt8 := D.getD n 0
/-- The signs of bytes. -/
def enc (w : Nat) (D l : List UInt8) : List UInt8 := (List.range (elen w l.length)).map fun j => digOf D (sg (strL l) (w * j) w)
theorem enc_len (w : Nat) (D l : List UInt8) : (enc w D l).length = elen w l.length := by simp [enc]
theorem enc_get (w : Nat) (D l : List UInt8) (j : Nat) (h : j < elen w l.length) : (enc w D l)[j]? = some (digOf D (sg (strL l) (w * j) w)) := by simp [enc, h]

/-- The number that the sign at a place stands for, and 0 behind them. -/
def vAt (D t : List UInt8) (j : Nat) : Nat := if j < t.length then D.idxOf (t.getD j 0) else 0
def allIn (D t : List UInt8) : Bool := t.all fun c => D.contains c
def strV (w : Nat) (D t : List UInt8) : Nat → Nat := strm w (vAt D t)
theorem strV_bit (w : Nat) (D t : List UInt8) (i : Nat) : strV w D t i < 2 := strm_bit _ _ _
/-- The bytes of signs. -/
def outB (w : Nat) (D t : List UInt8) : List UInt8 := (List.range (w * t.length / 8)).map fun i => byt (sg (strV w D t) (8 * i) 8)
theorem outB_len (w : Nat) (D t : List UInt8) : (outB w D t).length = w * t.length / 8 := by simp [outB]
/-- What is left behind the bytes. -/
def tail0 (w : Nat) (D t : List UInt8) : Nat := sg (strV w D t) (8 * (w * t.length / 8)) (w * t.length % 8)
def okB (w : Nat) (D t : List UInt8) : Bool := allIn D t && decide (w * t.length % 8 < w) && (tail0 w D t == 0)
def dec (w : Nat) (D t : List UInt8) : List UInt8 := if okB w D t then outB w D t else []

/-- A table of signs: as many as there are words, no two the same. -/
structure Tab (w : Nat) (D : List UInt8) : Prop where
  len : D.length = 2 ^ w
  idx : ∀ n, n < 2 ^ w → D.idxOf (digOf D n) = n
  wid : w = 4 ∨ w = 5
def d32 : List UInt8 := [97, 98, 99, 100, 101, 102, 103, 104, 105, 106, 107, 108, 109, 110, 111, 112, 113, 114, 115, 116, 117, 118, 119, 120, 121, 122, 50, 51, 52, 53, 54, 55]
def d16 : List UInt8 := [48, 49, 50, 51, 52, 53, 54, 55, 56, 57, 97, 98, 99, 100, 101, 102]
theorem tab32 : Tab 5 d32 := ⟨rfl, by decide +kernel, .inr rfl⟩
theorem tab16 : Tab 4 d16 := ⟨rfl, by decide +kernel, .inl rfl⟩

theorem idx_lt {w : Nat} {D : List UInt8} (T : Tab w D) {c : UInt8} (h : D.contains c = true) : D.idxOf c < 2 ^ w := by
  rw [← T.len]
  exact List.idxOf_lt_length_of_mem (by simpa using h)
theorem dig_idx {D : List UInt8} {c : UInt8} (h : D.contains c = true) : digOf D (D.idxOf c) = c := by
  have hm : c ∈ D := by simpa using h
  have hl := List.idxOf_lt_length_of_mem hm
  unfold digOf
  rw [List.getD_eq_getElem?_getD, List.getElem?_eq_getElem hl]
  simp
theorem allIn_at {D t : List UInt8} (h : allIn D t = true) (j : Nat) (hj : j < t.length) : D.contains (t.getD j 0) = true := by
  unfold allIn at h
  rw [List.all_eq_true] at h
  rw [List.getD_eq_getElem?_getD, List.getElem?_eq_getElem hj]
  exact h _ (List.getElem_mem hj)
theorem vAt_lt {w : Nat} {D t : List UInt8} (T : Tab w D) (h : allIn D t = true) (j : Nat) : vAt D t j < 2 ^ w := by
  unfold vAt
  split
  · rename_i hj; exact idx_lt T (allIn_at h j hj)
  · exact Nat.two_pow_pos w
theorem strV_out (w : Nat) (D t : List UInt8) (i : Nat) (hw : 0 < w) (h : w * t.length ≤ i) : strV w D t i = 0 := by
  unfold strV strm vAt
  rw [if_neg (by rw [Nat.not_lt, Nat.le_div_iff_mul_le hw, Nat.mul_comm]; exact h)]
  simp
theorem elen_ge {w n : Nat} (h : w = 4 ∨ w = 5) : 8 * n ≤ w * elen w n := by
  unfold elen
  rcases h with rfl | rfl <;> omega
/-- What is written is read. -/
theorem enc_all {w : Nat} {D : List UInt8} (T : Tab w D) (l : List UInt8) : allIn D (enc w D l) = true := by
  unfold allIn enc
  rw [List.all_eq_true]
  intro c hc
  simp only [List.mem_map, List.mem_range] at hc
  obtain ⟨j, _, rfl⟩ := hc
  have hlt := sg_lt (strL l) (strL_bit l) (w * j) w
  rw [← T.len] at hlt
  unfold digOf
  rw [List.getD_eq_getElem?_getD, List.getElem?_eq_getElem hlt]
  simp
theorem vAt_enc {w : Nat} {D : List UInt8} (T : Tab w D) (l : List UInt8) (j : Nat) : vAt D (enc w D l) j = sg (strL l) (w * j) w := by
  unfold vAt
  rw [enc_len]
  by_cases h : j < elen w l.length
  · rw [if_pos h, List.getD_eq_getElem?_getD, enc_get w D l j h]
    exact T.idx _ (sg_lt _ (strL_bit l) _ _)
  · rw [if_neg h, sg_nil]
    intro i h1 _
    refine strL_out l i ?_
    have h2 := elen_ge (n := l.length) T.wid
    have h3 : w * elen w l.length ≤ w * j := Nat.mul_le_mul_left _ (by omega)
    omega
theorem strV_enc {w : Nat} {D : List UInt8} (T : Tab w D) (l : List UInt8) : strV w D (enc w D l) = strL l := by
  funext i
  have hw : 0 < w := by rcases T.wid with rfl | rfl <;> decide
  exact strm_sg w hw (strL l) (strL_bit l) _ i (vAt_enc T l _)
theorem elen_back {w n : Nat} (h : w = 4 ∨ w = 5) : w * elen w n / 8 = n ∧ w * elen w n % 8 < w := by
  have h1 : 8 * n ≤ w * elen w n ∧ w * elen w n < 8 * n + w ∧ w ≤ 5 := by
    unfold elen
    rcases h with rfl | rfl <;> omega
  generalize w * elen w n = x at h1 ⊢
  omega
theorem out_enc {w : Nat} {D : List UInt8} (T : Tab w D) (l : List UInt8) : outB w D (enc w D l) = l := by
  unfold outB
  rw [strV_enc T, enc_len, (elen_back T.wid).1]
  apply List.ext_getElem?
  intro j
  by_cases h : j < l.length
  · rw [List.getElem?_map, List.getElem?_range h, List.getElem?_eq_getElem h]
    simp only [Option.map_some]
    rw [strL_byte, byt_byteAt l j h]
  · rw [List.getElem?_eq_none (by simp; omega), List.getElem?_eq_none (by omega)]
theorem ok_enc {w : Nat} {D : List UInt8} (T : Tab w D) (l : List UInt8) : okB w D (enc w D l) = true := by
  unfold okB tail0
  rw [enc_all T, strV_enc T, enc_len, (elen_back T.wid).1, sg_nil _ _ _ fun i h _ => strL_out l i h]
  simp
  exact (elen_back T.wid).2
theorem dec_enc {w : Nat} {D : List UInt8} (T : Tab w D) (l : List UInt8) : dec w D (enc w D l) = l := by
  unfold dec
  rw [ok_enc T, if_pos rfl, out_enc T]

/-- What is read is written. -/
theorem byteAt_out_B (w : Nat) (D t : List UInt8) (i : Nat) (h : i < w * t.length / 8) : byteAt (outB w D t) i = sg (strV w D t) (8 * i) 8 := by
  unfold byteAt outB
  rw [List.getD_eq_getElem?_getD, List.getElem?_map, List.getElem?_range h]
  simp only [Option.map_some, Option.getD_some]
  exact byt_toNat _ (sg_lt _ (strV_bit w D t) _ 8)
theorem strL_outB (w : Nat) (D t : List UInt8) (i : Nat) (h : i < 8 * (w * t.length / 8)) : strL (outB w D t) i = strV w D t i :=
  strm_sg 8 (by decide) _ (strV_bit w D t) _ i (byteAt_out_B w D t _ (by omega))
theorem elen_of {w m : Nat} (h : w = 4 ∨ w = 5) (hr : w * m % 8 < w) : elen w (w * m / 8) = m := by
  unfold elen
  rcases h with rfl | rfl <;> omega
theorem of_elen {w m : Nat} (h : w = 4 ∨ w = 5) (hr : elen w (w * m / 8) = m) : w * m % 8 < w := by
  unfold elen at hr
  rcases h with rfl | rfl <;> omega
theorem sg_strV {w : Nat} {D t : List UInt8} (T : Tab w D) (h : allIn D t = true) (j : Nat) : sg (strV w D t) (w * j) w = vAt D t j := sg_strm w _ j (vAt_lt T h j)
theorem dig_vAt {D t : List UInt8} (h : allIn D t = true) (j : Nat) (hj : j < t.length) : some (digOf D (vAt D t j)) = t[j]? := by
  unfold vAt
  rw [if_pos hj, dig_idx (allIn_at h j hj), List.getElem?_eq_getElem hj, List.getD_eq_getElem?_getD, List.getElem?_eq_getElem hj]
  rfl
theorem enc_out {w : Nat} {D t : List UInt8} (T : Tab w D) (h : okB w D t = true) : enc w D (outB w D t) = t := by
  unfold okB at h
  simp only [Bool.and_eq_true, decide_eq_true_eq, beq_iff_eq] at h
  obtain ⟨⟨h1, h2⟩, h3⟩ := h
  have hw : 0 < w := by rcases T.wid with rfl | rfl <;> decide
  have hs : strL (outB w D t) = strV w D t := by
    funext i
    by_cases hi : i < 8 * (w * t.length / 8)
    · exact strL_outB w D t i hi
    · rw [strL_out _ _ (by rw [outB_len]; omega)]
      by_cases hi2 : i < w * t.length
      · exact (nil_sg _ _ _ h3 i (by omega) (by omega)).symm
      · exact (strV_out w D t i hw (by omega)).symm
  apply List.ext_getElem?
  intro j
  have he := elen_of T.wid h2
  by_cases hj : j < t.length
  · rw [enc_get w D _ j (by rw [outB_len, he]; exact hj), hs, sg_strV T h1, dig_vAt h1 j hj]
  · rw [List.getElem?_eq_none (by rw [enc_len, outB_len, he]; omega), List.getElem?_eq_none (by omega)]
theorem ok_of_enc {w : Nat} {D t : List UInt8} (T : Tab w D) (h1 : allIn D t = true) (h : enc w D (outB w D t) = t) : okB w D t = true := by
  have hw : 0 < w := by rcases T.wid with rfl | rfl <;> decide
  have hl : elen w (w * t.length / 8) = t.length := by
    have := congrArg List.length h
    rwa [enc_len, outB_len] at this
  have hr := of_elen T.wid hl
  have hv : ∀ j, j < t.length → sg (strL (outB w D t)) (w * j) w = vAt D t j := by
    intro j hj
    have e := vAt_enc T (outB w D t) j
    rw [h] at e
    exact e.symm
  have hz : tail0 w D t = 0 := by
    unfold tail0
    refine sg_nil _ _ _ fun i i1 i2 => ?_
    have hi : i / w < t.length := by rw [Nat.div_lt_iff_lt_mul hw, Nat.mul_comm]; omega
    have e1 : strV w D t i = strL (outB w D t) i := strm_sg w hw _ (strL_bit _) _ i (hv _ hi).symm
    rw [e1, strL_out _ _ (by rw [outB_len]; omega)]
  unfold okB
  rw [h1, hz]
  simpa using hr
theorem ok_iff {w : Nat} {D t : List UInt8} (T : Tab w D) (h1 : allIn D t = true) : okB w D t = (enc w D (outB w D t) == t) := by
  rw [Bool.eq_iff_iff, beq_iff_eq]
  exact ⟨enc_out T, ok_of_enc T h1⟩
theorem enc_dec {w : Nat} {D t : List UInt8} (T : Tab w D) (h : okB w D t = true) : enc w D (dec w D t) = t := by
  unfold dec
  rw [h, if_pos rfl, enc_out T h]
end Go.Proofs.YtlkfkgkolaaomaaDoor.Code
