/-
  Addresses in plain words, no program: texts cut at dots, domains, how addresses are written and read; and what follows of these.
-/
import Derived.Test.YtklmhjoiffaniaaDoorLexPlain
import Derived.Test.YtklmhjoiffaniaaDoorGlyphPlain
namespace Go.Proofs.YtklmhjoiffaniaaDoor.Addr
open Go.Proofs.YtklmhjoiffaniaaDoor.Lex
open Go.Proofs.YtklmhjoiffaniaaDoor.Glyph (fd foldL foldL_foldL)

/-- An address: what stands before its @, and behind it. -/
structure Ad where
  l : List UInt8
  d : List UInt8
def noAd : Ad := ⟨[], []⟩

/-! Bytes, all 256. -/
theorem byte_all {p : UInt8 → Bool} (h : (List.range 256).all (fun n => p (UInt8.ofNat n)) = true) (c : UInt8) : p c = true := by
  have := all256 (p := fun n => p (UInt8.ofNat n)) h c.toNat c.toNat_lt
  simpa using this
def lbN (n : Nat) : Bool := decide (97 ≤ n ∧ n ≤ 122) || decide (65 ≤ n ∧ n ≤ 90) || decide (48 ≤ n ∧ n ≤ 57) || n == 45
def lb (c : UInt8) : Bool := lbN c.toNat
def pl (c : UInt8) : Bool := decide (32 ≤ c.toNat ∧ c.toNat ≤ 126)
theorem am_fd (c : UInt8) : am (fd c) = am c := beq_iff_eq.1 (byte_all (p := fun c => am (fd c) == am c) (by decide +kernel) c)
theorem lb_fd (c : UInt8) : lb (fd c) = lb c := beq_iff_eq.1 (byte_all (p := fun c => lb (fd c) == lb c) (by decide +kernel) c)
theorem pl_fd (c : UInt8) : pl (fd c) = pl c := beq_iff_eq.1 (byte_all (p := fun c => pl (fd c) == pl c) (by decide +kernel) c)
theorem fd46 (c : UInt8) : (fd c == 46) = (c == 46) := beq_iff_eq.1 (byte_all (p := fun c => (fd c == 46) == (c == 46)) (by decide +kernel) c)
theorem fd45 (c : UInt8) : (fd c == 45) = (c == 45) := beq_iff_eq.1 (byte_all (p := fun c => (fd c == 45) == (c == 45)) (by decide +kernel) c)
theorem qbyte_fd (c : UInt8) : qbyte (fd c) = (qbyte c).map fd := beq_iff_eq.1 (byte_all (p := fun c => qbyte (fd c) == (qbyte c).map fd) (by decide +kernel) c)
theorem lb_am (c : UInt8) (h : lb c = true) : am c = true := by
  have := byte_all (p := fun c => !lb c || am c) (by decide +kernel) c
  simpa [h] using this
theorem pl_tx (c : UInt8) (h : pl c = true) : tx c = true := by
  have := byte_all (p := fun c => !pl c || tx c) (by decide +kernel) c
  simpa [h] using this

/-! Cut at dots, and joined by dots. -/
def pcs : List UInt8 → List UInt8 → List (List UInt8)
  | w, [] => [w]
  | w, x :: t => if x = 46 then w :: pcs [] t else pcs (w ++ [x]) t
def pieces (l : List UInt8) : List (List UInt8) := pcs [] l
def join : List (List UInt8) → List UInt8
  | [] => []
  | [p] => p
  | p :: q :: r => p ++ 46 :: join (q :: r)
theorem pcs_run : ∀ (a w t : List UInt8), (∀ x ∈ a, x ≠ 46) → pcs w (a ++ t) = pcs (w ++ a) t
  | [], w, t, _ => by simp
  | x :: a, w, t, h => by
    rw [List.cons_append, pcs, if_neg (h x (by simp)), pcs_run a _ t fun y hy => h y (by simp [hy])]
    simp
theorem pcs_hit (w t : List UInt8) : pcs w (46 :: t) = w :: pcs [] t := by rw [pcs, if_pos rfl]
theorem pcs_ne : ∀ (l w : List UInt8), pcs w l ≠ []
  | [], w => by simp [pcs]
  | x :: t, w => by
    rw [pcs]
    split
    · simp
    · exact pcs_ne t _
theorem join_cons {p : List UInt8} {q : List (List UInt8)} (h : q ≠ []) : join (p :: q) = p ++ 46 :: join q := by
  cases q with
  | nil => exact absurd rfl h
  | cons a r => rfl
theorem join_pcs : ∀ (l w : List UInt8), join (pcs w l) = w ++ l
  | [], w => by simp [pcs, join]
  | x :: t, w => by
    rw [pcs]
    split
    · rename_i h
      rw [join_cons (pcs_ne t []), join_pcs t [], h]
      rfl
    · rw [join_pcs t _]
      simp
theorem join_pieces (l : List UInt8) : join (pieces l) = l := join_pcs l []
theorem pcs_fd : ∀ (l w : List UInt8), pcs (w.map fd) (l.map fd) = (pcs w l).map (List.map fd)
  | [], w => rfl
  | x :: t, w => by
    have e := fd46 x
    rw [List.map_cons, pcs, pcs]
    by_cases h : x = 46
    · have h2 : fd x = 46 := by rw [h]; decide
      rw [if_pos h, if_pos h2, List.map_cons]
      have := pcs_fd t []
      rw [List.map_nil] at this
      rw [this]
    · have h2 : fd x ≠ 46 := by
        intro h2
        rw [h2] at e
        exact h (by simpa using e.symm)
      rw [if_neg h, if_neg h2, ← pcs_fd t]
      simp
theorem pieces_fd (l : List UInt8) : pieces (foldL l) = (pieces l).map foldL := pcs_fd l []
theorem pcs_le : ∀ (l w p : List UInt8), p ∈ pcs w l → p.length ≤ w.length + l.length
  | [], w, p, h => by
    rw [pcs, List.mem_singleton] at h
    rw [h]
    simp
  | x :: t, w, p, h => by
    rw [pcs] at h
    split at h
    · rcases List.mem_cons.1 h with rfl | h
      · omega
      · have := pcs_le t [] p h
        simp only [List.length_nil, List.length_cons] at *
        omega
    · have := pcs_le t _ p h
      simp only [List.length_append, List.length_cons, List.length_nil] at *
      omega
theorem pieces_le {l p : List UInt8} (h : p ∈ pieces l) : p.length ≤ l.length := by
  have := pcs_le l [] p h
  simpa using this
theorem pcs_count : ∀ (l w : List UInt8), (pcs w l).length ≤ l.length + 1
  | [], w => by simp [pcs]
  | x :: t, w => by
    rw [pcs]
    split
    · have := pcs_count t []
      simp only [List.length_cons]
      omega
    · have := pcs_count t (w ++ [x])
      simp only [List.length_cons]
      omega

/-! Dotted texts, labels, domains, addresses. -/
def dottedB (l : List UInt8) : Bool := (pieces l).all atomB
def labelB (l : List UInt8) : Bool := !l.isEmpty && (!(l.headD 0 == 45) && (!(l.getLastD 0 == 45) && l.all lb))
def textL (a : Ad) : List UInt8 := (if dottedB a.l = true then a.l else quoteL a.l) ++ 64 :: a.d
def keyL (a : Ad) : List UInt8 := foldL (textL a)
def longB (l : List UInt8) : Bool := decide (253 < l.length) || (pieces l).any fun p => decide (63 < p.length)
def domC (l : List UInt8) : Nat := if (pieces l).all labelB = false then 130 else if longB l = true then 2 else 0
def domL (l : List UInt8) : List UInt8 := if domC l = 0 then foldL l else []
def formB (l d : List UInt8) : Bool := l.isEmpty || (!(l.all pl) || domC d == 130)
def bigB (l d : List UInt8) : Bool := !(domC d == 0) || (decide (64 < l.length) || decide (254 < (textL ⟨l, foldL d⟩).length))
def whyC (l d : List UInt8) : Nat := if formB l d = true then 130 else if bigB l d = true then 2 else 0
def buildL (l d : List UInt8) : Ad × Nat := if whyC l d = 0 then (⟨l, foldL d⟩, 0) else (noAd, whyC l d)
def Right (a : Ad) : Prop := whyC a.l a.d = 0 ∧ foldL a.d = a.d
theorem domC_cases (l : List UInt8) : domC l = 130 ∨ domC l = 2 ∨ domC l = 0 := by
  unfold domC
  split
  · exact .inl rfl
  · split
    · exact .inr (.inl rfl)
    · exact .inr (.inr rfl)
theorem whyC_cases (l d : List UInt8) : whyC l d = 130 ∨ whyC l d = 2 ∨ whyC l d = 0 := by
  unfold whyC
  split
  · exact .inl rfl
  · split
    · exact .inr (.inl rfl)
    · exact .inr (.inr rfl)

/-! Small letters change none of these. -/
theorem foldL_len (l : List UInt8) : (foldL l).length = l.length := by simp [foldL]
theorem atom_fd (l : List UInt8) : atomB (foldL l) = atomB l := by
  unfold atomB foldL
  rw [List.isEmpty_map, List.all_map]
  congr 2
  funext c
  exact am_fd c
theorem head_fd (l : List UInt8) : ((foldL l).headD 0 == 45) = (l.headD 0 == 45) := by
  cases l with
  | nil => rfl
  | cons c t => exact fd45 c
theorem last_fd (l : List UInt8) : ((foldL l).getLastD 0 == 45) = (l.getLastD 0 == 45) := by
  unfold foldL
  rw [List.getLastD_eq_getLast?, List.getLastD_eq_getLast?, List.getLast?_map]
  cases l.getLast? with
  | none => rfl
  | some c => exact fd45 c
theorem label_fd (l : List UInt8) : labelB (foldL l) = labelB l := by
  unfold labelB
  rw [head_fd, last_fd]
  unfold foldL
  rw [List.isEmpty_map, List.all_map]
  congr 4
  funext c
  exact lb_fd c
theorem all_fd {p : List UInt8 → Bool} (hp : ∀ l, p (foldL l) = p l) (l : List UInt8) : (pieces (foldL l)).all p = (pieces l).all p := by
  rw [pieces_fd, List.all_map]
  congr 1
  funext c
  exact hp c
theorem dotted_fd (l : List UInt8) : dottedB (foldL l) = dottedB l := all_fd atom_fd l
theorem long_fd (l : List UInt8) : longB (foldL l) = longB l := by
  unfold longB
  rw [pieces_fd, List.any_map, foldL_len]
  congr 2
  funext c
  simp only [Function.comp, foldL_len]
theorem domC_fd (l : List UInt8) : domC (foldL l) = domC l := by
  unfold domC
  rw [all_fd label_fd, long_fd]
theorem quote_fd (l : List UInt8) : quoteL (foldL l) = foldL (quoteL l) := by
  have e : body (foldL l) = foldL (body l) := by
    induction l with
    | nil => rfl
    | cons c t ih =>
      show qbyte (fd c) ++ body (foldL t) = (qbyte c ++ body t).map fd
      rw [ih, qbyte_fd, List.map_append]
      rfl
  unfold quoteL
  rw [e]
  unfold foldL
  rw [List.map_cons, List.map_append]
  rfl
theorem text_fd (l d : List UInt8) : textL ⟨foldL l, foldL d⟩ = foldL (textL ⟨l, d⟩) := by
  unfold textL
  simp only
  rw [dotted_fd, quote_fd]
  cases dottedB l <;> simp [foldL] <;> decide
theorem textlen_fd (l d d' : List UInt8) (h : d'.length = d.length) : (textL ⟨foldL l, d'⟩).length = (textL ⟨l, d⟩).length := by
  unfold textL
  simp only
  rw [dotted_fd, quote_fd]
  cases dottedB l <;> simp [h, foldL_len]
theorem textlen (l d d' : List UInt8) (h : d'.length = d.length) : (textL ⟨l, d'⟩).length = (textL ⟨l, d⟩).length := by
  unfold textL
  simp only [List.length_append, List.length_cons, h]
theorem form_fd (l d : List UInt8) : formB (foldL l) d = formB l d := by
  unfold formB foldL
  rw [List.isEmpty_map, List.all_map]
  congr 3
  congr 1
  funext c
  exact pl_fd c
theorem why_fd (l d : List UInt8) : whyC (foldL l) d = whyC l d := by
  unfold whyC bigB
  rw [form_fd, foldL_len, textlen_fd l _ _ rfl]
theorem why_fd2 (l d : List UInt8) : whyC l (foldL d) = whyC l d := by
  unfold whyC formB bigB
  rw [domC_fd, foldL_foldL]
theorem right_fd {a : Ad} (h : Right a) : Right ⟨foldL a.l, a.d⟩ := ⟨by rw [why_fd]; exact h.1, h.2⟩
theorem key_fd {a : Ad} (h : Right a) : keyL a = textL ⟨foldL a.l, a.d⟩ := by
  have := text_fd a.l a.d
  rw [h.2] at this
  exact this.symm
theorem right_build {l d : List UInt8} {a : Ad} (h : buildL l d = (a, 0)) : Right a := by
  unfold buildL at h
  split at h
  · rename_i hw
    obtain rfl : (⟨l, foldL d⟩ : Ad) = a := (Prod.mk.inj h).1
    exact ⟨by rw [why_fd2]; exact hw, foldL_foldL d⟩
  · rename_i hw
    exact absurd (Prod.mk.inj h).2 hw
theorem build_right {a : Ad} (h : Right a) : buildL a.l a.d = (a, 0) := by
  unfold buildL
  rw [if_pos h.1, h.2]
theorem build_iff (a : Ad) : Right a ↔ buildL a.l a.d = (a, 0) := ⟨build_right, right_build⟩

/-! Tokens: words with dots between them. -/
def atB (t : Tk) : Bool := decide (t.kind = 3) && (bl t.text == [64])
def dotB (t : Tk) : Bool := decide (t.kind = 3) && (bl t.text == [46])
def wordK (k : Int) : Bool := decide (k = 1) || decide (k = 2)
def atomK (k : Int) : Bool := decide (k = 1)
def joined (ok : Int → Bool) : Nat → List Tk → Bool
  | i, [] => i % 2 == 1
  | i, t :: T => (if i % 2 = 1 then dotB t else ok t.kind) && joined ok (i + 1) T
def textsL (T : List Tk) : List UInt8 := (T.map fun t => bl t.text).flatten
def atN (T : List Tk) : Nat := T.findIdx atB
def formT (T : List Tk) : Bool := decide (atN T < T.length) && (joined wordK 0 (T.take (atN T)) && joined atomK 0 (T.drop (atN T + 1)))
def ofL (T : List Tk) : Ad × Nat := if formT T = true then buildL (textsL (T.take (atN T))) (textsL (T.drop (atN T + 1))) else (noAd, 130)
def parseL (s : List UInt8) : Ad × Nat := if (scan s).1 = 0 then ofL (scan s).2 else (noAd, 130)
def strictL (s : List UInt8) : Ad × Nat := if (parseL s).2 = 0 then (if foldL s = keyL (parseL s).1 then parseL s else (noAd, 130)) else (noAd, (parseL s).2)
theorem build_cases (l d : List UInt8) : (∃ a, buildL l d = (a, 0)) ∨ buildL l d = (noAd, 130) ∨ buildL l d = (noAd, 2) := by
  unfold buildL
  split
  · exact .inl ⟨_, rfl⟩
  · rename_i h
    rcases whyC_cases l d with e | e | e
    · rw [e]; exact .inr (.inl rfl)
    · rw [e]; exact .inr (.inr rfl)
    · exact absurd e h
theorem of_cases (T : List Tk) : (∃ a, ofL T = (a, 0) ∧ Right a) ∨ ofL T = (noAd, 130) ∨ ofL T = (noAd, 2) := by
  unfold ofL
  split
  · rcases build_cases (textsL (T.take (atN T))) (textsL (T.drop (atN T + 1))) with ⟨a, h⟩ | h
    · exact .inl ⟨a, h, right_build h⟩
    · exact .inr h
  · exact .inr (.inl rfl)
theorem parse_cases (s : List UInt8) : (∃ a, parseL s = (a, 0) ∧ Right a) ∨ parseL s = (noAd, 130) ∨ parseL s = (noAd, 2) := by
  unfold parseL
  split
  · exact of_cases _
  · exact .inr (.inl rfl)

/-! An address that is right is read of its text. -/
def tkD : List (List UInt8) → List Tk
  | [] => []
  | [p] => [⟨1, ba p⟩]
  | p :: q :: r => ⟨1, ba p⟩ :: ⟨3, ba [46]⟩ :: tkD (q :: r)
theorem am46 : am 46 = false := by decide
theorem sp46 : sp 46 = true := by decide
theorem am64 : am 64 = false := by decide
theorem sp64 : sp 64 = true := by decide
theorem sc_dotted : ∀ (ps : List (List UInt8)) (out : List Tk) (y : List UInt8), ps ≠ [] → (∀ p ∈ ps, atomB p = true) → (∀ c t, y = c :: t → am c = false) → sc false .z out (join ps ++ y) = sc false .z (out ++ tkD ps) y
  | [], _, _, h, _, _ => absurd rfl h
  | [p], out, y, _, h, hy => by
    obtain ⟨h1, h2⟩ := atomB_iff.1 (h p (by simp))
    exact sc_one out h1 h2 hy
  | p :: q :: r, out, y, _, h, hy => by
    obtain ⟨h1, h2⟩ := atomB_iff.1 (h p (by simp))
    rw [join_cons (by simp), List.append_assoc, List.cons_append, sc_one out h1 h2 (by intro c t e; obtain ⟨rfl, _⟩ := List.cons.inj e; exact am46), sc_special _ _ _ sp46, sc_dotted (q :: r) _ y (by simp) (fun x hx => h x (List.mem_cons_of_mem _ hx)) hy]
    simp [tkD]
theorem label_atom {p : List UInt8} (h : labelB p = true) : atomB p = true := by
  unfold labelB at h
  simp only [Bool.and_eq_true, Bool.not_eq_true', List.all_eq_true] at h
  rw [atomB_iff]
  exact ⟨by (intro e; rw [e] at h; exact absurd h.1 (by decide)), fun c hc => lb_am c (h.2.2.2 c hc)⟩
theorem joined_tkD {ok : Int → Bool} (h1 : ok 1 = true) : ∀ (ps : List (List UInt8)) (i : Nat), ps ≠ [] → i % 2 = 0 → joined ok i (tkD ps) = true
  | [], _, h, _ => absurd rfl h
  | [p], i, _, hi => by
    simp only [tkD, joined]
    rw [if_neg (by omega), h1, Bool.true_and, beq_iff_eq]
    omega
  | p :: q :: r, i, _, hi => by
    simp only [tkD, joined]
    rw [if_neg (by omega), if_pos (by omega), joined_tkD h1 (q :: r) (i + 1 + 1) (by simp) (by omega), h1]
    simp [dotB]
theorem texts_tkD : ∀ ps : List (List UInt8), textsL (tkD ps) = join ps
  | [] => rfl
  | [p] => by simp [tkD, textsL, join]
  | p :: q :: r => by
    have ih := texts_tkD (q :: r)
    unfold textsL at *
    simp only [tkD, List.map_cons, List.flatten_cons, join, ih]
    rfl
theorem tkD_noat : ∀ ps : List (List UInt8), ∀ t ∈ tkD ps, atB t = false
  | [], t, h => by cases h
  | [p], t, h => by
    obtain rfl := List.mem_singleton.1 h
    rfl
  | p :: q :: r, t, h => by
    rcases List.mem_cons.1 h with rfl | h
    · rfl
    · rcases List.mem_cons.1 h with rfl | h
      · rfl
      · exact tkD_noat (q :: r) t h
theorem find_at (L R : List Tk) (x : Tk) (hL : ∀ t ∈ L, atB t = false) (hx : atB x = true) : atN (L ++ x :: R) = L.length := by
  unfold atN
  rw [List.findIdx_append]
  have : List.findIdx atB L = L.length := List.findIdx_eq_length.2 hL
  rw [if_neg (by omega), List.findIdx_cons, hx]
  simp
/-- The tokens of a local part as it is written. -/
def tkL (l : List UInt8) : List Tk := if dottedB l = true then tkD (pieces l) else [⟨2, ba l⟩]
theorem sc_local (l : List UInt8) (y : List UInt8) (hl : ∀ c ∈ l, tx c = true) (hy : ∀ c t, y = c :: t → am c = false) : sc false .z [] ((if dottedB l = true then l else quoteL l) ++ y) = sc false .z (tkL l) y := by
  unfold tkL
  split
  · rename_i h
    have := sc_dotted (pieces l) [] y (pcs_ne l []) (fun p hp => List.all_eq_true.1 h p hp) hy
    rw [join_pieces] at this
    exact this
  · have := sc_quoted l [] y hl
    exact this
theorem joined_tkL (l : List UInt8) : joined wordK 0 (tkL l) = true := by
  unfold tkL
  split
  · exact joined_tkD rfl _ 0 (pcs_ne l []) rfl
  · rfl
theorem texts_tkL (l : List UInt8) : textsL (tkL l) = l := by
  unfold tkL
  split
  · rw [texts_tkD, join_pieces]
  · simp [textsL]
theorem tkL_noat (l : List UInt8) : ∀ t ∈ tkL l, atB t = false := by
  unfold tkL
  split
  · exact tkD_noat _
  · intro t h
    obtain rfl := List.mem_singleton.1 h
    rfl
theorem right_parts {a : Ad} (h : Right a) : (∀ c ∈ a.l, pl c = true) ∧ (∀ p ∈ pieces a.d, labelB p = true) ∧ a.l.length ≤ 64 ∧ a.d.length ≤ 253 ∧ (textL a).length ≤ 254 := by
  obtain ⟨h1, h2⟩ := h
  unfold whyC at h1
  split at h1
  · cases h1
  · rename_i hf
    split at h1
    · cases h1
    · rename_i hb
      unfold formB at hf
      unfold bigB at hb
      rw [h2] at hb
      simp only [Bool.not_eq_true, Bool.or_eq_false_iff, Bool.not_eq_false', beq_iff_eq, decide_eq_false_iff_not, List.all_eq_true] at hf hb
      obtain ⟨_, h3, _⟩ := hf
      obtain ⟨h4, h5, h6⟩ := hb
      unfold domC at h4
      split at h4
      · cases h4
      · rename_i h7
        split at h4
        · cases h4
        · rename_i h8
          unfold longB at h8
          simp only [Bool.not_eq_true, Bool.or_eq_false_iff, decide_eq_false_iff_not] at h8
          simp only [Bool.not_eq_false, List.all_eq_true] at h7
          exact ⟨h3, h7, by omega, by omega, Nat.le_of_not_lt h6⟩
theorem scan_text {a : Ad} (h : Right a) : scan (textL a) = (0, tkL a.l ++ ⟨3, ba [64]⟩ :: tkD (pieces a.d)) := by
  obtain ⟨h1, h2, _⟩ := right_parts h
  unfold textL
  show sc false .z [] _ = _
  rw [sc_local a.l (64 :: a.d) (fun c hc => pl_tx c (h1 c hc)) (by intro c t e; obtain ⟨rfl, _⟩ := List.cons.inj e; exact am64), sc_special _ _ _ sp64]
  have := sc_dotted (pieces a.d) (tkL a.l ++ [⟨3, ba [64]⟩]) [] (pcs_ne a.d []) (fun p hp => label_atom (h2 p hp)) (by intro c t e; cases e)
  rw [join_pieces, List.append_nil] at this
  rw [this, sc_nil]
  simp [fin]
theorem parse_text {a : Ad} (h : Right a) : parseL (textL a) = (a, 0) := by
  unfold parseL
  rw [scan_text h]
  simp only [if_true]
  have hf := find_at (tkL a.l) (tkD (pieces a.d)) ⟨3, ba [64]⟩ (tkL_noat a.l) rfl
  unfold ofL formT
  rw [hf]
  have e1 : (tkL a.l ++ ⟨3, ba [64]⟩ :: tkD (pieces a.d)).take (tkL a.l).length = tkL a.l := by simp
  have e2 : (tkL a.l ++ ⟨3, ba [64]⟩ :: tkD (pieces a.d)).drop ((tkL a.l).length + 1) = tkD (pieces a.d) := by
    rw [List.drop_append, List.drop_eq_nil_of_le (by omega)]
    simp
  have e3 : joined atomK 0 (tkD (pieces a.d)) = true := joined_tkD rfl _ 0 (pcs_ne a.d []) rfl
  rw [e1, e2, joined_tkL, e3, texts_tkL, texts_tkD, join_pieces, if_pos (by simp), build_right h]
theorem parse_key {a : Ad} (h : Right a) : parseL (keyL a) = (⟨foldL a.l, a.d⟩, 0) := by
  rw [key_fd h]
  exact parse_text (right_fd h)
theorem strict_text {a : Ad} (h : Right a) : strictL (textL a) = (a, 0) := by
  unfold strictL
  rw [parse_text h]
  simp [keyL]
theorem key_low {a : Ad} (h : Right a) : keyL ⟨foldL a.l, a.d⟩ = keyL a := by
  rw [key_fd (right_fd h), foldL_foldL, key_fd h]
theorem parse_right {s : List UInt8} {a : Ad} (h : parseL s = (a, 0)) : Right a := by
  rcases parse_cases s with ⟨b, e, hr⟩ | e | e <;> rw [e] at h
  · obtain rfl := (Prod.mk.inj h).1
    exact hr
  · cases (Prod.mk.inj h).2
  · cases (Prod.mk.inj h).2
theorem right_iff_parse (a : Ad) : Right a ↔ parseL (textL a) = (a, 0) := ⟨parse_text, parse_right⟩
theorem keys_iff {a b : Ad} (ha : Right a) (hb : Right b) : keyL a = keyL b ↔ (a.d = b.d ∧ foldL a.l = foldL b.l) := by
  constructor
  · intro h
    have h1 := parse_key ha
    rw [h, parse_key hb] at h1
    have h2 := (Prod.mk.inj h1).1
    injection h2 with h3 h4
    exact ⟨h4.symm, h3.symm⟩
  · rintro ⟨h1, h2⟩
    rw [key_fd ha, key_fd hb, h1, h2]
theorem strict_cases (s : List UInt8) : strictL s = parseL s ∨ strictL s = (noAd, 130) := by
  unfold strictL
  split
  · split
    · exact .inl rfl
    · exact .inr rfl
  · rename_i h
    rcases parse_cases s with ⟨a, e, _⟩ | e | e
    · rw [e] at h; exact absurd rfl h
    · rw [e]; exact .inl rfl
    · rw [e]; exact .inl rfl
end Go.Proofs.YtklmhjoiffaniaaDoor.Addr
