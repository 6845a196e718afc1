/-
  Tokens in plain words, no program: what any bytes are scanned to, byte by byte; how texts are quoted and tokens printed; and what follows of these.
-/
import Derived.Lib.Hide
namespace Go.Proofs.YtlkfkgkolaaomaaDoor.Lex

abbrev bl (s : ByteArray) : List UInt8 := s.data.toList
abbrev ba (l : List UInt8) : ByteArray := ⟨l.toArray⟩
theorem bl_len (s : ByteArray) : (bl s).length = s.size := by simp
theorem ba_size (l : List UInt8) : (ba l).size = l.length := by simp [ByteArray.size]
theorem bl_ba (l : List UInt8) : bl (ba l) = l := by simp
theorem ba_bl (s : ByteArray) : ba (bl s) = s := by simp

/-- A token: its kind (1 Atom, 2 Quoted, 3 Special) and its text. -/
structure Tk where
  kind : Int
  text : ByteArray

/-! Bytes: text bytes, those of atoms, specials, blanks. -/
def txN (n : Nat) : Bool := n == 9 || (decide (32 ≤ n) && !(n == 127))
def marks : List Nat := [33, 35, 36, 37, 38, 39, 42, 43, 45, 47, 61, 63, 94, 95, 96, 123, 124, 125, 126]
def amN (n : Nat) : Bool := decide (97 ≤ n) && decide (n ≤ 122) || (decide (65 ≤ n) && decide (n ≤ 90) || (decide (48 ≤ n) && decide (n ≤ 57) || (decide (127 < n) || marks.contains n)))
def spN (n : Nat) : Bool := [60, 62, 58, 59, 64, 44, 46].contains n
def bkN (n : Nat) : Bool := n == 32 || n == 9
theorem all256 {p : Nat → Bool} (h : (List.range 256).all p = true) (n : Nat) (hn : n < 256) : p n = true := List.all_eq_true.1 h n (List.mem_range.2 hn)
theorem am_facts (n : Nat) (hn : n < 256) (h : amN n = true) : n ≠ 34 ∧ n ≠ 40 ∧ n ≠ 32 ∧ n ≠ 9 ∧ n ≠ 13 ∧ spN n = false ∧ bkN n = false ∧ txN n = true := by
  have := all256 (p := fun n => !amN n || (!(n == 34) && !(n == 40) && !(n == 32) && !(n == 9) && !(n == 13) && !spN n && !bkN n && txN n)) (by decide +kernel) n hn
  simp only [h, Bool.not_true, Bool.false_or, Bool.and_eq_true, Bool.not_eq_true', beq_eq_false_iff_ne] at this
  obtain ⟨⟨⟨⟨⟨⟨⟨h1, h2⟩, h3⟩, h4⟩, h5⟩, h6⟩, h7⟩, h8⟩ := this
  exact ⟨h1, h2, h3, h4, h5, h6, h7, h8⟩
theorem sp_facts (n : Nat) (hn : n < 256) (h : spN n = true) : n ≠ 34 ∧ n ≠ 40 ∧ n ≠ 13 ∧ amN n = false ∧ bkN n = false := by
  have := all256 (p := fun n => !spN n || (!(n == 34) && !(n == 40) && !(n == 13) && !amN n && !bkN n)) (by decide +kernel) n hn
  simp only [h, Bool.not_true, Bool.false_or, Bool.and_eq_true, Bool.not_eq_true', beq_eq_false_iff_ne] at this
  obtain ⟨⟨⟨⟨h1, h2⟩, h3⟩, h4⟩, h5⟩ := this
  exact ⟨h1, h2, h3, h4, h5⟩
theorem bk_facts (n : Nat) (hn : n < 256) (h : bkN n = true) : n ≠ 34 ∧ n ≠ 40 ∧ n ≠ 13 ∧ amN n = false ∧ spN n = false := by
  have := all256 (p := fun n => !bkN n || (!(n == 34) && !(n == 40) && !(n == 13) && !amN n && !spN n)) (by decide +kernel) n hn
  simp only [h, Bool.not_true, Bool.false_or, Bool.and_eq_true, Bool.not_eq_true', beq_eq_false_iff_ne] at this
  obtain ⟨⟨⟨⟨h1, h2⟩, h3⟩, h4⟩, h5⟩ := this
  exact ⟨h1, h2, h3, h4, h5⟩
theorem tx_facts (n : Nat) (hn : n < 256) (h : txN n = true) : n ≠ 13 ∧ n ≠ 10 := by
  have := all256 (p := fun n => !txN n || (!(n == 13) && !(n == 10))) (by decide +kernel) n hn
  simp only [h, Bool.not_true, Bool.false_or, Bool.and_eq_true, Bool.not_eq_true', beq_eq_false_iff_ne] at this
  exact this
def tx (c : UInt8) : Bool := txN c.toNat
def am (c : UInt8) : Bool := amN c.toNat
def sp (c : UInt8) : Bool := spN c.toNat
def bk (c : UInt8) : Bool := bkN c.toNat
/-- Does a fold come next? -/
def fold : List UInt8 → Bool
  | c :: d :: e :: _ => c.toNat == 13 && (d.toNat == 10 && bk e)
  | _ => false
theorem fold_ne {c : UInt8} {t : List UInt8} (h : c.toNat ≠ 13) : fold (c :: t) = false := by
  unfold fold
  split
  · rename_i h1
    obtain ⟨rfl, _⟩ := List.cons.inj h1
    simp [h]
  · rfl
theorem fold_cons {l : List UInt8} (h : fold l = true) : ∃ c d e t, l = c :: d :: e :: t ∧ c.toNat = 13 ∧ d.toNat = 10 ∧ bk e = true := by
  unfold fold at h
  split at h
  · rename_i c d e t
    simp only [Bool.and_eq_true, beq_iff_eq] at h
    exact ⟨c, d, e, t, rfl, h.1, h.2.1, h.2.2⟩
  · cases h

/-! Where a scan stands: outside, in an atom, in a quoted text, behind a \ there, in a comment so deep, behind a \ there. -/
inductive Md where
  | z | a (w : List UInt8) | q (w : List UInt8) | qb (w : List UInt8) | c (d : Nat) | cb (d : Nat)
def Md.word : Md → List UInt8
  | .a w => w | .q w => w | .qb w => w | _ => []
def flush : Md → List Tk → List Tk
  | .a w, out => out ++ [⟨1, ba w⟩]
  | _, out => out
def fin : Md → List Tk → Nat × List Tk
  | .z, out => (0, out)
  | .a w, out => (0, out ++ [⟨1, ba w⟩])
  | _, _ => (9, [])
/-- What the rest leads to: a code and the tokens. The first part: is the byte at hand the second one of a fold? -/
def sc : Bool → Md → List Tk → List UInt8 → Nat × List Tk
  | _, q, out, [] => fin q out
  | true, q, out, _ :: t => sc false q out t
  | false, .qb w, out, c :: t => if tx c = true then sc false (.q (w ++ [c])) out t else (3, [])
  | false, .cb d, out, c :: t => if tx c = true then sc false (.c d) out t else (3, [])
  | false, .q w, out, c :: t =>
    if fold (c :: t) = true then sc true (.q w) out t
    else if c.toNat = 92 then sc false (.qb w) out t
    else if tx c = false then (3, [])
    else if c.toNat = 34 then sc false .z (out ++ [⟨2, ba w⟩]) t
    else sc false (.q (w ++ [c])) out t
  | false, .c d, out, c :: t =>
    if fold (c :: t) = true then sc true (.c d) out t
    else if c.toNat = 92 then sc false (.cb d) out t
    else if tx c = false then (3, [])
    else if c.toNat = 40 then (if d = 16 then (1, []) else sc false (.c (d + 1)) out t)
    else if c.toNat = 41 then (if d = 1 then sc false .z out t else sc false (.c (d - 1)) out t)
    else sc false (.c d) out t
  | false, q, out, c :: t =>
    if am c = true then sc false (.a (q.word ++ [c])) out t
    else if fold (c :: t) = true then sc true .z (flush q out) t
    else if c.toNat = 34 then sc false (.q []) (flush q out) t
    else if c.toNat = 40 then sc false (.c 1) (flush q out) t
    else if sp c = true then sc false .z (flush q out ++ [⟨3, ba [c]⟩]) t
    else if bk c = true then sc false .z (flush q out) t
    else (3, [])
def scan (l : List UInt8) : Nat × List Tk := sc false .z [] l

theorem sc_nil (k : Bool) (q : Md) (out : List Tk) : sc k q out [] = fin q out := by cases k <;> cases q <;> rfl
theorem sc_true (q : Md) (out : List Tk) (c : UInt8) (t : List UInt8) : sc true q out (c :: t) = sc false q out t := by cases q <;> rfl
/-- Outside, or in an atom. -/
def Free : Md → Prop
  | .z => True | .a _ => True | _ => False
theorem sc_free {q : Md} (h : Free q) (out : List Tk) (c : UInt8) (t : List UInt8) : sc false q out (c :: t) =
    if am c = true then sc false (.a (q.word ++ [c])) out t
    else if fold (c :: t) = true then sc true .z (flush q out) t
    else if c.toNat = 34 then sc false (.q []) (flush q out) t
    else if c.toNat = 40 then sc false (.c 1) (flush q out) t
    else if sp c = true then sc false .z (flush q out ++ [⟨3, ba [c]⟩]) t
    else if bk c = true then sc false .z (flush q out) t
    else (3, []) := by cases q <;> first | rfl | cases h
theorem sc_q (w : List UInt8) (out : List Tk) (c : UInt8) (t : List UInt8) : sc false (.q w) out (c :: t) =
    if fold (c :: t) = true then sc true (.q w) out t
    else if c.toNat = 92 then sc false (.qb w) out t
    else if tx c = false then (3, [])
    else if c.toNat = 34 then sc false .z (out ++ [⟨2, ba w⟩]) t
    else sc false (.q (w ++ [c])) out t := rfl
theorem sc_c (d : Nat) (out : List Tk) (c : UInt8) (t : List UInt8) : sc false (.c d) out (c :: t) =
    if fold (c :: t) = true then sc true (.c d) out t
    else if c.toNat = 92 then sc false (.cb d) out t
    else if tx c = false then (3, [])
    else if c.toNat = 40 then (if d = 16 then (1, []) else sc false (.c (d + 1)) out t)
    else if c.toNat = 41 then (if d = 1 then sc false .z out t else sc false (.c (d - 1)) out t)
    else sc false (.c d) out t := rfl
theorem sc_qb (w : List UInt8) (out : List Tk) (c : UInt8) (t : List UInt8) : sc false (.qb w) out (c :: t) = if tx c = true then sc false (.q (w ++ [c])) out t else (3, []) := rfl
theorem sc_cb (d : Nat) (out : List Tk) (c : UInt8) (t : List UInt8) : sc false (.cb d) out (c :: t) = if tx c = true then sc false (.c d) out t else (3, []) := rfl

/-! Tokens outside, one at a time. -/
theorem sc_flush (w : List UInt8) (out : List Tk) (l : List UInt8) (h : ∀ c t, l = c :: t → am c = false) : sc false (.a w) out l = sc false .z (out ++ [⟨1, ba w⟩]) l := by
  cases l with
  | nil => rfl
  | cons c t =>
    have hc := h c t rfl
    rw [sc_free (q := .a w) trivial, sc_free (q := .z) trivial]
    simp [hc, flush]
theorem sc_atom : ∀ (x : List UInt8) (w : List UInt8) (out : List Tk) (y : List UInt8), (∀ c ∈ x, am c = true) → sc false (.a w) out (x ++ y) = sc false (.a (w ++ x)) out y
  | [], w, out, y, _ => by simp
  | c :: x, w, out, y, h => by
    rw [List.cons_append, sc_free (q := .a w) trivial, if_pos (h c (by simp)), sc_atom x _ out y (fun d hd => h d (by simp [hd]))]
    simp [Md.word]
theorem sc_word (x : List UInt8) (out : List Tk) (y : List UInt8) (hx : x ≠ []) (h : ∀ c ∈ x, am c = true) : sc false .z out (x ++ y) = sc false (.a x) out y := by
  cases x with
  | nil => exact absurd rfl hx
  | cons c x =>
    rw [List.cons_append, sc_free (q := .z) trivial, if_pos (h c (by simp)), sc_atom x _ out y (fun d hd => h d (by simp [hd]))]
    rfl
theorem sc_one {x y : List UInt8} (out : List Tk) (hx : x ≠ []) (h : ∀ c ∈ x, am c = true) (hy : ∀ c t, y = c :: t → am c = false) : sc false .z out (x ++ y) = sc false .z (out ++ [⟨1, ba x⟩]) y := by
  rw [sc_word x out y hx h, sc_flush x out y hy]
theorem sc_blank (out : List Tk) (c : UInt8) (t : List UInt8) (h : bk c = true) : sc false .z out (c :: t) = sc false .z out t := by
  obtain ⟨h1, h2, h3, h4, h5⟩ := bk_facts _ c.toNat_lt h
  have ha : am c = false := h4
  have hs : sp c = false := h5
  rw [sc_free (q := .z) trivial, ha, fold_ne h3, if_neg (by decide), if_neg (by decide), if_neg h1, if_neg h2, hs, if_neg (by decide), if_pos h]
  rfl
theorem sc_special (out : List Tk) (c : UInt8) (t : List UInt8) (h : sp c = true) : sc false .z out (c :: t) = sc false .z (out ++ [⟨3, ba [c]⟩]) t := by
  obtain ⟨h1, h2, h3, h4, _⟩ := sp_facts _ c.toNat_lt h
  have ha : am c = false := h4
  rw [sc_free (q := .z) trivial, ha, fold_ne h3, if_neg (by decide), if_neg (by decide), if_neg h1, if_neg h2, if_pos h]
  rfl
theorem am_ne {c : UInt8} (h : c.toNat = 34 ∨ c.toNat = 40 ∨ c.toNat = 13) : ¬ am c = true := by
  intro e
  obtain ⟨h1, h2, _, _, h5, _⟩ := am_facts _ c.toNat_lt e
  omega
theorem sc_quote (out : List Tk) (c : UInt8) (t : List UInt8) (h : c.toNat = 34) : sc false .z out (c :: t) = sc false (.q []) out t := by
  rw [sc_free (q := .z) trivial, if_neg (am_ne (c := c) (.inl h)), if_neg (by rw [fold_ne (by omega)]; decide), if_pos h]
  rfl
theorem sc_paren (out : List Tk) (c : UInt8) (t : List UInt8) (h : c.toNat = 40) : sc false .z out (c :: t) = sc false (.c 1) out t := by
  rw [sc_free (q := .z) trivial, if_neg (am_ne (c := c) (.inr (.inl h))), if_neg (by rw [fold_ne (by omega)]; decide), if_neg (by omega), if_pos h]
  rfl
theorem sc_fold (out : List Tk) (l : List UInt8) (h : fold l = true) : sc false .z out l = sc false .z out (l.drop 2) := by
  obtain ⟨c, d, e, t, rfl, h1, h2, h3⟩ := fold_cons h
  rw [sc_free (q := .z) trivial, if_neg (am_ne (c := c) (.inr (.inr h1))), if_pos h, sc_true]
  rfl
theorem sc_bad (out : List Tk) (c : UInt8) (t : List UInt8) (h1 : bk c = false) (h2 : fold (c :: t) = false) (h3 : c.toNat ≠ 40) (h4 : c.toNat ≠ 34) (h5 : sp c = false) (h6 : am c = false) : sc false .z out (c :: t) = (3, []) := by
  rw [sc_free (q := .z) trivial]
  simp [h1, h2, h3, h4, h5, h6]

/-! Within quoted texts and comments: what the next part stands for, its size, and the code. -/
def innerL (l : List UInt8) : List UInt8 × Nat × Nat :=
  if fold l = true then ([], 2, 0)
  else match l with
    | [] => ([], 0, 3)
    | [c] => if c.toNat = 92 then ([], 0, 9) else if tx c = true then ([c], 1, 0) else ([], 0, 3)
    | c :: d :: _ => if c.toNat = 92 then (if tx d = true then ([d], 2, 0) else ([], 0, 3)) else if tx c = true then ([c], 1, 0) else ([], 0, 3)
theorem inner_fold {l : List UInt8} (h : fold l = true) : innerL l = ([], 2, 0) := by unfold innerL; rw [if_pos h]
theorem inner_q (w : List UInt8) (out : List Tk) (c : UInt8) (t : List UInt8) (hc : c.toNat ≠ 34) :
    ((innerL (c :: t)).2.2 = 0 ∧ 1 ≤ (innerL (c :: t)).2.1 ∧ (innerL (c :: t)).2.1 ≤ t.length + 1 ∧ (innerL (c :: t)).1.length ≤ 1 ∧ sc false (.q w) out (c :: t) = sc false (.q (w ++ (innerL (c :: t)).1)) out ((c :: t).drop (innerL (c :: t)).2.1)) ∨
    ((innerL (c :: t)).2.2 ≠ 0 ∧ (innerL (c :: t)).2.2 ≤ 9 ∧ sc false (.q w) out (c :: t) = ((innerL (c :: t)).2.2, [])) := by
  rw [sc_q]
  by_cases hf : fold (c :: t) = true
  · rw [inner_fold hf, if_pos hf]
    obtain ⟨c', d, e, t', h1, h2, h3, h4⟩ := fold_cons hf
    obtain ⟨rfl, rfl⟩ := List.cons.inj h1
    left
    refine ⟨rfl, by decide, by simp, by simp, ?_⟩
    rw [sc_true]
    simp
  · rw [if_neg hf]
    unfold innerL
    rw [if_neg hf]
    cases t with
    | nil =>
      by_cases h92 : c.toNat = 92
      · right; simp [h92, sc_nil, fin]
      · by_cases ht : tx c = true
        · left; simp [h92, ht, hc]
        · right; simp [h92, ht]
    | cons d t =>
      by_cases h92 : c.toNat = 92
      · by_cases ht : tx d = true
        · left; simp [h92, ht, sc_qb]
        · right; simp [h92, ht, sc_qb]
      · by_cases ht : tx c = true
        · left; simp [h92, ht, hc]
        · right; simp [h92, ht]
theorem inner_c (n : Nat) (out : List Tk) (c : UInt8) (t : List UInt8) (h40 : c.toNat ≠ 40) (h41 : c.toNat ≠ 41) :
    ((innerL (c :: t)).2.2 = 0 ∧ 1 ≤ (innerL (c :: t)).2.1 ∧ (innerL (c :: t)).2.1 ≤ t.length + 1 ∧ (innerL (c :: t)).1.length ≤ 1 ∧ sc false (.c n) out (c :: t) = sc false (.c n) out ((c :: t).drop (innerL (c :: t)).2.1)) ∨
    ((innerL (c :: t)).2.2 ≠ 0 ∧ (innerL (c :: t)).2.2 ≤ 9 ∧ sc false (.c n) out (c :: t) = ((innerL (c :: t)).2.2, [])) := by
  rw [sc_c]
  by_cases hf : fold (c :: t) = true
  · rw [inner_fold hf, if_pos hf]
    obtain ⟨c', d, e, t', h1, h2, h3, h4⟩ := fold_cons hf
    obtain ⟨rfl, rfl⟩ := List.cons.inj h1
    left
    refine ⟨rfl, by decide, by simp, by simp, ?_⟩
    rw [sc_true]
    simp
  · rw [if_neg hf]
    unfold innerL
    rw [if_neg hf]
    cases t with
    | nil =>
      by_cases h92 : c.toNat = 92
      · right; simp [h92, sc_nil, fin]
      · by_cases ht : tx c = true
        · left; simp [h92, ht, h40, h41]
        · right; simp [h92, ht]
    | cons d t =>
      by_cases h92 : c.toNat = 92
      · by_cases ht : tx d = true
        · left; simp [h92, ht, sc_cb]
        · right; simp [h92, ht, sc_cb]
      · by_cases ht : tx c = true
        · left; simp [h92, ht, h40, h41]
        · right; simp [h92, ht]
theorem tx34 : tx 34 = true := by decide
theorem sc_close (w : List UInt8) (out : List Tk) (c : UInt8) (t : List UInt8) (h : c.toNat = 34) : sc false (.q w) out (c :: t) = sc false .z (out ++ [⟨2, ba w⟩]) t := by
  have hc : c = 34 := UInt8.toNat.inj h
  subst hc
  rw [sc_q, if_neg (by rw [fold_ne (by decide)]; decide), if_neg (by decide), if_neg (by decide), if_pos h]
theorem sc_open (d : Nat) (out : List Tk) (c : UInt8) (t : List UInt8) (h : c.toNat = 40) : sc false (.c d) out (c :: t) = if d = 16 then (1, []) else sc false (.c (d + 1)) out t := by
  have hc : c = 40 := UInt8.toNat.inj h
  subst hc
  rw [sc_c, if_neg (by rw [fold_ne (by decide)]; decide), if_neg (by decide), if_neg (by decide), if_pos h]
theorem sc_shut (d : Nat) (out : List Tk) (c : UInt8) (t : List UInt8) (h : c.toNat = 41) : sc false (.c d) out (c :: t) = if d = 1 then sc false .z out t else sc false (.c (d - 1)) out t := by
  have hc : c = 41 := UInt8.toNat.inj h
  subst hc
  rw [sc_c, if_neg (by rw [fold_ne (by decide)]; decide), if_neg (by decide), if_neg (by decide), if_neg (by decide), if_pos h]

/-! Texts quoted; tokens printed. -/
def qbyte (c : UInt8) : List UInt8 := if c.toNat = 34 ∨ c.toNat = 92 then [92, c] else if tx c = true then [c] else [32]
def body (s : List UInt8) : List UInt8 := s.flatMap qbyte
def quoteL (s : List UInt8) : List UInt8 := 34 :: (body s ++ [34])
def atomB (s : List UInt8) : Bool := !s.isEmpty && s.all am
def wordL (s : List UInt8) : List UInt8 := if atomB s = true then s else quoteL s
def tokL (t : Tk) : List UInt8 := if t.kind = 2 then quoteL (bl t.text) else bl t.text
def gap (p k : Int) : List UInt8 := if p = 3 ∨ k = 3 then [] else [32]
/-- Tokens printed behind one of kind p. -/
def printP (p : Int) : List Tk → List UInt8
  | [] => []
  | t :: l => gap p t.kind ++ (tokL t ++ printP t.kind l)
def printL (l : List Tk) : List UInt8 := printP 3 l
theorem atomB_iff {s : List UInt8} : atomB s = true ↔ s ≠ [] ∧ ∀ c ∈ s, am c = true := by
  unfold atomB
  simp
theorem sc_body : ∀ (s : List UInt8) (w : List UInt8) (out : List Tk) (r : List UInt8), (∀ c ∈ s, tx c = true) → sc false (.q w) out (body s ++ r) = sc false (.q (w ++ s)) out r
  | [], w, out, r, _ => by simp [body]
  | c :: s, w, out, r, h => by
    have hc := h c (by simp)
    have ih := fun w => sc_body s w out r (fun d hd => h d (by simp [hd]))
    have h13 := (tx_facts _ c.toNat_lt hc).1
    show sc false (.q w) out ((qbyte c ++ body s) ++ r) = _
    unfold qbyte
    by_cases hq : c.toNat = 34 ∨ c.toNat = 92
    · rw [if_pos hq]
      show sc false (.q w) out (92 :: c :: (body s ++ r)) = _
      rw [sc_q, if_neg (by rw [fold_ne (by decide)]; decide), if_pos (by decide), sc_qb, if_pos hc, ih]
      simp
    · rw [if_neg hq, if_pos hc]
      show sc false (.q w) out (c :: (body s ++ r)) = _
      rw [sc_q, if_neg (by rw [fold_ne h13]; decide), if_neg (by omega), if_neg (by rw [hc]; decide), if_neg (by omega), ih]
      simp
theorem sc_quoted (s : List UInt8) (out : List Tk) (r : List UInt8) (h : ∀ c ∈ s, tx c = true) : sc false .z out (quoteL s ++ r) = sc false .z (out ++ [⟨2, ba s⟩]) r := by
  show sc false .z out (34 :: ((body s ++ [34]) ++ r)) = _
  rw [sc_quote _ _ _ rfl, List.append_assoc, sc_body s [] out _ h]
  exact sc_close _ _ _ _ rfl
theorem scan_quote (s : List UInt8) (h : ∀ c ∈ s, tx c = true) : scan (quoteL s) = (0, [⟨2, ba s⟩]) := by
  have := sc_quoted s [] [] h
  rw [List.append_nil] at this
  exact this
theorem scan_atom (s : List UInt8) (h : atomB s = true) : scan s = (0, [⟨1, ba s⟩]) := by
  obtain ⟨h1, h2⟩ := atomB_iff.1 h
  have := sc_word s [] [] h1 h2
  rw [List.append_nil] at this
  exact this
theorem scan_word (s : List UInt8) (h : ∀ c ∈ s, tx c = true) : scan (wordL s) = (0, [⟨if atomB s = true then 1 else 2, ba s⟩]) := by
  unfold wordL
  by_cases ha : atomB s = true
  · rw [if_pos ha, if_pos ha, scan_atom s ha]
  · rw [if_neg ha, if_neg ha, scan_quote s h]

/-! What is scanned can be printed and scanned again. -/
def Ok (t : Tk) : Prop := (t.kind = 1 ∧ bl t.text ≠ [] ∧ ∀ c ∈ bl t.text, am c = true) ∨ (t.kind = 2 ∧ ∀ c ∈ bl t.text, tx c = true) ∨ (t.kind = 3 ∧ ∃ c, bl t.text = [c] ∧ sp c = true)
def OkM : Md → Prop
  | .a w => w ≠ [] ∧ ∀ c ∈ w, am c = true
  | .q w => ∀ c ∈ w, tx c = true
  | .qb w => ∀ c ∈ w, tx c = true
  | _ => True
theorem ok_snoc {out : List Tk} {t : Tk} (h : ∀ x ∈ out, Ok x) (ht : Ok t) : ∀ x ∈ out ++ [t], Ok x := by
  intro x hx
  rcases List.mem_append.1 hx with h1 | h1
  · exact h x h1
  · rw [List.mem_singleton.1 h1]; exact ht
theorem all_snoc {p : UInt8 → Bool} {w : List UInt8} {c : UInt8} (h : ∀ x ∈ w, p x = true) (hc : p c = true) : ∀ x ∈ w ++ [c], p x = true := by
  intro x hx
  rcases List.mem_append.1 hx with h1 | h1
  · exact h x h1
  · rw [List.mem_singleton.1 h1]; exact hc
theorem ok_flush {q : Md} {out : List Tk} (hq : OkM q) (h : ∀ x ∈ out, Ok x) : ∀ x ∈ flush q out, Ok x := by
  cases q with
  | a w => exact ok_snoc h (.inl ⟨rfl, by rw [bl_ba]; exact hq.1, by rw [bl_ba]; exact hq.2⟩)
  | z => exact h
  | q w => exact h
  | qb w => exact h
  | c d => exact h
  | cb d => exact h
/-- How much a mode, and tokens, take. -/
def costM : Md → Nat
  | .a w => w.length + 1 | .q w => w.length + 1 | .qb w => w.length + 1 | _ => 0
def cost (l : List Tk) : Nat := (l.map fun t => t.text.size + 1).sum
theorem cost_snoc (l : List Tk) (t : Tk) : cost (l ++ [t]) = cost l + (t.text.size + 1) := by simp [cost]
theorem cost_flush {q : Md} (h : Free q) (out : List Tk) : cost (flush q out) = cost out + costM q := by
  cases q with
  | z => rfl
  | a w => rw [flush, cost_snoc, ba_size]; rfl
  | q w => cases h
  | qb w => cases h
  | c d => cases h
  | cb d => cases h
theorem word_len (q : Md) (h : Free q) : q.word.length ≤ costM q := by
  cases q <;> simp [Md.word, costM]
theorem ok_word {q : Md} (h : Free q) (hq : OkM q) : ∀ c ∈ q.word, am c = true := by
  cases q with
  | z => intro c hc; cases hc
  | a w => exact hq.2
  | q w => cases h
  | qb w => cases h
  | c d => cases h
  | cb d => cases h
/-- All tokens that come are right, and take no more than twice the bytes. -/
theorem sc_ok : ∀ (l : List UInt8) (k : Bool) (q : Md) (out T : List Tk), OkM q → (∀ x ∈ out, Ok x) → sc k q out l = (0, T) → (∀ x ∈ T, Ok x) ∧ cost T ≤ cost out + costM q + 2 * l.length := by
  intro l
  induction l with
  | nil =>
    intro k q out T hq ho h
    rw [sc_nil] at h
    cases q with
    | z => obtain rfl : out = T := (Prod.mk.inj h).2; exact ⟨ho, by simp [costM]⟩
    | a w =>
      obtain rfl : flush (.a w) out = T := (Prod.mk.inj h).2
      exact ⟨ok_flush hq ho, by rw [cost_flush (q := .a w) trivial]; simp⟩
    | q w => cases (Prod.mk.inj h).1
    | qb w => cases (Prod.mk.inj h).1
    | c d => cases (Prod.mk.inj h).1
    | cb d => cases (Prod.mk.inj h).1
  | cons c t ih =>
    intro k q out T hq ho h
    have hbad : ∀ {n : Nat}, n ≠ 0 → ((n, []) : Nat × List Tk) = (0, T) → False := fun hn e => hn (Prod.mk.inj e).1
    have go : ∀ {k : Bool} {q' : Md} {o' : List Tk}, sc k q' o' t = (0, T) → OkM q' → (∀ x ∈ o', Ok x) → cost o' + costM q' ≤ cost out + costM q + 2 → (∀ x ∈ T, Ok x) ∧ cost T ≤ cost out + costM q + 2 * (c :: t).length := by
      intro k q' o' h4 h1 h2 h3
      obtain ⟨h5, h6⟩ := ih k q' o' T h1 h2 h4
      exact ⟨h5, by simp only [List.length_cons]; omega⟩
    have free : Free q → (∀ x ∈ T, Ok x) ∧ cost T ≤ cost out + costM q + 2 * (c :: t).length := by
      intro hf
      cases k with
      | true => rw [sc_true] at h; exact go h hq ho (by omega)
      | false =>
        rw [sc_free hf] at h
        have hfl := cost_flush hf out
        have hok := ok_flush hq ho
        split at h
        · rename_i ha
          refine go h ⟨by simp, all_snoc (ok_word hf hq) ha⟩ ho ?_
          have := word_len q hf
          simp only [costM, List.length_append, List.length_singleton]
          cases q <;> simp_all [Md.word, costM] <;> omega
        · split at h
          · exact go h trivial hok (by rw [hfl]; simp [costM])
          · split at h
            · exact go h (by intro c hc; cases hc) hok (by rw [hfl]; simp [costM])
            · split at h
              · exact go h trivial hok (by rw [hfl]; simp [costM])
              · split at h
                · rename_i hs
                  refine go h trivial (ok_snoc hok (.inr (.inr ⟨rfl, c, by rw [bl_ba], hs⟩))) ?_
                  rw [cost_snoc, hfl, ba_size]; simp [costM]
                · split at h
                  · exact go h trivial hok (by rw [hfl]; simp [costM])
                  · exact (hbad (by decide) h).elim
    cases q with
    | z => exact free trivial
    | a w => exact free trivial
    | q w =>
      cases k with
      | true => rw [sc_true] at h; exact go h hq ho (by omega)
      | false =>
        rw [sc_q] at h
        split at h
        · exact go h hq ho (by omega)
        · split at h
          · exact go h hq ho (by simp only [costM]; omega)
          · split at h
            · exact (hbad (by decide) h).elim
            · rename_i htx
              split at h
              · exact go h trivial (ok_snoc ho (.inr (.inl ⟨rfl, by rw [bl_ba]; exact hq⟩))) (by rw [cost_snoc, ba_size]; simp only [costM]; omega)
              · exact go h (all_snoc hq (by simpa using htx)) ho (by simp only [costM, List.length_append, List.length_singleton]; omega)
    | qb w =>
      cases k with
      | true => rw [sc_true] at h; exact go h hq ho (by omega)
      | false =>
        rw [sc_qb] at h
        split at h
        · rename_i htx
          exact go h (all_snoc hq htx) ho (by simp only [costM, List.length_append, List.length_singleton]; omega)
        · exact (hbad (by decide) h).elim
    | c d =>
      cases k with
      | true => rw [sc_true] at h; exact go h hq ho (by omega)
      | false =>
        rw [sc_c] at h
        split at h
        · exact go h trivial ho (by simp only [costM]; omega)
        · split at h
          · exact go h trivial ho (by simp only [costM]; omega)
          · split at h
            · exact (hbad (by decide) h).elim
            · split at h
              · split at h
                · exact (hbad (by decide) h).elim
                · exact go h trivial ho (by simp only [costM]; omega)
              · split at h
                · split at h
                  · exact go h trivial ho (by simp only [costM]; omega)
                  · exact go h trivial ho (by simp only [costM]; omega)
                · exact go h trivial ho (by simp only [costM]; omega)
    | cb d =>
      cases k with
      | true => rw [sc_true] at h; exact go h hq ho (by omega)
      | false =>
        rw [sc_cb] at h
        split at h
        · exact go h trivial ho (by simp only [costM]; omega)
        · exact (hbad (by decide) h).elim
theorem scan_ok {l : List UInt8} {T : List Tk} (h : scan l = (0, T)) : (∀ x ∈ T, Ok x) ∧ cost T ≤ 2 * l.length := by
  obtain ⟨h1, h2⟩ := sc_ok l false .z [] T trivial (by intro x hx; cases hx) h
  exact ⟨h1, by simpa [cost, costM] using h2⟩
theorem len_cost (T : List Tk) : T.length ≤ cost T := by
  induction T with
  | nil => simp
  | cons t T ih => simp only [cost, List.map_cons, List.sum_cons, List.length_cons] at *; omega
theorem mem_cost {T : List Tk} {t : Tk} (h : t ∈ T) : t.text.size ≤ cost T := by
  induction T with
  | nil => cases h
  | cons u T ih =>
    simp only [cost, List.map_cons, List.sum_cons] at *
    rcases List.mem_cons.1 h with rfl | h
    · omega
    · have := ih h; omega
theorem qbyte_len (c : UInt8) : (qbyte c).length ≤ 2 := by
  unfold qbyte
  split
  · simp
  · split <;> simp
theorem body_len (s : List UInt8) : (body s).length ≤ 2 * s.length := by
  induction s with
  | nil => simp [body]
  | cons c s ih =>
    have := qbyte_len c
    have e : body (c :: s) = qbyte c ++ body s := rfl
    rw [e, List.length_append, List.length_cons]
    omega
theorem quote_len (s : List UInt8) : (quoteL s).length ≤ 2 * s.length + 2 := by
  have := body_len s
  simp only [quoteL, List.length_cons, List.length_append, List.length_nil]
  omega
theorem word_le (s : List UInt8) : (wordL s).length ≤ 2 * s.length + 2 := by
  unfold wordL
  split
  · omega
  · exact quote_len s
theorem tok_len (t : Tk) : (tokL t).length ≤ 2 * t.text.size + 2 := by
  unfold tokL
  have := quote_len (bl t.text)
  rw [bl_len] at this
  split
  · exact this
  · rw [bl_len]; omega
theorem gap_len (p k : Int) : (gap p k).length ≤ 1 := by
  unfold gap
  split <;> simp
theorem print_len : ∀ (l : List Tk) (p : Int), (printP p l).length ≤ 3 * cost l
  | [], _ => by simp [printP]
  | t :: l, p => by
    have h1 := print_len l t.kind
    have h2 := tok_len t
    have h3 := gap_len p t.kind
    simp only [printP, List.length_append, cost, List.map_cons, List.sum_cons] at *
    omega
/-- Behind a token of kind p. -/
def Behind (p : Int) (q : Md) : Prop := (p = 1 ∧ ∃ w, q = .a w) ∨ (p ≠ 1 ∧ q = .z)
theorem am32 : am 32 = false := by decide
theorem bk32 : bk 32 = true := by decide
theorem behind_free {p : Int} {q : Md} (h : Behind p q) : Free q := by
  rcases h with ⟨_, w, rfl⟩ | ⟨_, rfl⟩ <;> trivial
theorem sc_behind {q : Md} (h : Free q) (out : List Tk) (l : List UInt8) (hl : ∀ c t, l = c :: t → am c = false) : sc false q out l = sc false .z (flush q out) l := by
  cases q with
  | z => rfl
  | a w => exact sc_flush w out l hl
  | q w => cases h
  | qb w => cases h
  | c d => cases h
  | cb d => cases h
theorem sc_gap {q : Md} (h : Free q) (out : List Tk) (l : List UInt8) : sc false q out (32 :: l) = sc false .z (flush q out) l := by
  rw [sc_behind h out (32 :: l) (by intro c t e; obtain ⟨rfl, _⟩ := List.cons.inj e; exact am32), sc_blank _ _ _ bk32]
theorem sc_print : ∀ (l : List Tk) (p : Int) (q : Md) (out : List Tk), Behind p q → (∀ x ∈ l, Ok x) → sc false q out (printP p l) = (0, flush q out ++ l)
  | [], p, q, out, hb, _ => by
    rw [printP, sc_nil, List.append_nil]
    rcases hb with ⟨_, w, rfl⟩ | ⟨_, rfl⟩ <;> rfl
  | t :: l, p, q, out, hb, hl => by
    have ht := hl t (by simp)
    have ih := fun q' o' hb' => sc_print l t.kind q' o' hb' (fun x hx => hl x (by simp [hx]))
    have hf := behind_free hb
    rw [printP]
    obtain ⟨k, x⟩ := t
    have e1 : ∀ o : List Tk, (o ++ [⟨k, x⟩]) ++ l = o ++ (⟨k, x⟩ :: l) := fun o => by simp
    by_cases hk3 : k = 3
    · rcases ht with h | h | ⟨_, c, hc, hsp⟩
      · obtain rfl : k = 1 := h.1
        omega
      · obtain rfl : k = 2 := h.1
        omega
      · have hg : gap p k = [] := by unfold gap; rw [if_pos (.inr hk3)]
        have htk : tokL ⟨k, x⟩ = [c] := by
          unfold tokL
          rw [if_neg (by show ¬ k = 2; omega)]
          exact hc
        rw [show gap p (⟨k, x⟩ : Tk).kind = [] from hg, htk]
        show sc false q out (c :: printP k l) = _
        have ha : am c = false := (sp_facts _ c.toNat_lt hsp).2.2.2.1
        rw [sc_behind hf out _ (by intro c' t' e; obtain ⟨rfl, _⟩ := List.cons.inj e; exact ha), sc_special _ _ _ hsp]
        have hx : (⟨3, ba [c]⟩ : Tk) = ⟨k, x⟩ := by
          have hc' : bl x = [c] := hc
          rw [hk3, ← hc', ba_bl]
        rw [hx, ih .z _ (.inr ⟨by show k ≠ 1; omega, rfl⟩)]
        exact congrArg _ (e1 _)
    · have main : ∀ o : List Tk, sc false .z o (tokL ⟨k, x⟩ ++ printP k l) = (0, o ++ (⟨k, x⟩ :: l)) := by
        intro o
        rcases ht with ⟨h1, h2, h3⟩ | ⟨h1, h2⟩ | ⟨h1, _⟩
        · obtain rfl : k = 1 := h1
          have htk : tokL ⟨1, x⟩ = bl x := rfl
          rw [htk, sc_word (bl x) o _ h2 h3, ih (.a (bl x)) o (.inl ⟨rfl, _, rfl⟩)]
          show (0, (o ++ [⟨1, ba (bl x)⟩]) ++ l) = _
          rw [ba_bl]
          exact congrArg _ (e1 o)
        · obtain rfl : k = 2 := h1
          have htk : tokL ⟨2, x⟩ = quoteL (bl x) := rfl
          rw [htk, sc_quoted (bl x) o _ h2, ba_bl, ih .z _ (.inr ⟨by show (2 : Int) ≠ 1; decide, rfl⟩)]
          exact congrArg _ (e1 o)
        · exact absurd h1 hk3
      by_cases hp3 : p = 3
      · have hg : gap p k = [] := by unfold gap; rw [if_pos (.inl hp3)]
        rw [show gap p (⟨k, x⟩ : Tk).kind = [] from hg]
        rcases hb with ⟨h1, _⟩ | ⟨_, rfl⟩
        · omega
        · exact main out
      · have hg : gap p k = [32] := by unfold gap; rw [if_neg (by intro h; rcases h with h | h; exact hp3 h; exact hk3 h)]
        rw [show gap p (⟨k, x⟩ : Tk).kind = [32] from hg]
        show sc false q out (32 :: (tokL ⟨k, x⟩ ++ printP k l)) = _
        rw [sc_gap hf]
        exact main _
theorem scan_print {l : List UInt8} {T : List Tk} (h : scan l = (0, T)) : scan (printL T) = (0, T) := by
  have := sc_print T 3 .z [] (.inr ⟨by decide, rfl⟩) (scan_ok h).1
  exact this

/-! Part by part. -/
theorem sc_out : ∀ (l : List UInt8) (k : Bool) (q : Md) (o out T : List Tk), sc k q out l = (0, T) → sc k q (o ++ out) l = (0, o ++ T) := by
  intro l
  induction l with
  | nil =>
    intro k q o out T h
    rw [sc_nil] at h ⊢
    cases q with
    | z => obtain rfl : out = T := (Prod.mk.inj h).2; rfl
    | a w =>
      obtain rfl : out ++ [⟨1, ba w⟩] = T := (Prod.mk.inj h).2
      show (0, (o ++ out) ++ [⟨1, ba w⟩]) = _
      rw [List.append_assoc]
    | q w => cases (Prod.mk.inj h).1
    | qb w => cases (Prod.mk.inj h).1
    | c d => cases (Prod.mk.inj h).1
    | cb d => cases (Prod.mk.inj h).1
  | cons c t ih =>
    intro k q o out T h
    have hfl : Free q → flush q (o ++ out) = o ++ flush q out := by
      intro _
      cases q <;> simp [flush]
    have free : Free q → sc k q (o ++ out) (c :: t) = (0, o ++ T) := by
      intro hf
      cases k with
      | true => rw [sc_true] at h ⊢; exact ih _ _ _ _ _ h
      | false =>
        rw [sc_free hf] at h ⊢
        rw [hfl hf]
        repeat' (split at h <;> rename_i h1 <;> first | rw [if_pos h1] | rw [if_neg h1])
        all_goals first | exact ih _ _ _ _ _ h | (rw [List.append_assoc]; exact ih _ _ _ _ _ h) | cases (Prod.mk.inj h).1
    cases q with
    | z => exact free trivial
    | a w => exact free trivial
    | q w =>
      cases k with
      | true => rw [sc_true] at h ⊢; exact ih _ _ _ _ _ h
      | false =>
        rw [sc_q] at h ⊢
        repeat' (split at h <;> rename_i h1 <;> first | rw [if_pos h1] | rw [if_neg h1])
        all_goals first | exact ih _ _ _ _ _ h | (rw [List.append_assoc]; exact ih _ _ _ _ _ h) | cases (Prod.mk.inj h).1
    | qb w =>
      cases k with
      | true => rw [sc_true] at h ⊢; exact ih _ _ _ _ _ h
      | false =>
        rw [sc_qb] at h ⊢
        repeat' (split at h <;> rename_i h1 <;> first | rw [if_pos h1] | rw [if_neg h1])
        all_goals first | exact ih _ _ _ _ _ h | cases (Prod.mk.inj h).1
    | c d =>
      cases k with
      | true => rw [sc_true] at h ⊢; exact ih _ _ _ _ _ h
      | false =>
        rw [sc_c] at h ⊢
        repeat' (split at h <;> rename_i h1 <;> first | rw [if_pos h1] | rw [if_neg h1])
        all_goals first | exact ih _ _ _ _ _ h | cases (Prod.mk.inj h).1
    | cb d =>
      cases k with
      | true => rw [sc_true] at h ⊢; exact ih _ _ _ _ _ h
      | false =>
        rw [sc_cb] at h ⊢
        repeat' (split at h <;> rename_i h1 <;> first | rw [if_pos h1] | rw [if_neg h1])
        all_goals first | exact ih _ _ _ _ _ h | cases (Prod.mk.inj h).1
theorem fold_more {a : List UInt8} (b : List UInt8) (h : fold a = true) : fold (a ++ b) = true := by
  obtain ⟨c, d, e, t, rfl, h1, h2, h3⟩ := fold_cons h
  show fold (c :: d :: e :: (t ++ b)) = true
  simp [fold, h1, h2, h3]
/-- A carriage return that opens no fold is refused wherever it stands. -/
theorem sc_cr {q : Md} {out : List Tk} {c : UInt8} {t : List UInt8} (hc : c.toNat = 13) (h : fold (c :: t) = false) : sc false q out (c :: t) = (3, []) := by
  have hc' : c = 13 := UInt8.toNat.inj hc
  subst hc'
  have free : Free q → sc false q out (13 :: t) = (3, []) := by
    intro hf
    rw [sc_free hf, if_neg (by decide), if_neg (by rw [h]; decide), if_neg (by decide), if_neg (by decide), if_neg (by decide), if_neg (by decide)]
  cases q with
  | z => exact free trivial
  | a w => exact free trivial
  | q w => rw [sc_q, if_neg (by rw [h]; decide), if_neg (by decide), if_pos (by decide)]
  | qb w => rw [sc_qb, if_neg (by decide)]
  | c d => rw [sc_c, if_neg (by rw [h]; decide), if_neg (by decide), if_pos (by decide)]
  | cb d => rw [sc_cb, if_neg (by decide)]
theorem sc_parts (b : List UInt8) (x : UInt8) (hx : bk x = true) : ∀ (n : Nat) (a : List UInt8) (q : Md) (out T : List Tk), a.length ≤ n → sc false q out a = (0, T) → sc false q out (a ++ x :: b) = sc false .z T b := by
  have end_ : ∀ (q : Md) (out T : List Tk), sc false q out [] = (0, T) → sc false q out (x :: b) = sc false .z T b := by
    intro q out T h
    rw [sc_nil] at h
    have ha : am x = false := (bk_facts _ x.toNat_lt hx).2.2.2.1
    cases q with
    | z => obtain rfl : out = T := (Prod.mk.inj h).2; exact sc_blank _ _ _ hx
    | a w =>
      obtain rfl : out ++ [⟨1, ba w⟩] = T := (Prod.mk.inj h).2
      rw [sc_flush w out _ (by intro c t e; obtain ⟨rfl, _⟩ := List.cons.inj e; exact ha), sc_blank _ _ _ hx]
    | q w => cases (Prod.mk.inj h).1
    | qb w => cases (Prod.mk.inj h).1
    | c d => cases (Prod.mk.inj h).1
    | cb d => cases (Prod.mk.inj h).1
  intro n
  induction n with
  | zero =>
    intro a q out T hn h
    obtain rfl := List.length_eq_zero_iff.1 (Nat.le_zero.1 hn)
    exact end_ q out T h
  | succ n ih =>
    intro a q out T hn h
    cases a with
    | nil => exact end_ q out T h
    | cons c t =>
      by_cases hf : fold (c :: t) = true
      · have hf' := fold_more (x :: b) hf
        obtain ⟨c', d, e, t', h1, h2, h3, h4⟩ := fold_cons hf
        obtain ⟨rfl, rfl⟩ := List.cons.inj h1
        have step : ∀ (r : List UInt8), fold (c :: d :: r) = true → (∃ q' o', ∀ r, fold (c :: d :: r) = true → sc false q out (c :: d :: r) = sc false q' o' r) ∨ (∃ m, m ≠ 0 ∧ ∀ r, fold (c :: d :: r) = true → sc false q out (c :: d :: r) = (m, [])) := by
          intro _ _
          have ha : ¬ am c = true := am_ne (.inr (.inr h2))
          have ht : tx c = false := by unfold tx; rw [h2]; decide
          cases q with
          | z => exact .inl ⟨.z, out, fun r hr => by rw [sc_free (q := .z) trivial, if_neg ha, if_pos hr, sc_true]; rfl⟩
          | a w => exact .inl ⟨.z, flush (.a w) out, fun r hr => by rw [sc_free (q := .a w) trivial, if_neg ha, if_pos hr, sc_true]⟩
          | q w => exact .inl ⟨.q w, out, fun r hr => by rw [sc_q, if_pos hr, sc_true]⟩
          | qb w => exact .inr ⟨3, by decide, fun r _ => by rw [sc_qb, if_neg (by rw [ht]; decide)]⟩
          | c d => exact .inl ⟨.c d, out, fun r hr => by rw [sc_c, if_pos hr, sc_true]⟩
          | cb d => exact .inr ⟨3, by decide, fun r _ => by rw [sc_cb, if_neg (by rw [ht]; decide)]⟩
        rcases step _ hf with ⟨q', o', hs⟩ | ⟨m, hm, hs⟩
        · rw [hs _ hf] at h
          show sc false q out (c :: d :: ((e :: t') ++ x :: b)) = _
          rw [hs ((e :: t') ++ x :: b) hf']
          exact ih _ q' o' T (by simp only [List.length_cons] at hn ⊢; omega) h
        · rw [hs _ hf] at h
          exact absurd (Prod.mk.inj h).1 hm
      · have hf1 : fold (c :: t) = false := by simpa using hf
        have hc : c.toNat ≠ 13 := by
          intro hc
          rw [sc_cr hc hf1] at h
          cases (Prod.mk.inj h).1
        have hf2 : fold (c :: (t ++ x :: b)) = false := fold_ne hc
        have hn' : t.length ≤ n := by simp only [List.length_cons] at hn; omega
        have ih' := fun q o h => ih t q o T hn' h
        rw [List.cons_append]
        have free : Free q → sc false q out (c :: (t ++ x :: b)) = sc false .z T b := by
          intro hfr
          rw [sc_free hfr, hf1] at h
          rw [sc_free hfr, hf2]
          repeat' (split at h <;> rename_i h1 <;> first | rw [if_pos h1] | rw [if_neg h1])
          all_goals first | exact ih' _ _ h | cases (Prod.mk.inj h).1 | contradiction
        cases q with
        | z => exact free trivial
        | a w => exact free trivial
        | q w =>
          rw [sc_q, hf1] at h
          rw [sc_q, hf2]
          repeat' (split at h <;> rename_i h1 <;> first | rw [if_pos h1] | rw [if_neg h1])
          all_goals first | exact ih' _ _ h | cases (Prod.mk.inj h).1 | contradiction
        | qb w =>
          rw [sc_qb] at h ⊢
          repeat' (split at h <;> rename_i h1 <;> first | rw [if_pos h1] | rw [if_neg h1])
          all_goals first | exact ih' _ _ h | cases (Prod.mk.inj h).1
        | c d =>
          rw [sc_c, hf1] at h
          rw [sc_c, hf2]
          repeat' (split at h <;> rename_i h1 <;> first | rw [if_pos h1] | rw [if_neg h1])
          all_goals first | exact ih' _ _ h | cases (Prod.mk.inj h).1 | contradiction
        | cb d =>
          rw [sc_cb] at h ⊢
          repeat' (split at h <;> rename_i h1 <;> first | rw [if_pos h1] | rw [if_neg h1])
          all_goals first | exact ih' _ _ h | cases (Prod.mk.inj h).1
/-- PART BY PART. -/
theorem scan_parts {a b : List UInt8} {x : UInt8} {S T : List Tk} (hx : bk x = true) (ha : scan a = (0, S)) (hb : scan b = (0, T)) : scan (a ++ x :: b) = (0, S ++ T) := by
  have h1 := sc_parts b x hx a.length a .z [] S (Nat.le_refl _) ha
  show sc false .z [] (a ++ x :: b) = _
  rw [h1]
  have := sc_out b false .z S [] T hb
  rwa [List.append_nil] at this
/-- A code that is refused has no tokens. -/
theorem sc_none : ∀ (l : List UInt8) (k : Bool) (q : Md) (out : List Tk), (sc k q out l).1 ≠ 0 → (sc k q out l).2 = [] := by
  intro l
  induction l with
  | nil => intro k q out h; rw [sc_nil] at h ⊢; cases q <;> first | rfl | exact absurd rfl h
  | cons c t ih =>
    intro k q out h
    have free : Free q → (sc k q out (c :: t)).2 = [] := by
      intro hf
      cases k with
      | true => rw [sc_true] at h ⊢; exact ih _ _ _ h
      | false =>
        rw [sc_free hf] at h ⊢
        repeat' (split at h <;> rename_i h1 <;> first | rw [if_pos h1] | rw [if_neg h1])
        all_goals first | exact ih _ _ _ h | rfl
    cases q with
    | z => exact free trivial
    | a w => exact free trivial
    | q w =>
      cases k with
      | true => rw [sc_true] at h ⊢; exact ih _ _ _ h
      | false =>
        rw [sc_q] at h ⊢
        repeat' (split at h <;> rename_i h1 <;> first | rw [if_pos h1] | rw [if_neg h1])
        all_goals first | exact ih _ _ _ h | rfl
    | qb w =>
      cases k with
      | true => rw [sc_true] at h ⊢; exact ih _ _ _ h
      | false =>
        rw [sc_qb] at h ⊢
        repeat' (split at h <;> rename_i h1 <;> first | rw [if_pos h1] | rw [if_neg h1])
        all_goals first | exact ih _ _ _ h | rfl
    | c d =>
      cases k with
      | true => rw [sc_true] at h ⊢; exact ih _ _ _ h
      | false =>
        rw [sc_c] at h ⊢
        repeat' (split at h <;> rename_i h1 <;> first | rw [if_pos h1] | rw [if_neg h1])
        all_goals first | exact ih _ _ _ h | rfl
    | cb d =>
      cases k with
      | true => rw [sc_true] at h ⊢; exact ih _ _ _ h
      | false =>
        rw [sc_cb] at h ⊢
        repeat' (split at h <;> rename_i h1 <;> first | rw [if_pos h1] | rw [if_neg h1])
        all_goals first | exact ih _ _ _ h | rfl
end Go.Proofs.YtlkfkgkolaaomaaDoor.Lex
