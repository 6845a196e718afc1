/-
  What the chapters of glyph, lex, addr, mbx, head and msg say, in plain words.
-/
import Derived.WalkKit
import Derived.Lib.DecodeN
import Derived.Lib.RuneBytes
import Derived.Lib.Hide
import Derived.Lib.IndexAny

/-
  Header fields in plain words, no program: lines, fields, what any bytes are read to; how fields are shown, and what is right; fields by name.
-/
namespace Go.Proofs.YtegbkfloiiilfaaGreatDoor.Head

abbrev bl (s : ByteArray) : List UInt8 := s.data.toList
abbrev ba (l : List UInt8) : ByteArray := ⟨l.toArray⟩
theorem bl_len (s : ByteArray) : (bl s).length = s.size := by simp
theorem ba_size (l : List UInt8) : (ba l).size = l.length := by simp [ByteArray.size]
theorem bl_ba (l : List UInt8) : bl (ba l) = l := by simp
theorem ba_bl (s : ByteArray) : ba (bl s) = s := by simp
theorem ba_inj {a b : List UInt8} (h : ba a = ba b) : a = b := by rw [← bl_ba a, h, bl_ba]
theorem bl_inj {a b : ByteArray} (h : bl a = bl b) : a = b := by rw [← ba_bl a, h, ba_bl]

/-- A field: what stands ahead of its colon, and its value. -/
structure Fd where
  n : ByteArray
  v : ByteArray

/-! Bytes. -/
def bkN (n : Nat) : Bool := n == 32 || n == 9
def txN (n : Nat) : Bool := !((decide (n < 32) && !(n == 9)) || n == 127)
def nmN (n : Nat) : Bool := !(decide (n < 33) || (decide (126 < n) || n == 58))
theorem all256 {p : Nat → Bool} (h : (List.range 256).all p = true) (n : Nat) (hn : n < 256) : p n = true := List.all_eq_true.1 h n (List.mem_range.2 hn)
def bk (c : UInt8) : Bool := bkN c.toNat
def tx (c : UInt8) : Bool := txN c.toNat
def nm (c : UInt8) : Bool := nmN c.toNat
theorem bk_tx {c : UInt8} (h : bk c = true) : tx c = true := by
  have := all256 (p := fun n => !bkN n || txN n) (by decide +kernel) c.toNat c.toNat_lt
  unfold bk at h
  unfold tx
  simpa [h] using this
theorem nm_tx {c : UInt8} (h : nm c = true) : tx c = true ∧ bk c = false ∧ c ≠ 58 := by
  have := all256 (p := fun n => !nmN n || (txN n && !bkN n && !(n == 58))) (by decide +kernel) c.toNat c.toNat_lt
  unfold nm at h
  simp only [h, Bool.not_true, Bool.false_or, Bool.and_eq_true, Bool.not_eq_true', beq_eq_false_iff_ne] at this
  exact ⟨this.1.1, this.1.2, fun e => this.2 (by rw [e]; rfl)⟩
theorem tx_ne {c : UInt8} (h : tx c = true) : c ≠ 13 ∧ c ≠ 10 := by
  refine ⟨?_, ?_⟩ <;> rintro rfl <;> revert h <;> decide
theorem tx_colon : tx 58 = true := by decide
theorem bk_space : bk 32 = true := by decide
theorem bk_colon : bk 58 = false := by decide

/-! Lines. -/
def crlf : List UInt8 → Bool
  | c :: d :: _ => c == 13 && d == 10
  | _ => false
/-- What stands ahead of the first line end, and behind it. -/
def cut2 : List UInt8 → Option (List UInt8 × List UInt8)
  | [] => none
  | c :: t => if crlf (c :: t) = true then some ([], t.drop 1) else (cut2 t).map fun p => (c :: p.1, p.2)
theorem cut2_cons {c : UInt8} {t : List UInt8} (h : crlf (c :: t) = false) : cut2 (c :: t) = (cut2 t).map fun p => (c :: p.1, p.2) := by
  rw [cut2, h]
  rfl
theorem cut2_here (t : List UInt8) : cut2 (13 :: 10 :: t) = some ([], t) := by
  rw [cut2]
  rfl
theorem crlf_ne {c : UInt8} {t : List UInt8} (h : c ≠ 13) : crlf (c :: t) = false := by
  unfold crlf
  split
  · rename_i h1
    obtain ⟨rfl, _⟩ := List.cons.inj h1
    simp [h]
  · rfl
theorem cut2_run : ∀ (a t : List UInt8), (∀ c ∈ a, c ≠ 13) → cut2 (a ++ 13 :: 10 :: t) = some (a, t)
  | [], t, _ => cut2_here t
  | c :: a, t, h => by
    rw [List.cons_append, cut2_cons (crlf_ne (h c (by simp))), cut2_run a t fun x hx => h x (by simp [hx])]
    rfl
theorem cut2_some : ∀ {s a r : List UInt8}, cut2 s = some (a, r) → s = a ++ 13 :: 10 :: r
  | [], a, r, h => by simp [cut2] at h
  | c :: t, a, r, h => by
    cases hc : crlf (c :: t)
    · rw [cut2_cons hc, Option.map_eq_some_iff] at h
      obtain ⟨⟨a', r'⟩, h1, h2⟩ := h
      have := cut2_some h1
      obtain ⟨rfl, rfl⟩ := Prod.mk.inj h2
      rw [this]; rfl
    · rw [cut2, if_pos hc] at h
      unfold crlf at hc
      split at hc
      · rename_i d u h1
        obtain ⟨rfl, rfl⟩ := List.cons.inj h1
        simp only [Bool.and_eq_true, beq_iff_eq] at hc
        obtain ⟨h2, h3⟩ := Prod.mk.inj (Option.some.inj h)
        rw [← h2, ← h3, hc.1, hc.2]
        rfl
      · cases hc
theorem cut2_len {s a r : List UInt8} (h : cut2 s = some (a, r)) : s.length = a.length + 2 + r.length := by
  rw [cut2_some h]; simp; omega

/-! Fields. -/
def textB (l : List UInt8) : Bool := l.all tx
def nameB (l : List UInt8) : Bool := !l.isEmpty && (decide (l.length ≤ 76) && l.all nm)
/-- Ahead of the first colon; behind it. -/
def pre (l : List UInt8) : List UInt8 := l.takeWhile (· != 58)
def post (l : List UInt8) : List UInt8 := (l.dropWhile (· != 58)).drop 1
def fieldB (l : List UInt8) : Bool := l.contains 58 && nameB (pre l)
def hdB (l : List UInt8) : Bool := match l with | [] => false | c :: _ => bk c
def trimR (l : List UInt8) : List UInt8 := (l.reverse.dropWhile bk).reverse
def trimL (l : List UInt8) : List UInt8 := (trimR l).dropWhile bk
def fld (r : List UInt8) : Fd := ⟨ba (pre r), ba (trimL (post r))⟩
/-- Why a line that is not empty is not taken, where so many fields precede it; nought: it is. -/
def chk (t : List UInt8) (k : Nat) : Nat :=
  if 998 < t.length then 2 else if textB t = false then 150 else if hdB t = true then (if k = 0 then 150 else 0)
  else if fieldB t = false then 150 else if k = 100 then 8 else 0
/-- A line taken: behind the last field's, or as a new field's first one. -/
def add (R : List (List UInt8)) (t : List UInt8) : List (List UInt8) :=
  if hdB t = true then R.dropLast ++ [R.getLastD [] ++ t] else R ++ [t]
/-- What is read: a code, the fields' lines side by side, the body. -/
def prs : Nat → List (List UInt8) → List UInt8 → Nat × List (List UInt8) × List UInt8
  | 0, R, _ => (0, R, [])
  | n + 1, R, s =>
    if s = [] then (0, R, []) else
    match cut2 s with
    | none => (9, [], [])
    | some (t, r) => if t = [] then (0, R, r) else if chk t R.length = 0 then prs n (add R t) r else (chk t R.length, [], [])
theorem prs_fuel : ∀ (n m : Nat) (R : List (List UInt8)) (s : List UInt8), s.length ≤ n → s.length ≤ m → prs n R s = prs m R s
  | 0, 0, _, _, _, _ => rfl
  | 0, m + 1, R, s, h, _ => by
    obtain rfl := List.length_eq_zero_iff.1 (Nat.le_zero.1 h)
    rfl
  | n + 1, 0, R, s, _, h => by
    obtain rfl := List.length_eq_zero_iff.1 (Nat.le_zero.1 h)
    rfl
  | n + 1, m + 1, R, s, h1, h2 => by
    rw [prs, prs]
    by_cases hs : s = []
    · rw [if_pos hs, if_pos hs]
    · rw [if_neg hs, if_neg hs]
      cases hc : cut2 s with
      | none => rfl
      | some p =>
        obtain ⟨t, r⟩ := p
        have hl := cut2_len hc
        simp only
        rw [prs_fuel n m (add R t) r (by omega) (by omega)]
def prsA (R : List (List UInt8)) (s : List UInt8) : Nat × List (List UInt8) × List UInt8 := prs s.length R s
theorem prsA_nil (R : List (List UInt8)) : prsA R [] = (0, R, []) := rfl
theorem prsA_short {R : List (List UInt8)} {s : List UInt8} (hs : s ≠ []) (h : cut2 s = none) : prsA R s = (9, [], []) := by
  unfold prsA
  cases s with
  | nil => exact absurd rfl hs
  | cons c t => rw [List.length_cons, prs, if_neg hs, h]
theorem prsA_end {R : List (List UInt8)} {s r : List UInt8} (h : cut2 s = some ([], r)) : prsA R s = (0, R, r) := by
  unfold prsA
  cases s with
  | nil => simp [cut2] at h
  | cons c t => rw [List.length_cons, prs, if_neg (by simp), h]; simp
theorem prsA_bad {R : List (List UInt8)} {s t r : List UInt8} (h : cut2 s = some (t, r)) (ht : t ≠ []) (hc : chk t R.length ≠ 0) : prsA R s = (chk t R.length, [], []) := by
  unfold prsA
  cases s with
  | nil => simp [cut2] at h
  | cons c u => rw [List.length_cons, prs, if_neg (by simp), h]; simp [ht, hc]
theorem prsA_next {R : List (List UInt8)} {s t r : List UInt8} (h : cut2 s = some (t, r)) (ht : t ≠ []) (hc : chk t R.length = 0) : prsA R s = prsA (add R t) r := by
  unfold prsA
  cases s with
  | nil => simp [cut2] at h
  | cons c u =>
    have hl := cut2_len h
    rw [List.length_cons, prs, if_neg (by simp), h]
    simp only [ht, if_false, hc, if_true]
    exact prs_fuel _ _ _ _ (by simp at hl; omega) (Nat.le_refl _)
def parseC (s : List UInt8) : Nat := (prsA [] s).1
def parseF (s : List UInt8) : List Fd := (prsA [] s).2.1.map fld
def parseB (s : List UInt8) : List UInt8 := (prsA [] s).2.2

/-! What holds of the lines on the way. -/
theorem add_len (R : List (List UInt8)) (t : List UInt8) (hR : hdB t = true → R ≠ []) : (add R t).length = if hdB t = true then R.length else R.length + 1 := by
  unfold add
  split
  · rename_i h
    have := hR h
    have : 0 < R.length := List.length_pos_iff.2 this
    simp; omega
  · simp
theorem chk_zero {t : List UInt8} {k : Nat} (h : chk t k = 0) : t.length ≤ 998 ∧ textB t = true ∧ (hdB t = true → k ≠ 0) ∧ (hdB t = false → fieldB t = true ∧ k ≠ 100) := by
  unfold chk at h
  split at h
  · cases h
  split at h
  · cases h
  rename_i h1 h2
  refine ⟨by omega, by simpa using h2, ?_, ?_⟩
  · intro hb
    rw [if_pos hb] at h
    split at h
    · cases h
    · assumption
  · intro hb
    rw [hb, if_neg (by decide)] at h
    split at h
    · cases h
    split at h
    · cases h
    rename_i h3 h4
    exact ⟨by simpa using h3, h4⟩

/-! How a field is shown. -/
/-- The pieces of what stands behind a colon: the one at hand, whether the byte before is a blank. -/
def pcs : List UInt8 → Bool → List UInt8 → List (List UInt8)
  | w, _, [] => [w]
  | w, b, c :: t => if bk c = true ∧ b = false then w :: pcs [c] true t else pcs (w ++ [c]) (bk c) t
def piecesL (v : List UInt8) : List (List UInt8) := if v = [] then [] else pcs [32] true v
/-- The pieces' print: is the piece at hand the first, how long is the line. -/
def shw : Bool → Nat → List (List UInt8) → List UInt8
  | _, _, [] => [13, 10]
  | b, k, p :: ps => if b = false ∧ 78 < k + p.length then 13 :: 10 :: (p ++ shw false p.length ps) else p ++ shw false (k + p.length) ps
def showL (n v : List UInt8) : List UInt8 := n ++ 58 :: shw true (n.length + 1) (piecesL v)
def printL (l : List Fd) : List UInt8 := (l.map fun f => showL (bl f.n) (bl f.v)).flatten
/-- Cut at the line ends. -/
def splF : Nat → List UInt8 → List (List UInt8)
  | 0, s => [s]
  | n + 1, s => match cut2 s with | none => [s] | some (t, r) => t :: splF n r
theorem splF_fuel : ∀ (n m : Nat) (s : List UInt8), s.length ≤ n → s.length ≤ m → splF n s = splF m s
  | 0, 0, _, _, _ => rfl
  | 0, m + 1, s, h, _ => by
    obtain rfl := List.length_eq_zero_iff.1 (Nat.le_zero.1 h)
    rfl
  | n + 1, 0, s, _, h => by
    obtain rfl := List.length_eq_zero_iff.1 (Nat.le_zero.1 h)
    rfl
  | n + 1, m + 1, s, h1, h2 => by
    rw [splF, splF]
    cases hc : cut2 s with
    | none => rfl
    | some p =>
      obtain ⟨t, r⟩ := p
      have hl := cut2_len hc
      simp only
      rw [splF_fuel n m r (by omega) (by omega)]
def spl (s : List UInt8) : List (List UInt8) := splF s.length s
theorem spl_none {s : List UInt8} (h : cut2 s = none) : spl s = [s] := by
  unfold spl
  cases s with
  | nil => rfl
  | cons c t => rw [List.length_cons, splF, h]
theorem spl_some {s t r : List UInt8} (h : cut2 s = some (t, r)) : spl s = t :: spl r := by
  unfold spl
  cases s with
  | nil => simp [cut2] at h
  | cons c u =>
    have hl := cut2_len h
    rw [List.length_cons, splF, h]
    simp only
    rw [splF_fuel u.length r.length r (by simp at hl; omega) (Nat.le_refl _)]
def longB (s : List UInt8) : Bool := (spl s).any fun t => decide (998 < t.length)
def rightB (n v : List UInt8) : Bool := nameB n && (textB v && (decide (trimL v = v) && !longB (showL n v)))

/-! Written and read. -/
theorem text_ne {l : List UInt8} (h : textB l = true) : ∀ c ∈ l, c ≠ 13 := fun c hc => (tx_ne (List.all_eq_true.1 h c hc)).1
theorem text_app {a b : List UInt8} : textB (a ++ b) = (textB a && textB b) := by unfold textB; rw [List.all_append]
theorem name_facts {n : List UInt8} (h : nameB n = true) : n ≠ [] ∧ textB n = true ∧ hdB n = false ∧ (∀ c ∈ n, c ≠ 58) ∧ n.length ≤ 76 := by
  unfold nameB at h
  simp only [Bool.and_eq_true, Bool.not_eq_true', decide_eq_true_eq, List.all_eq_true] at h
  obtain ⟨h1, h2, h3⟩ := h
  refine ⟨(by intro e; rw [e] at h1; cases h1), ?_, ?_, fun c hc => (nm_tx (h3 c hc)).2.2, h2⟩
  · exact List.all_eq_true.2 fun c hc => (nm_tx (h3 c hc)).1
  · cases n with
    | nil => rfl
    | cons c t => exact (nm_tx (h3 c (by simp))).2.1
theorem pre_run : ∀ (a t : List UInt8), (∀ c ∈ a, c ≠ 58) → pre (a ++ 58 :: t) = a ∧ post (a ++ 58 :: t) = t
  | [], t, _ => ⟨rfl, rfl⟩
  | c :: a, t, h => by
    have hc : (c != 58) = true := by rw [bne_iff_ne]; exact h c (by simp)
    have ih := pre_run a t fun x hx => h x (by simp [hx])
    unfold pre post at *
    rw [List.cons_append, List.takeWhile_cons, List.dropWhile_cons, hc]
    exact ⟨by rw [if_pos rfl, ih.1], by rw [if_pos rfl, ih.2]⟩
theorem field_run {n : List UInt8} (h : nameB n = true) (t : List UInt8) : fieldB (n ++ 58 :: t) = true := by
  unfold fieldB
  rw [(pre_run n t (name_facts h).2.2.2.1).1, h]
  simp
theorem hd_app {a b : List UInt8} (h : a ≠ []) : hdB (a ++ b) = hdB a := by
  cases a with
  | nil => exact absurd rfl h
  | cons c t => rfl
theorem pcs_flat : ∀ (t w : List UInt8) (b : Bool), (pcs w b t).flatten = w ++ t
  | [], w, b => by simp [pcs]
  | c :: t, w, b => by
    rw [pcs]
    split
    · rw [List.flatten_cons, pcs_flat t [c] true]; rfl
    · rw [pcs_flat t _ _]; simp
/-- Pieces: none empty, each begins with a blank, all text. -/
def Pcs (ps : List (List UInt8)) : Prop := ∀ p ∈ ps, p ≠ [] ∧ hdB p = true ∧ textB p = true
theorem pcs_good : ∀ (t w : List UInt8) (b : Bool), w ≠ [] → hdB w = true → textB w = true → textB t = true → Pcs (pcs w b t)
  | [], w, b, h1, h2, h3, _ => by
    intro p hp
    rw [pcs, List.mem_singleton] at hp
    rw [hp]
    exact ⟨h1, h2, h3⟩
  | c :: t, w, b, h1, h2, h3, h4 => by
    have h5 : tx c = true ∧ textB t = true := by
      unfold textB at h4
      rw [List.all_cons, Bool.and_eq_true] at h4
      exact h4
    rw [pcs]
    split
    · rename_i hc
      intro p hp
      rcases List.mem_cons.1 hp with rfl | hp
      · exact ⟨h1, h2, h3⟩
      · exact pcs_good t [c] true (by simp) hc.1 (by unfold textB; simp [h5.1]) h5.2 p hp
    · refine pcs_good t (w ++ [c]) (bk c) (by simp) (by rw [hd_app h1]; exact h2) ?_ h5.2
      rw [text_app, h3]
      unfold textB
      simp [h5.1]
theorem pieces_good {v : List UInt8} (h : textB v = true) : Pcs (piecesL v) := by
  unfold piecesL
  split
  · intro p hp; cases hp
  · exact pcs_good v [32] true (by simp) rfl (by decide) h
theorem pieces_flat (v : List UInt8) : (piecesL v).flatten = if v = [] then [] else 32 :: v := by
  unfold piecesL
  split
  · rfl
  · rw [pcs_flat]; rfl
theorem add_add {R : List (List UInt8)} {t u : List UInt8} (ht : t ≠ []) (hu : hdB u = true) : add (add R t) u = add R (t ++ u) := by
  unfold add
  rw [if_pos hu, hd_app ht]
  split
  · simp
  · simp
/-- The line at hand, and the pieces behind it, read. -/
theorem read_pieces : ∀ (ps : List (List UInt8)) (b : Bool) (k : Nat) (cur : List UInt8) (R : List (List UInt8)) (rest : List UInt8), Pcs ps → cur ≠ [] → textB cur = true → (hdB cur = true → R ≠ []) → (hdB cur = false → (∀ x, fieldB (cur ++ x) = true) ∧ R.length < 100) → longB (cur ++ shw b k ps) = false → prsA R (cur ++ (shw b k ps ++ rest)) = prsA (add R (cur ++ ps.flatten)) rest
  | [], b, k, cur, R, rest, _, h1, h2, h3, h4, h5 => by
    have hc := cut2_run cur rest (text_ne h2)
    have hl : cur.length ≤ 998 := by
      have : cut2 (cur ++ shw b k []) = some (cur, []) := cut2_run cur [] (text_ne h2)
      unfold longB at h5
      rw [spl_some this, List.any_cons, Bool.or_eq_false_iff] at h5
      simpa using h5.1
    have e : cur ++ (shw b k [] ++ rest) = cur ++ 13 :: 10 :: rest := by simp [shw]
    rw [e, prsA_next hc h1, List.flatten_nil, List.append_nil]
    unfold chk
    rw [if_neg (by omega), h2, if_neg (by decide)]
    cases hh : hdB cur
    · rw [if_neg (by decide)]
      have := h4 hh
      have h6 := this.1 []
      rw [List.append_nil] at h6
      rw [h6, if_neg (by decide), if_neg (by omega)]
    · rw [if_pos rfl, if_neg]
      have := List.length_pos_iff.2 (h3 hh)
      omega
  | p :: ps, b, k, cur, R, rest, hp, h1, h2, h3, h4, h5 => by
    have hp1 := hp p (by simp)
    have hps : Pcs ps := fun q hq => hp q (by simp [hq])
    rw [shw] at h5 ⊢
    split
    · rename_i hf
      rw [if_pos hf] at h5
      have hc := cut2_run cur (p ++ shw false p.length ps) (text_ne h2)
      have hc2 := cut2_run cur (p ++ (shw false p.length ps ++ rest)) (text_ne h2)
      have hl : cur.length ≤ 998 ∧ longB (p ++ shw false p.length ps) = false := by
        unfold longB at h5
        rw [spl_some hc, List.any_cons, Bool.or_eq_false_iff] at h5
        exact ⟨by simpa using h5.1, h5.2⟩
      have e : cur ++ ((13 :: 10 :: (p ++ shw false p.length ps)) ++ rest) = cur ++ 13 :: 10 :: (p ++ (shw false p.length ps ++ rest)) := by simp
      have hz : chk cur R.length = 0 := by
        unfold chk
        rw [if_neg (by omega), h2, if_neg (by decide)]
        cases hh : hdB cur
        · rw [if_neg (by decide)]
          have := h4 hh
          have h6 := this.1 []
          rw [List.append_nil] at h6
          rw [h6, if_neg (by decide), if_neg (by omega)]
        · rw [if_pos rfl, if_neg]
          have := List.length_pos_iff.2 (h3 hh)
          omega
      have hne : add R cur ≠ [] := by
        unfold add
        split <;> simp
      rw [e, prsA_next hc2 h1 hz, read_pieces ps false p.length p (add R cur) rest hps hp1.1 hp1.2.2 (fun _ => hne) (fun hh => by rw [hp1.2.1] at hh; cases hh) hl.2]
      rw [add_add h1 (by rw [hd_app hp1.1]; exact hp1.2.1)]
      simp
    · rename_i hf
      rw [if_neg hf] at h5
      have e : cur ++ ((p ++ shw false (k + p.length) ps) ++ rest) = (cur ++ p) ++ (shw false (k + p.length) ps ++ rest) := by simp
      rw [e, read_pieces ps false (k + p.length) (cur ++ p) R rest hps (by simp [h1]) (by rw [text_app, h2, hp1.2.2]; rfl) (by rw [hd_app h1]; exact h3) (by rw [hd_app h1]; exact fun hh => ⟨fun x => by rw [List.append_assoc]; exact (h4 hh).1 _, (h4 hh).2⟩) (by rw [List.append_assoc]; exact h5)]
      simp
theorem trim_space {v : List UInt8} (h : trimL v = v) : trimL (if v = [] then [] else 32 :: v) = v := by
  split
  · rename_i e; rw [e]; rfl
  · rename_i hv
    unfold trimL at *
    have h1 : trimR v = v := by
      have hlen : (trimR v).length ≤ v.length := by
        unfold trimR
        rw [List.length_reverse]
        have := (List.dropWhile_sublist bk (l := v.reverse)).length_le
        rwa [List.length_reverse] at this
      have h2 : ((trimR v).dropWhile bk).length ≤ (trimR v).length := (List.dropWhile_sublist bk).length_le
      rw [h] at h2
      -- a part of v behind its end that is as long as v is v
      have h3 : trimR v <+: v := by
        unfold trimR
        have hs : v.reverse.dropWhile bk <:+ v.reverse := List.dropWhile_suffix bk
        have := List.reverse_prefix.2 hs
        rwa [List.reverse_reverse] at this
      exact h3.eq_of_length (by omega)
    have h4 : v.dropWhile bk = v := by rw [h1] at h; exact h
    have h5 : trimR (32 :: v) = 32 :: v := by
      unfold trimR at h1 ⊢
      rw [List.reverse_cons]
      have hd : v.reverse.dropWhile bk = v.reverse := by
        have := congrArg List.reverse h1
        rwa [List.reverse_reverse] at this
      obtain ⟨c, u, hcu⟩ : ∃ c u, v.reverse = c :: u := by
        cases hr : v.reverse with
        | nil => exact absurd (List.reverse_eq_nil_iff.1 hr) hv
        | cons c u => exact ⟨c, u, rfl⟩
      have hbc : bk c = false := by
        rw [hcu, List.dropWhile_cons] at hd
        cases hb : bk c
        · rfl
        · rw [hb, if_pos rfl] at hd
          have := congrArg List.length hd
          have h6 := (List.dropWhile_sublist bk (l := u)).length_le
          rw [List.length_cons] at this
          omega
      rw [hcu, List.cons_append, List.dropWhile_cons, hbc, if_neg (by decide), ← List.cons_append, ← hcu]
      simp
    rw [h5, List.dropWhile_cons, if_pos bk_space, h4]
/-- A right field's print, read behind other fields. -/
theorem read_field {n v : List UInt8} (h : rightB n v = true) (R : List (List UInt8)) (rest : List UInt8) (hR : R.length < 100) : ∃ r, prsA R (showL n v ++ rest) = prsA (R ++ [r]) rest ∧ fld r = ⟨ba n, ba v⟩ := by
  unfold rightB at h
  simp only [Bool.and_eq_true, decide_eq_true_eq, Bool.not_eq_true'] at h
  obtain ⟨h1, h2, h3, h4⟩ := h
  obtain ⟨n1, n2, n3, n4, n5⟩ := name_facts h1
  have e : showL n v ++ rest = (n ++ [58]) ++ (shw true (n.length + 1) (piecesL v) ++ rest) := by unfold showL; simp
  have e2 : showL n v = (n ++ [58]) ++ shw true (n.length + 1) (piecesL v) := by unfold showL; simp
  have hh : hdB (n ++ [58]) = false := by rw [hd_app n1]; exact n3
  have hr := read_pieces (piecesL v) true (n.length + 1) (n ++ [58]) R rest (pieces_good h2) (by simp) (by rw [text_app, n2]; decide) (fun hb => by rw [hh] at hb; cases hb) (fun _ => ⟨fun x => by rw [List.append_assoc]; exact field_run h1 x, hR⟩) (by rw [← e2]; exact h4)
  rw [e, hr, pieces_flat]
  refine ⟨(n ++ [58]) ++ (if v = [] then [] else 32 :: v), ?_, ?_⟩
  · unfold add
    rw [hd_app (by simp), hh, if_neg (by decide)]
  · unfold fld
    rw [List.append_assoc, List.singleton_append, (pre_run n _ n4).1, (pre_run n _ n4).2, trim_space h3]
theorem read_fields : ∀ (q : List Fd) (R : List (List UInt8)) (rest : List UInt8), (∀ f ∈ q, rightB (bl f.n) (bl f.v) = true) → R.length + q.length ≤ 100 → ∃ S, prsA R (printL q ++ rest) = prsA (R ++ S) rest ∧ S.map fld = q
  | [], R, rest, _, _ => ⟨[], by simp [printL], rfl⟩
  | f :: q, R, rest, h, hR => by
    obtain ⟨r, h1, h2⟩ := read_field (h f (by simp)) R (printL q ++ rest) (by simp at hR; omega)
    obtain ⟨S, h3, h4⟩ := read_fields q (R ++ [r]) rest (fun g hg => h g (by simp [hg])) (by simp at hR ⊢; omega)
    refine ⟨r :: S, ?_, ?_⟩
    · have e : printL (f :: q) ++ rest = showL (bl f.n) (bl f.v) ++ (printL q ++ rest) := by unfold printL; simp
      rw [e, h1, h3]
      simp
    · rw [List.map_cons, h2, h4, ba_bl, ba_bl]
theorem parse_print {q : List Fd} (h : ∀ f ∈ q, rightB (bl f.n) (bl f.v) = true) (hq : q.length ≤ 100) :
    (∀ body, parseC (printL q ++ 13 :: 10 :: body) = 0 ∧ parseF (printL q ++ 13 :: 10 :: body) = q ∧ parseB (printL q ++ 13 :: 10 :: body) = body) ∧ parseC (printL q) = 0 ∧ parseF (printL q) = q ∧ parseB (printL q) = [] := by
  refine ⟨fun body => ?_, ?_⟩
  · obtain ⟨S, h1, h2⟩ := read_fields q [] (13 :: 10 :: body) h (by simpa using hq)
    unfold parseC parseF parseB
    rw [h1, prsA_end (cut2_here body)]
    exact ⟨rfl, by simpa using h2, rfl⟩
  · obtain ⟨S, h1, h2⟩ := read_fields q [] [] h (by simpa using hq)
    rw [List.append_nil] at h1
    unfold parseC parseF parseB
    rw [h1, prsA_nil]
    exact ⟨rfl, by simpa using h2, rfl⟩
end Go.Proofs.YtegbkfloiiilfaaGreatDoor.Head

/-
  The runes of a text in plain words (no program): every text is an encoding and a rest, or begins with a byte that begins none.
-/
namespace Go.Proofs.YtegbkfloiiilfaaGreatDoor.Glyph

def byt (n : Nat) : UInt8 := UInt8.ofNat n
theorem byt_nat (n : Nat) (h : n < 256) : (byt n).toNat = n := by unfold byt; rw [UInt8.toNat_ofNat']; omega
theorem byt_eq (c : UInt8) (n : Nat) (h : c.toNat = n) : byt n = c := by subst h; exact UInt8.ofNat_toNat
def Sc (r : Nat) : Prop := r < 55296 ∨ (57344 ≤ r ∧ r ≤ 1114111)
def enc (r : Nat) : List UInt8 :=
  if r < 128 then [byt r] else if r < 2048 then [byt (192 + r / 64), byt (128 + r % 64)]
  else if r < 65536 then [byt (224 + r / 4096), byt (128 + r / 64 % 64), byt (128 + r % 64)]
  else [byt (240 + r / 262144), byt (128 + r / 4096 % 64), byt (128 + r / 64 % 64), byt (128 + r % 64)]
theorem enc_one {r : Nat} (h : r < 128) : enc r = [byt r] := by simp [enc, h]
theorem enc_two {r : Nat} (h0 : 128 ≤ r) (h : r < 2048) : enc r = [byt (192 + r / 64), byt (128 + r % 64)] := by
  unfold enc; rw [if_neg (by omega), if_pos h]
theorem enc_three {r : Nat} (h0 : 2048 ≤ r) (h : r < 65536) : enc r = [byt (224 + r / 4096), byt (128 + r / 64 % 64), byt (128 + r % 64)] := by
  unfold enc; rw [if_neg (by omega), if_neg (by omega), if_pos h]
theorem enc_four {r : Nat} (h0 : 65536 ≤ r) : enc r = [byt (240 + r / 262144), byt (128 + r / 4096 % 64), byt (128 + r / 64 % 64), byt (128 + r % 64)] := by
  unfold enc; rw [if_neg (by omega), if_neg (by omega), if_neg (by omega)]
theorem enc_ne (r : Nat) : enc r ≠ [] := by unfold enc; repeat' split
                                            all_goals simp
theorem enc_len (r : Nat) : 1 ≤ (enc r).length ∧ (enc r).length ≤ 4 := by
  unfold enc; repeat' split
  all_goals simp
theorem enc_high {r : Nat} (h0 : 128 ≤ r) (h1 : r ≤ 1114111) : ∀ c ∈ enc r, 128 ≤ c.toNat := by
  intro c hc
  by_cases h2 : r < 2048
  · rw [enc_two h0 h2] at hc
    simp only [List.mem_cons, List.not_mem_nil, or_false] at hc
    rcases hc with rfl | rfl <;> rw [byt_nat _ (by omega)] <;> omega
  by_cases h3 : r < 65536
  · rw [enc_three (by omega) h3] at hc
    simp only [List.mem_cons, List.not_mem_nil, or_false] at hc
    rcases hc with rfl | rfl | rfl <;> rw [byt_nat _ (by omega)] <;> omega
  · rw [enc_four (by omega)] at hc
    simp only [List.mem_cons, List.not_mem_nil, or_false] at hc
    rcases hc with rfl | rfl | rfl | rfl <;> rw [byt_nat _ (by omega)] <;> omega
theorem enc_lib {r : Nat} (h : Sc r) : Lib.encodeRune (r : Int) = enc r := by
  have hc : ∀ (z : Int) (n : Nat), z = n → z.toNat.toUInt8 = byt n := by rintro z n rfl; rfl
  unfold Sc at h
  unfold Lib.encodeRune
  by_cases h1 : r < 128
  · rw [Lib.encodeRuneZ_one (by omega) (by omega), enc_one h1, List.map_singleton, hc _ _ rfl]
  by_cases h2 : r < 2048
  · rw [Lib.encodeRuneZ_two (by omega) (by omega), enc_two (by omega) h2]
    simp only [List.map_cons, List.map_nil]
    rw [hc _ (192 + r / 64) (by omega), hc _ (128 + r % 64) (by omega)]
  by_cases h3 : r < 65536
  · rw [Lib.encodeRuneZ_three (by omega), enc_three (by omega) h3]
    simp only [List.map_cons, List.map_nil]
    rw [hc _ (224 + r / 4096) (by omega), hc _ (128 + r / 64 % 64) (by omega), hc _ (128 + r % 64) (by omega)]
  · rw [Lib.encodeRuneZ_four (by omega) (by omega), enc_four (by omega)]
    simp only [List.map_cons, List.map_nil]
    rw [hc _ (240 + r / 262144) (by omega), hc _ (128 + r / 4096 % 64) (by omega), hc _ (128 + r / 64 % 64) (by omega), hc _ (128 + r % 64) (by omega)]

def at4 (l : List UInt8) (i : Nat) : Nat := (l.getD i 0).toNat
def dec (l : List UInt8) : Nat × Nat := Lib.decodeN l.length (at4 l 0) (at4 l 1) (at4 l 2) (at4 l 3)
theorem dec1 (n r x y z : Nat) (h : r < 128) : Lib.decodeN n r x y z = (r, 1) := by simp [Lib.decodeN, h]
theorem dec2 (n r x y : Nat) (hn : 2 ≤ n) (h0 : 128 ≤ r) (h : r < 2048) : Lib.decodeN n (192 + r / 64) (128 + r % 64) x y = (r, 2) := by
  unfold Lib.decodeN
  rw [if_neg (by omega), if_pos ⟨by omega, by omega, by omega⟩, if_pos (by omega)]
  have : (192 + r / 64) % 32 * 64 + (128 + r % 64) % 64 = r := by omega
  rw [this]
theorem dec3 (n r y : Nat) (hn : 3 ≤ n) (h0 : 2048 ≤ r) (h : r < 65536) (hs : Sc r) : Lib.decodeN n (224 + r / 4096) (128 + r / 64 % 64) (128 + r % 64) y = (r, 3) := by
  unfold Sc at hs
  have e : (224 + r / 4096) % 16 * 4096 + (128 + r / 64 % 64) % 64 * 64 + (128 + r % 64) % 64 = r := by omega
  unfold Lib.decodeN
  rw [if_neg (by omega), if_neg (by omega), if_pos ⟨by omega, ⟨by omega, by omega⟩, by omega, by omega⟩, e, if_pos (by omega)]
theorem dec4 (n r : Nat) (hn : 4 ≤ n) (h0 : 65536 ≤ r) (h : r ≤ 1114111) : Lib.decodeN n (240 + r / 262144) (128 + r / 4096 % 64) (128 + r / 64 % 64) (128 + r % 64) = (r, 4) := by
  have e : (240 + r / 262144) % 8 * 262144 + (128 + r / 4096 % 64) % 64 * 4096 + (128 + r / 64 % 64) % 64 * 64 + (128 + r % 64) % 64 = r := by omega
  unfold Lib.decodeN
  rw [if_neg (by omega), if_neg (by omega), if_neg (by omega), if_pos ⟨by omega, ⟨by omega, by omega⟩, ⟨by omega, by omega⟩, by omega, by omega⟩, e, if_pos (by omega)]
/-- What begins with an encoding decodes to it. -/
theorem dec_enc {r : Nat} (h : Sc r) (t : List UInt8) : dec (enc r ++ t) = (r, (enc r).length) := by
  have hs := h
  unfold Sc at hs
  by_cases h1 : r < 128
  · rw [enc_one h1]
    unfold dec at4
    simp only [List.cons_append, List.nil_append, List.getD_cons_zero, byt_nat r (by omega), List.length_singleton]
    exact dec1 _ _ _ _ _ h1
  by_cases h2 : r < 2048
  · rw [enc_two (by omega) h2]
    unfold dec at4
    simp only [List.cons_append, List.nil_append, List.getD_cons_zero, List.getD_cons_succ, byt_nat (192 + r / 64) (by omega), byt_nat (128 + r % 64) (by omega), List.length_cons, List.length_nil]
    exact dec2 _ _ _ _ (by omega) (by omega) h2
  by_cases h3 : r < 65536
  · rw [enc_three (by omega) h3]
    unfold dec at4
    simp only [List.cons_append, List.nil_append, List.getD_cons_zero, List.getD_cons_succ, byt_nat (224 + r / 4096) (by omega), byt_nat (128 + r / 64 % 64) (by omega), byt_nat (128 + r % 64) (by omega), List.length_cons, List.length_nil]
    exact dec3 _ _ _ (by omega) (by omega) h3 h
  · rw [enc_four (by omega)]
    unfold dec at4
    simp only [List.cons_append, List.nil_append, List.getD_cons_zero, List.getD_cons_succ, byt_nat (240 + r / 262144) (by omega), byt_nat (128 + r / 4096 % 64) (by omega), byt_nat (128 + r / 64 % 64) (by omega), byt_nat (128 + r % 64) (by omega), List.length_cons, List.length_nil]
    exact dec4 _ _ (by omega) (by omega) (by omega)
def Begins (l : List UInt8) : Prop := ∃ r t, Sc r ∧ l = enc r ++ t
theorem begins_of (l : List UInt8) (r k : Nat) (hs : Sc r) (hk : (enc r).length = k) (hl : k ≤ l.length) (h : ∀ i, i < k → (enc r).getD i 0 = l.getD i 0) : Begins l := by
  refine ⟨r, l.drop k, hs, ?_⟩
  have : enc r = l.take k := by
    apply List.ext_getElem
    · rw [List.length_take]; omega
    · intro i h1 h2
      have := h i (by omega)
      rw [List.getD_eq_getElem?_getD, List.getD_eq_getElem?_getD, List.getElem?_eq_getElem h1, List.getElem?_eq_getElem (by omega)] at this
      simpa using this
  rw [this, List.take_append_drop]
theorem at4_byt (l : List UInt8) (i n : Nat) (h : at4 l i = n) : byt n = l.getD i 0 := byt_eq _ _ h
theorem at4_lt (l : List UInt8) (i : Nat) : at4 l i < 256 := (l.getD i 0).toNat_lt
/-- Every text that is not empty begins with an encoding, or with a byte that decodes to none. -/
theorem dec_two (l : List UInt8) (h : l ≠ []) : Begins l ∨ (dec l = (65533, 1) ∧ 128 ≤ at4 l 0) := by
  have hl : 1 ≤ l.length := by cases l <;> simp_all
  have l0 := at4_lt l 0; have l1 := at4_lt l 1; have l2 := at4_lt l 2; have l3 := at4_lt l 3
  obtain ⟨a, ha⟩ : ∃ a, at4 l 0 = a := ⟨_, rfl⟩
  obtain ⟨b, hb⟩ : ∃ a, at4 l 1 = a := ⟨_, rfl⟩
  obtain ⟨c, hc⟩ : ∃ a, at4 l 2 = a := ⟨_, rfl⟩
  obtain ⟨d, hd⟩ : ∃ a, at4 l 3 = a := ⟨_, rfl⟩
  rw [ha] at l0; rw [hb] at l1; rw [hc] at l2; rw [hd] at l3
  by_cases c1 : a < 128
  · refine .inl (begins_of l a 1 (by unfold Sc; omega) (by rw [enc_one c1]; rfl) hl fun i hi => ?_)
    obtain rfl : i = 0 := by omega
    rw [enc_one c1]
    exact at4_byt l 0 a ha
  unfold dec
  rw [ha, hb, hc, hd]
  unfold Lib.decodeN
  rw [if_neg c1]
  by_cases c2 : a / 32 = 6 ∧ 1 < l.length ∧ b / 64 = 2
  · rw [if_pos c2]
    by_cases g : a % 32 * 64 + b % 64 ≥ 128
    · obtain ⟨r, hr⟩ : ∃ r, a % 32 * 64 + b % 64 = r := ⟨_, rfl⟩
      have e := enc_two (r := r) (by omega) (by omega)
      refine .inl (begins_of l r 2 (by unfold Sc; omega) (by rw [e]; rfl) (by omega) fun i hi => ?_)
      rw [e]
      match i, hi with
      | 0, _ => exact at4_byt l 0 _ (by omega)
      | 1, _ => exact at4_byt l 1 _ (by omega)
    · rw [if_neg g]; exact .inr ⟨rfl, by omega⟩
  rw [if_neg c2]
  by_cases c3 : a / 16 = 14 ∧ (1 < l.length ∧ b / 64 = 2) ∧ (2 < l.length ∧ c / 64 = 2)
  · rw [if_pos c3]
    obtain ⟨r, hr⟩ : ∃ r, a % 16 * 4096 + b % 64 * 64 + c % 64 = r := ⟨_, rfl⟩
    rw [hr]
    by_cases g : r ≥ 2048 ∧ (r < 55296 ∨ (57344 ≤ r ∧ r ≤ 1114111))
    · have e := enc_three (r := r) (by omega) (by omega)
      refine .inl (begins_of l r 3 g.2 (by rw [e]; rfl) (by omega) fun i hi => ?_)
      rw [e]
      match i, hi with
      | 0, _ => exact at4_byt l 0 _ (by omega)
      | 1, _ => exact at4_byt l 1 _ (by omega)
      | 2, _ => exact at4_byt l 2 _ (by omega)
    · rw [if_neg g]; exact .inr ⟨rfl, by omega⟩
  rw [if_neg c3]
  by_cases c4 : a / 8 = 30 ∧ (1 < l.length ∧ b / 64 = 2) ∧ (2 < l.length ∧ c / 64 = 2) ∧ (3 < l.length ∧ d / 64 = 2)
  · rw [if_pos c4]
    obtain ⟨r, hr⟩ : ∃ r, a % 8 * 262144 + b % 64 * 4096 + c % 64 * 64 + d % 64 = r := ⟨_, rfl⟩
    rw [hr]
    by_cases g : r ≥ 65536 ∧ (r < 55296 ∨ (57344 ≤ r ∧ r ≤ 1114111))
    · have e := enc_four (r := r) (by omega)
      refine .inl (begins_of l r 4 g.2 (by rw [e]; rfl) (by omega) fun i hi => ?_)
      rw [e]
      match i, hi with
      | 0, _ => exact at4_byt l 0 _ (by omega)
      | 1, _ => exact at4_byt l 1 _ (by omega)
      | 2, _ => exact at4_byt l 2 _ (by omega)
      | 3, _ => exact at4_byt l 3 _ (by omega)
    · rw [if_neg g]; exact .inr ⟨rfl, by omega⟩
  rw [if_neg c4]
  exact .inr ⟨rfl, by omega⟩
theorem bad_not {l : List UInt8} (h : dec l = (65533, 1)) : ¬ Begins l := by
  rintro ⟨r, t, hs, rfl⟩
  rw [dec_enc hs] at h
  obtain ⟨h1, h2⟩ := Prod.mk.inj h
  subst h1
  revert h2
  decide

/-- The sign that a text begins with: its number, or -1; and how many bytes it has. -/
def sg (l : List UInt8) : Int := if dec l = (65533, 1) then -1 else (dec l).1
def wd (l : List UInt8) : Nat := (dec l).2
theorem enc_bad_ne (r : Nat) : (r, (enc r).length) ≠ (65533, 1) := by
  intro h
  obtain ⟨h1, h2⟩ := Prod.mk.inj h
  subst h1
  revert h2
  decide
theorem sg_enc {r : Nat} (h : Sc r) (t : List UInt8) : sg (enc r ++ t) = r := by
  unfold sg
  rw [dec_enc h, if_neg (enc_bad_ne r)]
theorem wd_enc {r : Nat} (h : Sc r) (t : List UInt8) : wd (enc r ++ t) = (enc r).length := by unfold wd; rw [dec_enc h]
theorem wd_pos (l : List UInt8) (h : l ≠ []) : 1 ≤ wd l ∧ wd l ≤ l.length := by
  have hl : 1 ≤ l.length := by cases l <;> simp_all
  rcases dec_two l h with ⟨r, t, hs, rfl⟩ | ⟨hd, _⟩
  · rw [wd_enc hs]
    have := enc_len r
    simp only [List.length_append]
    omega
  · unfold wd; rw [hd]; exact ⟨Nat.le_refl _, hl⟩
theorem wd_le (l : List UInt8) (h : l ≠ []) : wd l ≤ 4 := by
  rcases dec_two l h with ⟨r, t, hs, rfl⟩ | ⟨hd, _⟩
  · rw [wd_enc hs]; exact (enc_len r).2
  · unfold wd; rw [hd]; exact Nat.le_add_left 1 3
theorem dec_le (l : List UInt8) (h : l ≠ []) : (dec l).1 ≤ 1114111 := by
  rcases dec_two l h with ⟨r, t, hs, rfl⟩ | ⟨hd, _⟩
  · rw [dec_enc hs]; unfold Sc at hs; show r ≤ _; omega
  · rw [hd]; decide
theorem sg_cases (l : List UInt8) (h : l ≠ []) : sg l = -1 ∨ (∃ r t, Sc r ∧ l = enc r ++ t ∧ sg l = r) := by
  rcases dec_two l h with ⟨r, t, hs, rfl⟩ | ⟨hd, _⟩
  · exact .inr ⟨r, t, hs, rfl, sg_enc hs t⟩
  · exact .inl (by unfold sg; rw [if_pos hd])
theorem sg_bad (l : List UInt8) (h : sg l = -1) : dec l = (65533, 1) := by
  unfold sg at h
  split at h
  · assumption
  · omega
/-- How the code tells a bad sign. -/
theorem bad_iff (l : List UInt8) (h : l ≠ []) : ((dec l).1 = 65533 ∧ ¬ [239, 191, 189] <+: l) ↔ sg l = -1 := by
  constructor
  · rintro ⟨h1, h2⟩
    rcases sg_cases l h with hb | ⟨r, t, hs, rfl, hr⟩
    · exact hb
    · rw [dec_enc hs] at h1
      have h1' : r = 65533 := h1
      subst h1'
      exact absurd ⟨t, rfl⟩ h2
  · intro hb
    have hd := sg_bad l hb
    refine ⟨by rw [hd], ?_⟩
    rintro ⟨t, rfl⟩
    exact bad_not hd ⟨65533, t, .inr ⟨by decide, by decide⟩, rfl⟩
theorem sg_of_good (l : List UInt8) (h : sg l ≠ -1) : sg l = (dec l).1 := by
  unfold sg at h ⊢
  split at h
  · exact absurd rfl h
  · rename_i g; rw [if_neg g]

def stepsF : Nat → List UInt8 → List (Int × Nat)
  | 0, _ => []
  | f + 1, l => if l = [] then [] else (sg l, wd l) :: stepsF f (l.drop (wd l))
def steps (l : List UInt8) : List (Int × Nat) := stepsF l.length l
theorem stepsF_fuel : ∀ (f g : Nat) (l : List UInt8), l.length ≤ f → l.length ≤ g → stepsF f l = stepsF g l := by
  intro f
  induction f with
  | zero =>
    intro g l h1 h2
    obtain rfl : l = [] := by cases l <;> simp_all
    cases g <;> simp [stepsF]
  | succ f ih =>
    intro g l h1 h2
    by_cases h : l = []
    · subst h; cases g <;> simp [stepsF]
    · have hw := wd_pos l h
      cases g with
      | zero => omega
      | succ g =>
        simp only [stepsF, if_neg h]
        rw [ih g _ (by rw [List.length_drop]; omega) (by rw [List.length_drop]; omega)]
theorem steps_nil : steps [] = [] := rfl
theorem steps_cons (l : List UInt8) (h : l ≠ []) : steps l = (sg l, wd l) :: steps (l.drop (wd l)) := by
  have hw := wd_pos l h
  unfold steps
  obtain ⟨n, hn⟩ : ∃ n, l.length = n + 1 := ⟨l.length - 1, by omega⟩
  rw [hn]
  simp only [stepsF, if_neg h]
  rw [stepsF_fuel n (l.drop (wd l)).length _ (by rw [List.length_drop]; omega) (Nat.le_refl _)]
theorem steps_enc {r : Nat} (h : Sc r) (t : List UInt8) : steps (enc r ++ t) = ((r : Int), (enc r).length) :: steps t := by
  rw [steps_cons _ (by simp [enc_ne]), sg_enc h, wd_enc h, List.drop_left]
/-- A proof by the signs of a text. -/
theorem by_signs {p : List UInt8 → Prop} (h0 : p []) (h1 : ∀ l, l ≠ [] → p (l.drop (wd l)) → p l) : ∀ l, p l := by
  intro l
  obtain ⟨n, hn⟩ : ∃ n, l.length ≤ n := ⟨_, Nat.le_refl _⟩
  induction n generalizing l with
  | zero =>
    obtain rfl : l = [] := by cases l <;> simp_all
    exact h0
  | succ n ih =>
    by_cases h : l = []
    · subst h; exact h0
    · have := wd_pos l h
      exact h1 l h (ih _ (by rw [List.length_drop]; omega))
def signs (l : List UInt8) : List Int := (steps l).map (·.1)
theorem signs_nil : signs [] = [] := rfl
theorem signs_cons (l : List UInt8) (h : l ≠ []) : signs l = sg l :: signs (l.drop (wd l)) := by
  unfold signs; rw [steps_cons l h]; rfl
theorem signs_enc {r : Nat} (h : Sc r) (t : List UInt8) : signs (enc r ++ t) = (r : Int) :: signs t := by
  unfold signs; rw [steps_enc h]; rfl
theorem signs_len (l : List UInt8) : (signs l).length = (steps l).length := by unfold signs; simp
theorem signs_le : ∀ l, (signs l).length ≤ l.length := by
  apply by_signs
  · simp [signs_nil]
  · intro l h ih
    have := wd_pos l h
    rw [signs_cons l h]
    rw [List.length_drop] at ih
    simp only [List.length_cons]
    omega
def Ok (n : Int) : Prop := n = -1 ∨ ∃ r : Nat, Sc r ∧ n = r
theorem signs_ok : ∀ l, ∀ n ∈ signs l, Ok n := by
  apply by_signs
  · simp [signs_nil]
  · intro l h ih n hn
    rw [signs_cons l h] at hn
    rcases List.mem_cons.1 hn with rfl | hn
    · rcases sg_cases l h with hb | ⟨r, t, hs, _, hr⟩
      · exact .inl hb
      · exact .inr ⟨r, hs, hr⟩
    · exact ih n hn
theorem signs_flat : ∀ S : List Nat, (∀ r ∈ S, Sc r) → signs (S.map enc).flatten = S.map (fun r : Nat => (r : Int)) := by
  intro S
  induction S with
  | nil => intro _; rfl
  | cons r S ih =>
    intro h
    simp only [List.map_cons, List.flatten_cons]
    rw [signs_enc (h r (by simp)), ih fun q hq => h q (by simp [hq])]

/-- The bytes of the first n signs. -/
def cl (l : List UInt8) (n : Nat) : Nat := (((steps l).take n).map (·.2)).sum
theorem cl_zero (l : List UInt8) : cl l 0 = 0 := by simp [cl]
theorem cl_nil (n : Nat) : cl [] n = 0 := by simp [cl, steps_nil]
theorem cl_cons (l : List UInt8) (h : l ≠ []) (n : Nat) : cl l (n + 1) = wd l + cl (l.drop (wd l)) n := by
  unfold cl; rw [steps_cons l h]; simp
theorem cl_le : ∀ l, ∀ n, cl l n ≤ l.length := by
  apply by_signs
  · intro n; rw [cl_nil]; exact Nat.zero_le _
  · intro l h ih n
    have := wd_pos l h
    cases n with
    | zero => rw [cl_zero]; exact Nat.zero_le _
    | succ n =>
      have := ih n
      rw [List.length_drop] at this
      rw [cl_cons l h]
      omega
theorem cl_all : ∀ l, ∀ n, l.length ≤ n → cl l n = l.length := by
  apply by_signs
  · intro n _; rw [cl_nil]; rfl
  · intro l h ih n hn
    have := wd_pos l h
    obtain ⟨m, rfl⟩ : ∃ m, n = m + 1 := ⟨n - 1, by omega⟩
    have := ih m (by rw [List.length_drop]; omega)
    rw [List.length_drop] at this
    rw [cl_cons l h]
    omega
theorem cl_mono : ∀ l, ∀ a b, a ≤ b → cl l a ≤ cl l b := by
  apply by_signs
  · intro a b _; rw [cl_nil, cl_nil]; exact Nat.le_refl _
  · intro l h ih a b hab
    cases a with
    | zero => rw [cl_zero]; exact Nat.zero_le _
    | succ a =>
      obtain ⟨c, rfl⟩ : ∃ c, b = c + 1 := ⟨b - 1, by omega⟩
      rw [cl_cons l h, cl_cons l h]
      have := ih a c (by omega)
      omega
/-- What is cut off behind a sign leaves it as it is. -/
theorem dec_take (l : List UInt8) (h : l ≠ []) (m : Nat) (h1 : wd l ≤ m) : dec (l.take m) = dec l := by
  have hw := wd_pos l h
  have hne : l.take m ≠ [] := by
    intro e
    have := congrArg List.length e
    rw [List.length_take, List.length_nil] at this
    omega
  rcases dec_two l h with ⟨r, t, hs, rfl⟩ | ⟨hd, _⟩
  · rw [wd_enc hs] at h1
    rw [List.take_append, List.take_of_length_le h1, dec_enc hs, dec_enc hs]
  · rcases dec_two _ hne with ⟨r, t, hs, he⟩ | ⟨hd', _⟩
    · exfalso
      apply bad_not hd
      refine ⟨r, t ++ l.drop m, hs, ?_⟩
      rw [← List.append_assoc, ← he, List.take_append_drop]
    · rw [hd, hd']
theorem steps_take : ∀ l, ∀ a, steps (l.take (cl l a)) = (steps l).take a := by
  apply by_signs
  · intro a; simp [steps_nil]
  · intro l h ih a
    have hw := wd_pos l h
    cases a with
    | zero => rw [cl_zero]; simp [steps_nil]
    | succ a =>
      have hc := cl_le (l.drop (wd l)) a
      rw [List.length_drop] at hc
      have hne : l.take (cl l (a + 1)) ≠ [] := by
        intro e
        have := congrArg List.length e
        rw [List.length_take, cl_cons l h, List.length_nil] at this
        omega
      have hd := dec_take l h (cl l (a + 1)) (by rw [cl_cons l h]; omega)
      rw [steps_cons _ hne, steps_cons l h]
      have e1 : sg (l.take (cl l (a + 1))) = sg l := by unfold sg; rw [hd]
      have e2 : wd (l.take (cl l (a + 1))) = wd l := by unfold wd; rw [hd]
      rw [e1, e2, List.take_succ_cons, ← ih a, List.drop_take, cl_cons l h, Nat.add_sub_cancel_left]
theorem cl_cl (l : List UInt8) (a b : Nat) (h : a ≤ b) : cl (l.take (cl l b)) a = cl l a := by
  unfold cl
  have := steps_take l b
  unfold cl at this
  rw [this, List.take_take, Nat.min_eq_left h]
theorem signs_take (l : List UInt8) (a : Nat) : signs (l.take (cl l a)) = (signs l).take a := by
  unfold signs; rw [steps_take, List.map_take]

/-- Small letters for capital ones. -/
def fd (c : UInt8) : UInt8 := if 65 ≤ c.toNat ∧ c.toNat ≤ 90 then c + 32 else c
theorem fd_high (c : UInt8) (h : 128 ≤ c.toNat) : fd c = c := by unfold fd; rw [if_neg (by omega)]
theorem fd_nat (c : UInt8) : (fd c).toNat = if 65 ≤ c.toNat ∧ c.toNat ≤ 90 then c.toNat + 32 else c.toNat := by
  unfold fd
  split
  · rw [UInt8.toNat_add]; have := c.toNat_lt; show (c.toNat + 32) % 256 = _; omega
  · rfl
theorem fd_back (c : UInt8) (h : 128 ≤ (fd c).toNat) : fd c = c := by
  have h2 := fd_nat c
  apply fd_high
  split at h2 <;> omega
theorem fd_fd (c : UInt8) : fd (fd c) = fd c := by
  have h2 := fd_nat c
  rw [show fd (fd c) = if 65 ≤ (fd c).toNat ∧ (fd c).toNat ≤ 90 then fd c + 32 else fd c from rfl, if_neg (by split at h2 <;> omega)]
def foldL (l : List UInt8) : List UInt8 := l.map fd
theorem foldL_foldL (l : List UInt8) : foldL (foldL l) = foldL l := by
  unfold foldL; rw [List.map_map]; apply List.map_congr_left; intro c _; exact fd_fd c
theorem map_high (l : List UInt8) (h : ∀ c ∈ l, 128 ≤ c.toNat) : l.map fd = l := by
  conv => rhs; rw [← List.map_id l]
  apply List.map_congr_left; intro c hc; exact fd_high c (h c hc)
theorem map_back : ∀ (m l : List UInt8), (∀ c ∈ m, 128 ≤ c.toNat) → l.map fd = m → l = m := by
  intro m
  induction m with
  | nil => intro l _ h; simpa using h
  | cons c m ih =>
    intro l h he
    cases l with
    | nil => simp at he
    | cons d l =>
      simp only [List.map_cons, List.cons.injEq] at he
      have h1 : 128 ≤ (fd d).toNat := by rw [he.1]; exact h c (by simp)
      rw [ih l (fun q hq => h q (by simp [hq])) he.2, ← he.1, fd_back d h1]
def fr (r : Nat) : Nat := if 65 ≤ r ∧ r ≤ 90 then r + 32 else r
theorem fr_sc {r : Nat} (h : Sc r) : Sc (fr r) := by unfold fr; split; · left; omega
                                                     · exact h
theorem fd_enc {r : Nat} (h : Sc r) : (enc r).map fd = enc (fr r) := by
  unfold Sc at h
  by_cases h1 : r < 128
  · have h2 : fr r < 128 := by unfold fr; split <;> omega
    rw [enc_one h1, enc_one h2]
    simp only [List.map_cons, List.map_nil]
    congr 1
    apply UInt8.toNat_inj.1
    rw [fd_nat, byt_nat r (by omega), byt_nat _ (by omega)]
    rfl
  · have h2 : fr r = r := by unfold fr; rw [if_neg (by omega)]
    rw [h2, map_high _ (enc_high (by omega) (by omega))]
theorem fr_len {r : Nat} (h : Sc r) : (enc (fr r)).length = (enc r).length := by rw [← fd_enc h, List.length_map]
theorem fold_begins (l : List UInt8) (h : Begins (foldL l)) : Begins l := by
  obtain ⟨r, t, hs, he⟩ := h
  have hs' := hs
  unfold Sc at hs'
  unfold foldL at he
  by_cases h1 : r < 128
  · rw [enc_one h1] at he
    cases l with
    | nil => simp at he
    | cons c l =>
      simp only [List.map_cons, List.cons_append, List.nil_append, List.cons.injEq] at he
      have e := congrArg UInt8.toNat he.1
      have e2 := fd_nat c
      rw [byt_nat r (by omega)] at e
      have hc : c.toNat < 128 := by split at e2 <;> omega
      exact ⟨c.toNat, l, by unfold Sc; omega, by rw [enc_one hc]; simp [byt_eq c _ rfl]⟩
  · have h2 : (l.take (enc r).length).map fd = enc r := by rw [List.map_take, he, List.take_left]
    have h3 := map_back _ _ (enc_high (by omega) (by omega)) h2
    exact ⟨r, l.drop (enc r).length, hs, by rw [← h3]; rw [h3]; conv => lhs; rw [← List.take_append_drop (enc r).length l, h3]⟩
theorem fold_wd (l : List UInt8) (h : l ≠ []) : wd (foldL l) = wd l := by
  rcases dec_two l h with ⟨r, t, hs, rfl⟩ | ⟨hd, _⟩
  · rw [wd_enc hs]
    unfold foldL
    rw [List.map_append, fd_enc hs, wd_enc (fr_sc hs), fr_len hs]
  · have hne : foldL l ≠ [] := by unfold foldL; simpa using h
    rcases dec_two _ hne with hb | ⟨hd', _⟩
    · exact absurd (fold_begins l hb) (bad_not hd)
    · unfold wd; rw [hd, hd']
theorem fold_len : ∀ l, (steps (foldL l)).length = (steps l).length := by
  apply by_signs
  · rfl
  · intro l h ih
    have hne : foldL l ≠ [] := by unfold foldL; simpa using h
    rw [steps_cons _ hne, steps_cons l h, fold_wd l h]
    simp only [List.length_cons]
    have : (foldL l).drop (wd l) = foldL (l.drop (wd l)) := by unfold foldL; rw [List.map_drop]
    rw [this, ih]
/-- The bytes of a sign, folded as the code folds them. -/
theorem fold_piece (l : List UInt8) (h : l ≠ []) : foldL (l.take (wd l)) = if 65 ≤ (dec l).1 ∧ (dec l).1 ≤ 90 then [byt ((dec l).1 + 32)] else l.take (wd l) := by
  rcases dec_two l h with ⟨r, t, hs, rfl⟩ | ⟨hd, h128⟩
  · rw [wd_enc hs, List.take_left, dec_enc hs]
    unfold foldL
    rw [fd_enc hs]
    show enc (fr r) = if 65 ≤ r ∧ r ≤ 90 then _ else _
    unfold fr
    split
    · rw [enc_one (by omega)]
    · rfl
  · have hw : wd l = 1 := by unfold wd; rw [hd]
    rw [hd, if_neg (by decide), hw]
    cases l with
    | nil => exact absurd rfl h
    | cons c l =>
      have : 128 ≤ c.toNat := h128
      simp [foldL, fd_high c this]
theorem low_piece (l : List UInt8) (h : l ≠ []) (hl : (dec l).1 < 128) : wd l = 1 ∧ (l.getD 0 0).toNat = (dec l).1 := by
  rcases dec_two l h with ⟨r, t, hs, rfl⟩ | ⟨hd, _⟩
  · rw [dec_enc hs] at hl
    have hr : r < 128 := hl
    rw [wd_enc hs, dec_enc hs, enc_one hr]
    exact ⟨rfl, byt_nat r (by omega)⟩
  · rw [hd] at hl
    exact absurd hl (by decide)
theorem high_piece (l : List UInt8) (h : l ≠ []) (hl : 128 ≤ (dec l).1) : ∀ c ∈ l.take (wd l), 128 ≤ c.toNat := by
  rcases dec_two l h with ⟨r, t, hs, rfl⟩ | ⟨hd, h128⟩
  · rw [dec_enc hs] at hl
    have hr : 128 ≤ r := hl
    rw [wd_enc hs, List.take_left]
    unfold Sc at hs
    exact enc_high hr (by omega)
  · have hw : wd l = 1 := by unfold wd; rw [hd]
    rw [hw]
    cases l with
    | nil => exact absurd rfl h
    | cons c l =>
      have : 128 ≤ c.toNat := h128
      simpa using this

/-- Cleaned. -/
def cw (n : Int) : Int := if n = -1 then 65533 else if n < 32 ∨ (127 ≤ n ∧ n ≤ 159) then 32 else n
def cleanL (l : List UInt8) : List UInt8 := ((signs l).map fun n => enc (cw n).toNat).flatten
theorem cw_sc {n : Int} (h : Ok n) : Sc (cw n).toNat ∧ 0 ≤ cw n ∧ cw n ≤ 1114111 := by
  unfold cw Sc
  rcases h with rfl | ⟨r, hs, rfl⟩
  · decide
  · unfold Sc at hs
    rw [if_neg (by omega)]
    split <;> omega
theorem cw_cw {n : Int} (h : Ok n) : cw (cw n) = cw n := by
  have h0 := (cw_sc h).2.1
  have : cw n = 65533 ∨ cw n = 32 ∨ ¬ (cw n < 32 ∨ (127 ≤ cw n ∧ cw n ≤ 159)) := by
    unfold cw
    split
    · exact .inl rfl
    split
    · exact .inr (.inl rfl)
    · exact .inr (.inr (by assumption))
  rcases this with h1 | h1 | h1
  · rw [h1]; rfl
  · rw [h1]; rfl
  · have h2 : ¬ cw n = -1 := by omega
    rw [show cw (cw n) = if cw n = -1 then 65533 else if cw n < 32 ∨ (127 ≤ cw n ∧ cw n ≤ 159) then 32 else cw n from rfl, if_neg h2, if_neg h1]
theorem cleanL_signs (l : List UInt8) : signs (cleanL l) = (signs l).map cw := by
  have : cleanL l = ((((signs l).map fun n => (cw n).toNat)).map enc).flatten := by unfold cleanL; rw [List.map_map]; rfl
  rw [this, signs_flat]
  · rw [List.map_map]
    apply List.map_congr_left
    intro n hn
    have := (cw_sc (signs_ok l n hn)).2.1
    show (((cw n).toNat : Nat) : Int) = cw n
    omega
  · intro r hr
    obtain ⟨n, hn, rfl⟩ := List.mem_map.1 hr
    exact (cw_sc (signs_ok l n hn)).1
theorem cleanL_cleanL (l : List UInt8) : cleanL (cleanL l) = cleanL l := by
  rw [show cleanL (cleanL l) = ((signs (cleanL l)).map fun n => enc (cw n).toNat).flatten from rfl, cleanL_signs, List.map_map]
  unfold cleanL
  congr 1
  apply List.map_congr_left
  intro n hn
  show enc (cw (cw n)).toNat = _
  rw [cw_cw (signs_ok l n hn)]
theorem cleanL_valid (l : List UInt8) : ∀ n ∈ signs (cleanL l), 0 ≤ n := by
  intro n hn
  rw [cleanL_signs] at hn
  obtain ⟨m, hm, rfl⟩ := List.mem_map.1 hn
  exact (cw_sc (signs_ok l m hm)).2.1
theorem cleanL_len (l : List UInt8) : (signs (cleanL l)).length = (signs l).length := by rw [cleanL_signs, List.length_map]
theorem flat_len (f : Int → List UInt8) (k : Nat) (hf : ∀ n, (f n).length ≤ k) : ∀ S : List Int, (S.map f).flatten.length ≤ k * S.length := by
  intro S
  induction S with
  | nil => simp
  | cons n S ih =>
    simp only [List.map_cons, List.flatten_cons, List.length_append, List.length_cons]
    have := hf n
    rw [Nat.mul_add]
    omega
theorem cleanL_le (l : List UInt8) : (cleanL l).length ≤ 4 * l.length := by
  have h1 := flat_len (fun n => enc (cw n).toNat) 4 (fun n => (enc_len _).2) (signs l)
  have h2 := signs_le l
  unfold cleanL
  omega

/-- Numbers in base 16. -/
def hx (d : Nat) : UInt8 := byt (if d < 10 then 48 + d else 87 + d)
def hexL (n : Nat) : List UInt8 := if n < 16 then [hx n] else hexL (n / 16) ++ [hx (n % 16)]
theorem hexL_low {n : Nat} (h : n < 16) : hexL n = [hx n] := by rw [hexL, if_pos h]
theorem hexL_high {n : Nat} (h : ¬ n < 16) : hexL n = hexL (n / 16) ++ [hx (n % 16)] := by rw [hexL, if_neg h]
theorem hx_plain (d : Nat) (h : d < 16) : 32 ≤ (hx d).toNat ∧ (hx d).toNat ≤ 126 := by
  unfold hx
  rw [byt_nat _ (by split <;> omega)]
  split <;> omega
theorem hexL_plain : ∀ n, ∀ c ∈ hexL n, 32 ≤ c.toNat ∧ c.toNat ≤ 126 := by
  intro n
  induction n using Nat.strongRecOn with
  | _ n ih =>
    intro c hc
    by_cases h : n < 16
    · rw [hexL_low h] at hc
      obtain rfl := List.mem_singleton.1 hc
      exact hx_plain n h
    · rw [hexL_high h] at hc
      rcases List.mem_append.1 hc with hc | hc
      · exact ih _ (by omega) c hc
      · obtain rfl := List.mem_singleton.1 hc
        exact hx_plain _ (by omega)
theorem hexL_len : ∀ k n, n < 16 ^ (k + 1) → (hexL n).length ≤ k + 1 := by
  intro k
  induction k with
  | zero => intro n h; rw [hexL_low (by simpa using h)]; exact Nat.le_refl _
  | succ k ih =>
    intro n h
    by_cases g : n < 16
    · rw [hexL_low g]; simp
    · rw [hexL_high g, List.length_append]
      have := ih (n / 16) (by rw [Nat.pow_succ] at h; omega)
      simp only [List.length_singleton]
      omega
/-- Spelt. -/
def sp (n : Int) : List UInt8 := if n = -1 then [123, 98, 97, 100, 125] else if 32 ≤ n ∧ n ≤ 126 ∧ n ≠ 123 then enc n.toNat else 123 :: (hexL n.toNat ++ [125])
def spellL (l : List UInt8) : List UInt8 := ((signs l).map sp).flatten
theorem sp_plain {n : Int} (_h : Ok n) : ∀ c ∈ sp n, 32 ≤ c.toNat ∧ c.toNat ≤ 126 := by
  intro c hc
  unfold sp at hc
  split at hc
  · revert c; decide
  split at hc
  · rename_i g
    rw [enc_one (by omega)] at hc
    obtain rfl := List.mem_singleton.1 hc
    rw [byt_nat _ (by omega)]
    omega
  · simp only [List.mem_cons, List.mem_append, List.not_mem_nil, or_false] at hc
    rcases hc with rfl | hc | rfl
    · decide
    · exact hexL_plain _ c hc
    · decide
theorem sp_len {n : Int} (h : Ok n) : (sp n).length ≤ 8 := by
  unfold sp
  split
  · decide
  split
  · have := enc_len n.toNat; omega
  · have h6 : n.toNat < 16 ^ 6 := by
      rcases h with rfl | ⟨r, hs, rfl⟩
      · decide
      · unfold Sc at hs; omega
    have := hexL_len 5 n.toNat h6
    simp only [List.length_cons, List.length_append, List.length_nil]
    omega
theorem spellL_le (l : List UInt8) : (spellL l).length ≤ 8 * l.length := by
  have h2 := signs_le l
  have : ∀ S : List Int, (∀ n ∈ S, Ok n) → (S.map sp).flatten.length ≤ 8 * S.length := by
    intro S
    induction S with
    | nil => simp
    | cons n S ih =>
      intro h
      simp only [List.map_cons, List.flatten_cons, List.length_append, List.length_cons]
      have h1 := sp_len (h n (by simp))
      have := ih fun q hq => h q (by simp [hq])
      omega
  have := this _ (signs_ok l)
  unfold spellL
  omega
theorem signs_plain : ∀ l : List UInt8, (∀ c ∈ l, 32 ≤ c.toNat ∧ c.toNat ≤ 126) → ∀ n ∈ signs l, 32 ≤ n ∧ n ≤ 126 := by
  intro l
  induction l with
  | nil => intro _ n hn; simp [signs_nil] at hn
  | cons c l ih =>
    intro h n hn
    have hc := h c (by simp)
    have e : c :: l = enc c.toNat ++ l := by rw [enc_one (by omega)]; simp [byt_eq c _ rfl]
    rw [e, signs_enc (by unfold Sc; omega)] at hn
    rcases List.mem_cons.1 hn with rfl | hn
    · omega
    · exact ih (fun q hq => h q (by simp [hq])) n hn
theorem spellL_plain (l : List UInt8) : ∀ n ∈ signs (spellL l), 32 ≤ n ∧ n ≤ 126 := by
  apply signs_plain
  intro c hc
  unfold spellL at hc
  obtain ⟨p, hp, hcp⟩ := List.mem_flatten.1 hc
  obtain ⟨n, hn, rfl⟩ := List.mem_map.1 hp
  exact sp_plain (signs_ok l n hn) c hcp

/-- The words between blanks. -/
def blank (c : UInt8) : Bool := decide (c.toNat = 32 ∨ c.toNat = 9 ∨ c.toNat = 13 ∨ c.toNat = 10)
def wordsA : List UInt8 → List UInt8 → List (List UInt8)
  | w, [] => if w = [] then [] else [w]
  | w, c :: t => if blank c = true then (if w = [] then wordsA [] t else w :: wordsA [] t) else wordsA (w ++ [c]) t
theorem wordsA_run : ∀ (p w t : List UInt8), (∀ c ∈ p, blank c = false) → wordsA w (p ++ t) = wordsA (w ++ p) t := by
  intro p
  induction p with
  | nil => intro w t _; simp
  | cons c p ih =>
    intro w t h
    have hc := h c (by simp)
    rw [List.cons_append, wordsA, if_neg (by rw [hc]; decide), ih (w ++ [c]) t fun q hq => h q (by simp [hq])]
    simp
theorem wordsA_more : ∀ (t w : List UInt8), wordsA w (t ++ [13, 10, 9]) = wordsA w t := by
  intro t
  induction t with
  | nil =>
    intro w
    by_cases h : w = [] <;> simp [wordsA, h, blank]
  | cons c t ih =>
    intro w
    rw [List.cons_append]
    simp only [wordsA]
    rw [ih, ih]
theorem words_more (l : List UInt8) : wordsA [] (32 :: (l ++ [13, 10, 9])) = wordsA [] l := by
  rw [wordsA, if_pos (by decide), if_pos rfl, wordsA_more]
end Go.Proofs.YtegbkfloiiilfaaGreatDoor.Glyph

/-
  Tokens in plain words, no program: what any bytes are scanned to, byte by byte; how texts are quoted and tokens printed; and what follows of these.
-/
namespace Go.Proofs.YtegbkfloiiilfaaGreatDoor.Lex

abbrev bl (s : ByteArray) : List UInt8 := s.data.toList
abbrev ba (l : List UInt8) : ByteArray := ⟨l.toArray⟩
theorem bl_len (s : ByteArray) : (bl s).length = s.size := by simp
theorem ba_size (l : List UInt8) : (ba l).size = l.length := by simp [ByteArray.size]
theorem bl_ba (l : List UInt8) : bl (ba l) = l := by simp
theorem ba_bl (s : ByteArray) : ba (bl s) = s := by simp

/-- A token: its kind (1 Atom, 2 Quoted, 3 Special) and its text. -/
structure Tk where
  kind : Int
  text : ByteArray

/-! Bytes: text bytes, those of atoms, specials, blanks. -/
def txN (n : Nat) : Bool := n == 9 || (decide (32 ≤ n) && !(n == 127))
def marks : List Nat := [33, 35, 36, 37, 38, 39, 42, 43, 45, 47, 61, 63, 94, 95, 96, 123, 124, 125, 126]
def amN (n : Nat) : Bool := decide (97 ≤ n) && decide (n ≤ 122) || (decide (65 ≤ n) && decide (n ≤ 90) || (decide (48 ≤ n) && decide (n ≤ 57) || (decide (127 < n) || marks.contains n)))
def spN (n : Nat) : Bool := [60, 62, 58, 59, 64, 44, 46].contains n
def bkN (n : Nat) : Bool := n == 32 || n == 9
theorem all256 {p : Nat → Bool} (h : (List.range 256).all p = true) (n : Nat) (hn : n < 256) : p n = true := List.all_eq_true.1 h n (List.mem_range.2 hn)
theorem am_facts (n : Nat) (hn : n < 256) (h : amN n = true) : n ≠ 34 ∧ n ≠ 40 ∧ n ≠ 32 ∧ n ≠ 9 ∧ n ≠ 13 ∧ spN n = false ∧ bkN n = false ∧ txN n = true := by
  have := all256 (p := fun n => !amN n || (!(n == 34) && !(n == 40) && !(n == 32) && !(n == 9) && !(n == 13) && !spN n && !bkN n && txN n)) (by decide +kernel) n hn
  simp only [h, Bool.not_true, Bool.false_or, Bool.and_eq_true, Bool.not_eq_true', beq_eq_false_iff_ne] at this
  obtain ⟨⟨⟨⟨⟨⟨⟨h1, h2⟩, h3⟩, h4⟩, h5⟩, h6⟩, h7⟩, h8⟩ := this
  exact ⟨h1, h2, h3, h4, h5, h6, h7, h8⟩
theorem sp_facts (n : Nat) (hn : n < 256) (h : spN n = true) : n ≠ 34 ∧ n ≠ 40 ∧ n ≠ 13 ∧ amN n = false ∧ bkN n = false := by
  have := all256 (p := fun n => !spN n || (!(n == 34) && !(n == 40) && !(n == 13) && !amN n && !bkN n)) (by decide +kernel) n hn
  simp only [h, Bool.not_true, Bool.false_or, Bool.and_eq_true, Bool.not_eq_true', beq_eq_false_iff_ne] at this
  obtain ⟨⟨⟨⟨h1, h2⟩, h3⟩, h4⟩, h5⟩ := this
  exact ⟨h1, h2, h3, h4, h5⟩
theorem bk_facts (n : Nat) (hn : n < 256) (h : bkN n = true) : n ≠ 34 ∧ n ≠ 40 ∧ n ≠ 13 ∧ amN n = false ∧ spN n = false := by
  have := all256 (p := fun n => !bkN n || (!(n == 34) && !(n == 40) && !(n == 13) && !amN n && !spN n)) (by decide +kernel) n hn
  simp only [h, Bool.not_true, Bool.false_or, Bool.and_eq_true, Bool.not_eq_true', beq_eq_false_iff_ne] at this
  obtain ⟨⟨⟨⟨h1, h2⟩, h3⟩, h4⟩, h5⟩ := this
  exact ⟨h1, h2, h3, h4, h5⟩
theorem tx_facts (n : Nat) (hn : n < 256) (h : txN n = true) : n ≠ 13 ∧ n ≠ 10 := by
  have := all256 (p := fun n => !txN n || (!(n == 13) && !(n == 10))) (by decide +kernel) n hn
  simp only [h, Bool.not_true, Bool.false_or, Bool.and_eq_true, Bool.not_eq_true', beq_eq_false_iff_ne] at this
  exact this
def tx (c : UInt8) : Bool := txN c.toNat
def am (c : UInt8) : Bool := amN c.toNat
def sp (c : UInt8) : Bool := spN c.toNat
def bk (c : UInt8) : Bool := bkN c.toNat
/-- Does a fold come next? -/
def fold : List UInt8 → Bool
  | c :: d :: e :: _ => c.toNat == 13 && (d.toNat == 10 && bk e)
  | _ => false
theorem fold_ne {c : UInt8} {t : List UInt8} (h : c.toNat ≠ 13) : fold (c :: t) = false := by
  unfold fold
  split
  · rename_i h1
    obtain ⟨rfl, _⟩ := List.cons.inj h1
    simp [h]
  · rfl
theorem fold_cons {l : List UInt8} (h : fold l = true) : ∃ c d e t, l = c :: d :: e :: t ∧ c.toNat = 13 ∧ d.toNat = 10 ∧ bk e = true := by
  unfold fold at h
  split at h
  · rename_i c d e t
    simp only [Bool.and_eq_true, beq_iff_eq] at h
    exact ⟨c, d, e, t, rfl, h.1, h.2.1, h.2.2⟩
  · cases h

/-! Where a scan stands: outside, in an atom, in a quoted text, behind a \ there, in a comment so deep, behind a \ there. -/
inductive Md where
  | z | a (w : List UInt8) | q (w : List UInt8) | qb (w : List UInt8) | c (d : Nat) | cb (d : Nat)
def Md.word : Md → List UInt8
  | .a w => w | .q w => w | .qb w => w | _ => []
def flush : Md → List Tk → List Tk
  | .a w, out => out ++ [⟨1, ba w⟩]
  | _, out => out
def fin : Md → List Tk → Nat × List Tk
  | .z, out => (0, out)
  | .a w, out => (0, out ++ [⟨1, ba w⟩])
  | _, _ => (9, [])
/-- What the rest leads to: a code and the tokens. The first part: is the byte at hand the second one of a fold? -/
def sc : Bool → Md → List Tk → List UInt8 → Nat × List Tk
  | _, q, out, [] => fin q out
  | true, q, out, _ :: t => sc false q out t
  | false, .qb w, out, c :: t => if tx c = true then sc false (.q (w ++ [c])) out t else (3, [])
  | false, .cb d, out, c :: t => if tx c = true then sc false (.c d) out t else (3, [])
  | false, .q w, out, c :: t =>
    if fold (c :: t) = true then sc true (.q w) out t
    else if c.toNat = 92 then sc false (.qb w) out t
    else if tx c = false then (3, [])
    else if c.toNat = 34 then sc false .z (out ++ [⟨2, ba w⟩]) t
    else sc false (.q (w ++ [c])) out t
  | false, .c d, out, c :: t =>
    if fold (c :: t) = true then sc true (.c d) out t
    else if c.toNat = 92 then sc false (.cb d) out t
    else if tx c = false then (3, [])
    else if c.toNat = 40 then (if d = 16 then (1, []) else sc false (.c (d + 1)) out t)
    else if c.toNat = 41 then (if d = 1 then sc false .z out t else sc false (.c (d - 1)) out t)
    else sc false (.c d) out t
  | false, q, out, c :: t =>
    if am c = true then sc false (.a (q.word ++ [c])) out t
    else if fold (c :: t) = true then sc true .z (flush q out) t
    else if c.toNat = 34 then sc false (.q []) (flush q out) t
    else if c.toNat = 40 then sc false (.c 1) (flush q out) t
    else if sp c = true then sc false .z (flush q out ++ [⟨3, ba [c]⟩]) t
    else if bk c = true then sc false .z (flush q out) t
    else (3, [])
def scan (l : List UInt8) : Nat × List Tk := sc false .z [] l

theorem sc_nil (k : Bool) (q : Md) (out : List Tk) : sc k q out [] = fin q out := by cases k <;> cases q <;> rfl
theorem sc_true (q : Md) (out : List Tk) (c : UInt8) (t : List UInt8) : sc true q out (c :: t) = sc false q out t := by cases q <;> rfl
/-- Outside, or in an atom. -/
def Free : Md → Prop
  | .z => True | .a _ => True | _ => False
theorem sc_free {q : Md} (h : Free q) (out : List Tk) (c : UInt8) (t : List UInt8) : sc false q out (c :: t) =
    if am c = true then sc false (.a (q.word ++ [c])) out t
    else if fold (c :: t) = true then sc true .z (flush q out) t
    else if c.toNat = 34 then sc false (.q []) (flush q out) t
    else if c.toNat = 40 then sc false (.c 1) (flush q out) t
    else if sp c = true then sc false .z (flush q out ++ [⟨3, ba [c]⟩]) t
    else if bk c = true then sc false .z (flush q out) t
    else (3, []) := by cases q <;> first | rfl | cases h
theorem sc_q (w : List UInt8) (out : List Tk) (c : UInt8) (t : List UInt8) : sc false (.q w) out (c :: t) =
    if fold (c :: t) = true then sc true (.q w) out t
    else if c.toNat = 92 then sc false (.qb w) out t
    else if tx c = false then (3, [])
    else if c.toNat = 34 then sc false .z (out ++ [⟨2, ba w⟩]) t
    else sc false (.q (w ++ [c])) out t := rfl
theorem sc_c (d : Nat) (out : List Tk) (c : UInt8) (t : List UInt8) : sc false (.c d) out (c :: t) =
    if fold (c :: t) = true then sc true (.c d) out t
    else if c.toNat = 92 then sc false (.cb d) out t
    else if tx c = false then (3, [])
    else if c.toNat = 40 then (if d = 16 then (1, []) else sc false (.c (d + 1)) out t)
    else if c.toNat = 41 then (if d = 1 then sc false .z out t else sc false (.c (d - 1)) out t)
    else sc false (.c d) out t := rfl
theorem sc_qb (w : List UInt8) (out : List Tk) (c : UInt8) (t : List UInt8) : sc false (.qb w) out (c :: t) = if tx c = true then sc false (.q (w ++ [c])) out t else (3, []) := rfl
theorem sc_cb (d : Nat) (out : List Tk) (c : UInt8) (t : List UInt8) : sc false (.cb d) out (c :: t) = if tx c = true then sc false (.c d) out t else (3, []) := rfl

/-! Tokens outside, one at a time. -/
theorem sc_flush (w : List UInt8) (out : List Tk) (l : List UInt8) (h : ∀ c t, l = c :: t → am c = false) : sc false (.a w) out l = sc false .z (out ++ [⟨1, ba w⟩]) l := by
  cases l with
  | nil => rfl
  | cons c t =>
    have hc := h c t rfl
    rw [sc_free (q := .a w) trivial, sc_free (q := .z) trivial]
    simp [hc, flush]
theorem sc_atom : ∀ (x : List UInt8) (w : List UInt8) (out : List Tk) (y : List UInt8), (∀ c ∈ x, am c = true) → sc false (.a w) out (x ++ y) = sc false (.a (w ++ x)) out y
  | [], w, out, y, _ => by simp
  | c :: x, w, out, y, h => by
    rw [List.cons_append, sc_free (q := .a w) trivial, if_pos (h c (by simp)), sc_atom x _ out y (fun d hd => h d (by simp [hd]))]
    simp [Md.word]
theorem sc_word (x : List UInt8) (out : List Tk) (y : List UInt8) (hx : x ≠ []) (h : ∀ c ∈ x, am c = true) : sc false .z out (x ++ y) = sc false (.a x) out y := by
  cases x with
  | nil => exact absurd rfl hx
  | cons c x =>
    rw [List.cons_append, sc_free (q := .z) trivial, if_pos (h c (by simp)), sc_atom x _ out y (fun d hd => h d (by simp [hd]))]
    rfl
theorem sc_one {x y : List UInt8} (out : List Tk) (hx : x ≠ []) (h : ∀ c ∈ x, am c = true) (hy : ∀ c t, y = c :: t → am c = false) : sc false .z out (x ++ y) = sc false .z (out ++ [⟨1, ba x⟩]) y := by
  rw [sc_word x out y hx h, sc_flush x out y hy]
theorem sc_blank (out : List Tk) (c : UInt8) (t : List UInt8) (h : bk c = true) : sc false .z out (c :: t) = sc false .z out t := by
  obtain ⟨h1, h2, h3, h4, h5⟩ := bk_facts _ c.toNat_lt h
  have ha : am c = false := h4
  have hs : sp c = false := h5
  rw [sc_free (q := .z) trivial, ha, fold_ne h3, if_neg (by decide), if_neg (by decide), if_neg h1, if_neg h2, hs, if_neg (by decide), if_pos h]
  rfl
theorem sc_special (out : List Tk) (c : UInt8) (t : List UInt8) (h : sp c = true) : sc false .z out (c :: t) = sc false .z (out ++ [⟨3, ba [c]⟩]) t := by
  obtain ⟨h1, h2, h3, h4, _⟩ := sp_facts _ c.toNat_lt h
  have ha : am c = false := h4
  rw [sc_free (q := .z) trivial, ha, fold_ne h3, if_neg (by decide), if_neg (by decide), if_neg h1, if_neg h2, if_pos h]
  rfl
theorem am_ne {c : UInt8} (h : c.toNat = 34 ∨ c.toNat = 40 ∨ c.toNat = 13) : ¬ am c = true := by
  intro e
  obtain ⟨h1, h2, _, _, h5, _⟩ := am_facts _ c.toNat_lt e
  omega
theorem sc_quote (out : List Tk) (c : UInt8) (t : List UInt8) (h : c.toNat = 34) : sc false .z out (c :: t) = sc false (.q []) out t := by
  rw [sc_free (q := .z) trivial, if_neg (am_ne (c := c) (.inl h)), if_neg (by rw [fold_ne (by omega)]; decide), if_pos h]
  rfl
theorem sc_paren (out : List Tk) (c : UInt8) (t : List UInt8) (h : c.toNat = 40) : sc false .z out (c :: t) = sc false (.c 1) out t := by
  rw [sc_free (q := .z) trivial, if_neg (am_ne (c := c) (.inr (.inl h))), if_neg (by rw [fold_ne (by omega)]; decide), if_neg (by omega), if_pos h]
  rfl
theorem sc_fold (out : List Tk) (l : List UInt8) (h : fold l = true) : sc false .z out l = sc false .z out (l.drop 2) := by
  obtain ⟨c, d, e, t, rfl, h1, h2, h3⟩ := fold_cons h
  rw [sc_free (q := .z) trivial, if_neg (am_ne (c := c) (.inr (.inr h1))), if_pos h, sc_true]
  rfl
theorem sc_bad (out : List Tk) (c : UInt8) (t : List UInt8) (h1 : bk c = false) (h2 : fold (c :: t) = false) (h3 : c.toNat ≠ 40) (h4 : c.toNat ≠ 34) (h5 : sp c = false) (h6 : am c = false) : sc false .z out (c :: t) = (3, []) := by
  rw [sc_free (q := .z) trivial]
  simp [h1, h2, h3, h4, h5, h6]

/-! Within quoted texts and comments: what the next part stands for, its size, and the code. -/
def innerL (l : List UInt8) : List UInt8 × Nat × Nat :=
  if fold l = true then ([], 2, 0)
  else match l with
    | [] => ([], 0, 3)
    | [c] => if c.toNat = 92 then ([], 0, 9) else if tx c = true then ([c], 1, 0) else ([], 0, 3)
    | c :: d :: _ => if c.toNat = 92 then (if tx d = true then ([d], 2, 0) else ([], 0, 3)) else if tx c = true then ([c], 1, 0) else ([], 0, 3)
theorem inner_fold {l : List UInt8} (h : fold l = true) : innerL l = ([], 2, 0) := by unfold innerL; rw [if_pos h]
theorem inner_q (w : List UInt8) (out : List Tk) (c : UInt8) (t : List UInt8) (hc : c.toNat ≠ 34) :
    ((innerL (c :: t)).2.2 = 0 ∧ 1 ≤ (innerL (c :: t)).2.1 ∧ (innerL (c :: t)).2.1 ≤ t.length + 1 ∧ (innerL (c :: t)).1.length ≤ 1 ∧ sc false (.q w) out (c :: t) = sc false (.q (w ++ (innerL (c :: t)).1)) out ((c :: t).drop (innerL (c :: t)).2.1)) ∨
    ((innerL (c :: t)).2.2 ≠ 0 ∧ (innerL (c :: t)).2.2 ≤ 9 ∧ sc false (.q w) out (c :: t) = ((innerL (c :: t)).2.2, [])) := by
  rw [sc_q]
  by_cases hf : fold (c :: t) = true
  · rw [inner_fold hf, if_pos hf]
    obtain ⟨c', d, e, t', h1, h2, h3, h4⟩ := fold_cons hf
    obtain ⟨rfl, rfl⟩ := List.cons.inj h1
    left
    refine ⟨rfl, by decide, by simp, by simp, ?_⟩
    rw [sc_true]
    simp
  · rw [if_neg hf]
    unfold innerL
    rw [if_neg hf]
    cases t with
    | nil =>
      by_cases h92 : c.toNat = 92
      · right; simp [h92, sc_nil, fin]
      · by_cases ht : tx c = true
        · left; simp [h92, ht, hc]
        · right; simp [h92, ht]
    | cons d t =>
      by_cases h92 : c.toNat = 92
      · by_cases ht : tx d = true
        · left; simp [h92, ht, sc_qb]
        · right; simp [h92, ht, sc_qb]
      · by_cases ht : tx c = true
        · left; simp [h92, ht, hc]
        · right; simp [h92, ht]
theorem inner_c (n : Nat) (out : List Tk) (c : UInt8) (t : List UInt8) (h40 : c.toNat ≠ 40) (h41 : c.toNat ≠ 41) :
    ((innerL (c :: t)).2.2 = 0 ∧ 1 ≤ (innerL (c :: t)).2.1 ∧ (innerL (c :: t)).2.1 ≤ t.length + 1 ∧ (innerL (c :: t)).1.length ≤ 1 ∧ sc false (.c n) out (c :: t) = sc false (.c n) out ((c :: t).drop (innerL (c :: t)).2.1)) ∨
    ((innerL (c :: t)).2.2 ≠ 0 ∧ (innerL (c :: t)).2.2 ≤ 9 ∧ sc false (.c n) out (c :: t) = ((innerL (c :: t)).2.2, [])) := by
  rw [sc_c]
  by_cases hf : fold (c :: t) = true
  · rw [inner_fold hf, if_pos hf]
    obtain ⟨c', d, e, t', h1, h2, h3, h4⟩ := fold_cons hf
    obtain ⟨rfl, rfl⟩ := List.cons.inj h1
    left
    refine ⟨rfl, by decide, by simp, by simp, ?_⟩
    rw [sc_true]
    simp
  · rw [if_neg hf]
    unfold innerL
    rw [if_neg hf]
    cases t with
    | nil =>
      by_cases h92 : c.toNat = 92
      · right; simp [h92, sc_nil, fin]
      · by_cases ht : tx c = true
        · left; simp [h92, ht, h40, h41]
        · right; simp [h92, ht]
    | cons d t =>
      by_cases h92 : c.toNat = 92
      · by_cases ht : tx d = true
        · left; simp [h92, ht, sc_cb]
        · right; simp [h92, ht, sc_cb]
      · by_cases ht : tx c = true
        · left; simp [h92, ht, h40, h41]
        · right; simp [h92, ht]
theorem tx34 : tx 34 = true := by decide
theorem sc_close (w : List UInt8) (out : List Tk) (c : UInt8) (t : List UInt8) (h : c.toNat = 34) : sc false (.q w) out (c :: t) = sc false .z (out ++ [⟨2, ba w⟩]) t := by
  have hc : c = 34 := UInt8.toNat.inj h
  subst hc
  rw [sc_q, if_neg (by rw [fold_ne (by decide)]; decide), if_neg (by decide), if_neg (by decide), if_pos h]
theorem sc_open (d : Nat) (out : List Tk) (c : UInt8) (t : List UInt8) (h : c.toNat = 40) : sc false (.c d) out (c :: t) = if d = 16 then (1, []) else sc false (.c (d + 1)) out t := by
  have hc : c = 40 := UInt8.toNat.inj h
  subst hc
  rw [sc_c, if_neg (by rw [fold_ne (by decide)]; decide), if_neg (by decide), if_neg (by decide), if_pos h]
theorem sc_shut (d : Nat) (out : List Tk) (c : UInt8) (t : List UInt8) (h : c.toNat = 41) : sc false (.c d) out (c :: t) = if d = 1 then sc false .z out t else sc false (.c (d - 1)) out t := by
  have hc : c = 41 := UInt8.toNat.inj h
  subst hc
  rw [sc_c, if_neg (by rw [fold_ne (by decide)]; decide), if_neg (by decide), if_neg (by decide), if_neg (by decide), if_pos h]

/-! Texts quoted; tokens printed. -/
def qbyte (c : UInt8) : List UInt8 := if c.toNat = 34 ∨ c.toNat = 92 then [92, c] else if tx c = true then [c] else [32]
def body (s : List UInt8) : List UInt8 := s.flatMap qbyte
def quoteL (s : List UInt8) : List UInt8 := 34 :: (body s ++ [34])
def atomB (s : List UInt8) : Bool := !s.isEmpty && s.all am
def wordL (s : List UInt8) : List UInt8 := if atomB s = true then s else quoteL s
def tokL (t : Tk) : List UInt8 := if t.kind = 2 then quoteL (bl t.text) else bl t.text
def gap (p k : Int) : List UInt8 := if p = 3 ∨ k = 3 then [] else [32]
/-- Tokens printed behind one of kind p. -/
def printP (p : Int) : List Tk → List UInt8
  | [] => []
  | t :: l => gap p t.kind ++ (tokL t ++ printP t.kind l)
def printL (l : List Tk) : List UInt8 := printP 3 l
theorem atomB_iff {s : List UInt8} : atomB s = true ↔ s ≠ [] ∧ ∀ c ∈ s, am c = true := by
  unfold atomB
  simp
theorem sc_body : ∀ (s : List UInt8) (w : List UInt8) (out : List Tk) (r : List UInt8), (∀ c ∈ s, tx c = true) → sc false (.q w) out (body s ++ r) = sc false (.q (w ++ s)) out r
  | [], w, out, r, _ => by simp [body]
  | c :: s, w, out, r, h => by
    have hc := h c (by simp)
    have ih := fun w => sc_body s w out r (fun d hd => h d (by simp [hd]))
    have h13 := (tx_facts _ c.toNat_lt hc).1
    show sc false (.q w) out ((qbyte c ++ body s) ++ r) = _
    unfold qbyte
    by_cases hq : c.toNat = 34 ∨ c.toNat = 92
    · rw [if_pos hq]
      show sc false (.q w) out (92 :: c :: (body s ++ r)) = _
      rw [sc_q, if_neg (by rw [fold_ne (by decide)]; decide), if_pos (by decide), sc_qb, if_pos hc, ih]
      simp
    · rw [if_neg hq, if_pos hc]
      show sc false (.q w) out (c :: (body s ++ r)) = _
      rw [sc_q, if_neg (by rw [fold_ne h13]; decide), if_neg (by omega), if_neg (by rw [hc]; decide), if_neg (by omega), ih]
      simp
theorem sc_quoted (s : List UInt8) (out : List Tk) (r : List UInt8) (h : ∀ c ∈ s, tx c = true) : sc false .z out (quoteL s ++ r) = sc false .z (out ++ [⟨2, ba s⟩]) r := by
  show sc false .z out (34 :: ((body s ++ [34]) ++ r)) = _
  rw [sc_quote _ _ _ rfl, List.append_assoc, sc_body s [] out _ h]
  exact sc_close _ _ _ _ rfl
theorem scan_quote (s : List UInt8) (h : ∀ c ∈ s, tx c = true) : scan (quoteL s) = (0, [⟨2, ba s⟩]) := by
  have := sc_quoted s [] [] h
  rw [List.append_nil] at this
  exact this
theorem scan_atom (s : List UInt8) (h : atomB s = true) : scan s = (0, [⟨1, ba s⟩]) := by
  obtain ⟨h1, h2⟩ := atomB_iff.1 h
  have := sc_word s [] [] h1 h2
  rw [List.append_nil] at this
  exact this
theorem scan_word (s : List UInt8) (h : ∀ c ∈ s, tx c = true) : scan (wordL s) = (0, [⟨if atomB s = true then 1 else 2, ba s⟩]) := by
  unfold wordL
  by_cases ha : atomB s = true
  · rw [if_pos ha, if_pos ha, scan_atom s ha]
  · rw [if_neg ha, if_neg ha, scan_quote s h]

/-! What is scanned can be printed and scanned again. -/
def Ok (t : Tk) : Prop := (t.kind = 1 ∧ bl t.text ≠ [] ∧ ∀ c ∈ bl t.text, am c = true) ∨ (t.kind = 2 ∧ ∀ c ∈ bl t.text, tx c = true) ∨ (t.kind = 3 ∧ ∃ c, bl t.text = [c] ∧ sp c = true)
def OkM : Md → Prop
  | .a w => w ≠ [] ∧ ∀ c ∈ w, am c = true
  | .q w => ∀ c ∈ w, tx c = true
  | .qb w => ∀ c ∈ w, tx c = true
  | _ => True
theorem ok_snoc {out : List Tk} {t : Tk} (h : ∀ x ∈ out, Ok x) (ht : Ok t) : ∀ x ∈ out ++ [t], Ok x := by
  intro x hx
  rcases List.mem_append.1 hx with h1 | h1
  · exact h x h1
  · rw [List.mem_singleton.1 h1]; exact ht
theorem all_snoc {p : UInt8 → Bool} {w : List UInt8} {c : UInt8} (h : ∀ x ∈ w, p x = true) (hc : p c = true) : ∀ x ∈ w ++ [c], p x = true := by
  intro x hx
  rcases List.mem_append.1 hx with h1 | h1
  · exact h x h1
  · rw [List.mem_singleton.1 h1]; exact hc
theorem ok_flush {q : Md} {out : List Tk} (hq : OkM q) (h : ∀ x ∈ out, Ok x) : ∀ x ∈ flush q out, Ok x := by
  cases q with
  | a w => exact ok_snoc h (.inl ⟨rfl, by rw [bl_ba]; exact hq.1, by rw [bl_ba]; exact hq.2⟩)
  | z => exact h
  | q w => exact h
  | qb w => exact h
  | c d => exact h
  | cb d => exact h
/-- How much a mode, and tokens, take. -/
def costM : Md → Nat
  | .a w => w.length + 1 | .q w => w.length + 1 | .qb w => w.length + 1 | _ => 0
def cost (l : List Tk) : Nat := (l.map fun t => t.text.size + 1).sum
theorem cost_snoc (l : List Tk) (t : Tk) : cost (l ++ [t]) = cost l + (t.text.size + 1) := by simp [cost]
theorem cost_flush {q : Md} (h : Free q) (out : List Tk) : cost (flush q out) = cost out + costM q := by
  cases q with
  | z => rfl
  | a w => rw [flush, cost_snoc, ba_size]; rfl
  | q w => cases h
  | qb w => cases h
  | c d => cases h
  | cb d => cases h
theorem word_len (q : Md) (h : Free q) : q.word.length ≤ costM q := by
  cases q <;> simp [Md.word, costM]
theorem ok_word {q : Md} (h : Free q) (hq : OkM q) : ∀ c ∈ q.word, am c = true := by
  cases q with
  | z => intro c hc; cases hc
  | a w => exact hq.2
  | q w => cases h
  | qb w => cases h
  | c d => cases h
  | cb d => cases h
/-- All tokens that come are right, and take no more than twice the bytes. -/
theorem sc_ok : ∀ (l : List UInt8) (k : Bool) (q : Md) (out T : List Tk), OkM q → (∀ x ∈ out, Ok x) → sc k q out l = (0, T) → (∀ x ∈ T, Ok x) ∧ cost T ≤ cost out + costM q + 2 * l.length := by
  intro l
  induction l with
  | nil =>
    intro k q out T hq ho h
    rw [sc_nil] at h
    cases q with
    | z => obtain rfl : out = T := (Prod.mk.inj h).2; exact ⟨ho, by simp [costM]⟩
    | a w =>
      obtain rfl : flush (.a w) out = T := (Prod.mk.inj h).2
      exact ⟨ok_flush hq ho, by rw [cost_flush (q := .a w) trivial]; simp⟩
    | q w => cases (Prod.mk.inj h).1
    | qb w => cases (Prod.mk.inj h).1
    | c d => cases (Prod.mk.inj h).1
    | cb d => cases (Prod.mk.inj h).1
  | cons c t ih =>
    intro k q out T hq ho h
    have hbad : ∀ {n : Nat}, n ≠ 0 → ((n, []) : Nat × List Tk) = (0, T) → False := fun hn e => hn (Prod.mk.inj e).1
    have go : ∀ {k : Bool} {q' : Md} {o' : List Tk}, sc k q' o' t = (0, T) → OkM q' → (∀ x ∈ o', Ok x) → cost o' + costM q' ≤ cost out + costM q + 2 → (∀ x ∈ T, Ok x) ∧ cost T ≤ cost out + costM q + 2 * (c :: t).length := by
      intro k q' o' h4 h1 h2 h3
      obtain ⟨h5, h6⟩ := ih k q' o' T h1 h2 h4
      exact ⟨h5, by simp only [List.length_cons]; omega⟩
    have free : Free q → (∀ x ∈ T, Ok x) ∧ cost T ≤ cost out + costM q + 2 * (c :: t).length := by
      intro hf
      cases k with
      | true => rw [sc_true] at h; exact go h hq ho (by omega)
      | false =>
        rw [sc_free hf] at h
        have hfl := cost_flush hf out
        have hok := ok_flush hq ho
        split at h
        · rename_i ha
          refine go h ⟨by simp, all_snoc (ok_word hf hq) ha⟩ ho ?_
          have := word_len q hf
          simp only [costM, List.length_append, List.length_singleton]
          cases q <;> simp_all [Md.word, costM] <;> omega
        · split at h
          · exact go h trivial hok (by rw [hfl]; simp [costM])
          · split at h
            · exact go h (by intro c hc; cases hc) hok (by rw [hfl]; simp [costM])
            · split at h
              · exact go h trivial hok (by rw [hfl]; simp [costM])
              · split at h
                · rename_i hs
                  refine go h trivial (ok_snoc hok (.inr (.inr ⟨rfl, c, by rw [bl_ba], hs⟩))) ?_
                  rw [cost_snoc, hfl, ba_size]; simp [costM]
                · split at h
                  · exact go h trivial hok (by rw [hfl]; simp [costM])
                  · exact (hbad (by decide) h).elim
    cases q with
    | z => exact free trivial
    | a w => exact free trivial
    | q w =>
      cases k with
      | true => rw [sc_true] at h; exact go h hq ho (by omega)
      | false =>
        rw [sc_q] at h
        split at h
        · exact go h hq ho (by omega)
        · split at h
          · exact go h hq ho (by simp only [costM]; omega)
          · split at h
            · exact (hbad (by decide) h).elim
            · rename_i htx
              split at h
              · exact go h trivial (ok_snoc ho (.inr (.inl ⟨rfl, by rw [bl_ba]; exact hq⟩))) (by rw [cost_snoc, ba_size]; simp only [costM]; omega)
              · exact go h (all_snoc hq (by simpa using htx)) ho (by simp only [costM, List.length_append, List.length_singleton]; omega)
    | qb w =>
      cases k with
      | true => rw [sc_true] at h; exact go h hq ho (by omega)
      | false =>
        rw [sc_qb] at h
        split at h
        · rename_i htx
          exact go h (all_snoc hq htx) ho (by simp only [costM, List.length_append, List.length_singleton]; omega)
        · exact (hbad (by decide) h).elim
    | c d =>
      cases k with
      | true => rw [sc_true] at h; exact go h hq ho (by omega)
      | false =>
        rw [sc_c] at h
        split at h
        · exact go h trivial ho (by simp only [costM]; omega)
        · split at h
          · exact go h trivial ho (by simp only [costM]; omega)
          · split at h
            · exact (hbad (by decide) h).elim
            · split at h
              · split at h
                · exact (hbad (by decide) h).elim
                · exact go h trivial ho (by simp only [costM]; omega)
              · split at h
                · split at h
                  · exact go h trivial ho (by simp only [costM]; omega)
                  · exact go h trivial ho (by simp only [costM]; omega)
                · exact go h trivial ho (by simp only [costM]; omega)
    | cb d =>
      cases k with
      | true => rw [sc_true] at h; exact go h hq ho (by omega)
      | false =>
        rw [sc_cb] at h
        split at h
        · exact go h trivial ho (by simp only [costM]; omega)
        · exact (hbad (by decide) h).elim
theorem scan_ok {l : List UInt8} {T : List Tk} (h : scan l = (0, T)) : (∀ x ∈ T, Ok x) ∧ cost T ≤ 2 * l.length := by
  obtain ⟨h1, h2⟩ := sc_ok l false .z [] T trivial (by intro x hx; cases hx) h
  exact ⟨h1, by simpa [cost, costM] using h2⟩
theorem len_cost (T : List Tk) : T.length ≤ cost T := by
  induction T with
  | nil => simp
  | cons t T ih => simp only [cost, List.map_cons, List.sum_cons, List.length_cons] at *; omega
theorem mem_cost {T : List Tk} {t : Tk} (h : t ∈ T) : t.text.size ≤ cost T := by
  induction T with
  | nil => cases h
  | cons u T ih =>
    simp only [cost, List.map_cons, List.sum_cons] at *
    rcases List.mem_cons.1 h with rfl | h
    · omega
    · have := ih h; omega
theorem qbyte_len (c : UInt8) : (qbyte c).length ≤ 2 := by
  unfold qbyte
  split
  · simp
  · split <;> simp
theorem body_len (s : List UInt8) : (body s).length ≤ 2 * s.length := by
  induction s with
  | nil => simp [body]
  | cons c s ih =>
    have := qbyte_len c
    have e : body (c :: s) = qbyte c ++ body s := rfl
    rw [e, List.length_append, List.length_cons]
    omega
theorem quote_len (s : List UInt8) : (quoteL s).length ≤ 2 * s.length + 2 := by
  have := body_len s
  simp only [quoteL, List.length_cons, List.length_append, List.length_nil]
  omega
theorem word_le (s : List UInt8) : (wordL s).length ≤ 2 * s.length + 2 := by
  unfold wordL
  split
  · omega
  · exact quote_len s
theorem tok_len (t : Tk) : (tokL t).length ≤ 2 * t.text.size + 2 := by
  unfold tokL
  have := quote_len (bl t.text)
  rw [bl_len] at this
  split
  · exact this
  · rw [bl_len]; omega
theorem gap_len (p k : Int) : (gap p k).length ≤ 1 := by
  unfold gap
  split <;> simp
theorem print_len : ∀ (l : List Tk) (p : Int), (printP p l).length ≤ 3 * cost l
  | [], _ => by simp [printP]
  | t :: l, p => by
    have h1 := print_len l t.kind
    have h2 := tok_len t
    have h3 := gap_len p t.kind
    simp only [printP, List.length_append, cost, List.map_cons, List.sum_cons] at *
    omega
/-- Behind a token of kind p. -/
def Behind (p : Int) (q : Md) : Prop := (p = 1 ∧ ∃ w, q = .a w) ∨ (p ≠ 1 ∧ q = .z)
theorem am32 : am 32 = false := by decide
theorem bk32 : bk 32 = true := by decide
theorem behind_free {p : Int} {q : Md} (h : Behind p q) : Free q := by
  rcases h with ⟨_, w, rfl⟩ | ⟨_, rfl⟩ <;> trivial
theorem sc_behind {q : Md} (h : Free q) (out : List Tk) (l : List UInt8) (hl : ∀ c t, l = c :: t → am c = false) : sc false q out l = sc false .z (flush q out) l := by
  cases q with
  | z => rfl
  | a w => exact sc_flush w out l hl
  | q w => cases h
  | qb w => cases h
  | c d => cases h
  | cb d => cases h
theorem sc_gap {q : Md} (h : Free q) (out : List Tk) (l : List UInt8) : sc false q out (32 :: l) = sc false .z (flush q out) l := by
  rw [sc_behind h out (32 :: l) (by intro c t e; obtain ⟨rfl, _⟩ := List.cons.inj e; exact am32), sc_blank _ _ _ bk32]
theorem sc_print : ∀ (l : List Tk) (p : Int) (q : Md) (out : List Tk), Behind p q → (∀ x ∈ l, Ok x) → sc false q out (printP p l) = (0, flush q out ++ l)
  | [], p, q, out, hb, _ => by
    rw [printP, sc_nil, List.append_nil]
    rcases hb with ⟨_, w, rfl⟩ | ⟨_, rfl⟩ <;> rfl
  | t :: l, p, q, out, hb, hl => by
    have ht := hl t (by simp)
    have ih := fun q' o' hb' => sc_print l t.kind q' o' hb' (fun x hx => hl x (by simp [hx]))
    have hf := behind_free hb
    rw [printP]
    obtain ⟨k, x⟩ := t
    have e1 : ∀ o : List Tk, (o ++ [⟨k, x⟩]) ++ l = o ++ (⟨k, x⟩ :: l) := fun o => by simp
    by_cases hk3 : k = 3
    · rcases ht with h | h | ⟨_, c, hc, hsp⟩
      · obtain rfl : k = 1 := h.1
        omega
      · obtain rfl : k = 2 := h.1
        omega
      · have hg : gap p k = [] := by unfold gap; rw [if_pos (.inr hk3)]
        have htk : tokL ⟨k, x⟩ = [c] := by
          unfold tokL
          rw [if_neg (by show ¬ k = 2; omega)]
          exact hc
        rw [show gap p (⟨k, x⟩ : Tk).kind = [] from hg, htk]
        show sc false q out (c :: printP k l) = _
        have ha : am c = false := (sp_facts _ c.toNat_lt hsp).2.2.2.1
        rw [sc_behind hf out _ (by intro c' t' e; obtain ⟨rfl, _⟩ := List.cons.inj e; exact ha), sc_special _ _ _ hsp]
        have hx : (⟨3, ba [c]⟩ : Tk) = ⟨k, x⟩ := by
          have hc' : bl x = [c] := hc
          rw [hk3, ← hc', ba_bl]
        rw [hx, ih .z _ (.inr ⟨by show k ≠ 1; omega, rfl⟩)]
        exact congrArg _ (e1 _)
    · have main : ∀ o : List Tk, sc false .z o (tokL ⟨k, x⟩ ++ printP k l) = (0, o ++ (⟨k, x⟩ :: l)) := by
        intro o
        rcases ht with ⟨h1, h2, h3⟩ | ⟨h1, h2⟩ | ⟨h1, _⟩
        · obtain rfl : k = 1 := h1
          have htk : tokL ⟨1, x⟩ = bl x := rfl
          rw [htk, sc_word (bl x) o _ h2 h3, ih (.a (bl x)) o (.inl ⟨rfl, _, rfl⟩)]
          show (0, (o ++ [⟨1, ba (bl x)⟩]) ++ l) = _
          rw [ba_bl]
          exact congrArg _ (e1 o)
        · obtain rfl : k = 2 := h1
          have htk : tokL ⟨2, x⟩ = quoteL (bl x) := rfl
          rw [htk, sc_quoted (bl x) o _ h2, ba_bl, ih .z _ (.inr ⟨by show (2 : Int) ≠ 1; decide, rfl⟩)]
          exact congrArg _ (e1 o)
        · exact absurd h1 hk3
      by_cases hp3 : p = 3
      · have hg : gap p k = [] := by unfold gap; rw [if_pos (.inl hp3)]
        rw [show gap p (⟨k, x⟩ : Tk).kind = [] from hg]
        rcases hb with ⟨h1, _⟩ | ⟨_, rfl⟩
        · omega
        · exact main out
      · have hg : gap p k = [32] := by unfold gap; rw [if_neg (by intro h; rcases h with h | h; exact hp3 h; exact hk3 h)]
        rw [show gap p (⟨k, x⟩ : Tk).kind = [32] from hg]
        show sc false q out (32 :: (tokL ⟨k, x⟩ ++ printP k l)) = _
        rw [sc_gap hf]
        exact main _
theorem scan_print {l : List UInt8} {T : List Tk} (h : scan l = (0, T)) : scan (printL T) = (0, T) := by
  have := sc_print T 3 .z [] (.inr ⟨by decide, rfl⟩) (scan_ok h).1
  exact this

/-! Part by part. -/
theorem sc_out : ∀ (l : List UInt8) (k : Bool) (q : Md) (o out T : List Tk), sc k q out l = (0, T) → sc k q (o ++ out) l = (0, o ++ T) := by
  intro l
  induction l with
  | nil =>
    intro k q o out T h
    rw [sc_nil] at h ⊢
    cases q with
    | z => obtain rfl : out = T := (Prod.mk.inj h).2; rfl
    | a w =>
      obtain rfl : out ++ [⟨1, ba w⟩] = T := (Prod.mk.inj h).2
      show (0, (o ++ out) ++ [⟨1, ba w⟩]) = _
      rw [List.append_assoc]
    | q w => cases (Prod.mk.inj h).1
    | qb w => cases (Prod.mk.inj h).1
    | c d => cases (Prod.mk.inj h).1
    | cb d => cases (Prod.mk.inj h).1
  | cons c t ih =>
    intro k q o out T h
    have hfl : Free q → flush q (o ++ out) = o ++ flush q out := by
      intro _
      cases q <;> simp [flush]
    have free : Free q → sc k q (o ++ out) (c :: t) = (0, o ++ T) := by
      intro hf
      cases k with
      | true => rw [sc_true] at h ⊢; exact ih _ _ _ _ _ h
      | false =>
        rw [sc_free hf] at h ⊢
        rw [hfl hf]
        repeat' (split at h <;> rename_i h1 <;> first | rw [if_pos h1] | rw [if_neg h1])
        all_goals first | exact ih _ _ _ _ _ h | (rw [List.append_assoc]; exact ih _ _ _ _ _ h) | cases (Prod.mk.inj h).1
    cases q with
    | z => exact free trivial
    | a w => exact free trivial
    | q w =>
      cases k with
      | true => rw [sc_true] at h ⊢; exact ih _ _ _ _ _ h
      | false =>
        rw [sc_q] at h ⊢
        repeat' (split at h <;> rename_i h1 <;> first | rw [if_pos h1] | rw [if_neg h1])
        all_goals first | exact ih _ _ _ _ _ h | (rw [List.append_assoc]; exact ih _ _ _ _ _ h) | cases (Prod.mk.inj h).1
    | qb w =>
      cases k with
      | true => rw [sc_true] at h ⊢; exact ih _ _ _ _ _ h
      | false =>
        rw [sc_qb] at h ⊢
        repeat' (split at h <;> rename_i h1 <;> first | rw [if_pos h1] | rw [if_neg h1])
        all_goals first | exact ih _ _ _ _ _ h | cases (Prod.mk.inj h).1
    | c d =>
      cases k with
      | true => rw [sc_true] at h ⊢; exact ih _ _ _ _ _ h
      | false =>
        rw [sc_c] at h ⊢
        repeat' (split at h <;> rename_i h1 <;> first | rw [if_pos h1] | rw [if_neg h1])
        all_goals first | exact ih _ _ _ _ _ h | cases (Prod.mk.inj h).1
    | cb d =>
      cases k with
      | true => rw [sc_true] at h ⊢; exact ih _ _ _ _ _ h
      | false =>
        rw [sc_cb] at h ⊢
        repeat' (split at h <;> rename_i h1 <;> first | rw [if_pos h1] | rw [if_neg h1])
        all_goals first | exact ih _ _ _ _ _ h | cases (Prod.mk.inj h).1
theorem fold_more {a : List UInt8} (b : List UInt8) (h : fold a = true) : fold (a ++ b) = true := by
  obtain ⟨c, d, e, t, rfl, h1, h2, h3⟩ := fold_cons h
  show fold (c :: d :: e :: (t ++ b)) = true
  simp [fold, h1, h2, h3]
/-- A carriage return that opens no fold is refused wherever it stands. -/
theorem sc_cr {q : Md} {out : List Tk} {c : UInt8} {t : List UInt8} (hc : c.toNat = 13) (h : fold (c :: t) = false) : sc false q out (c :: t) = (3, []) := by
  have hc' : c = 13 := UInt8.toNat.inj hc
  subst hc'
  have free : Free q → sc false q out (13 :: t) = (3, []) := by
    intro hf
    rw [sc_free hf, if_neg (by decide), if_neg (by rw [h]; decide), if_neg (by decide), if_neg (by decide), if_neg (by decide), if_neg (by decide)]
  cases q with
  | z => exact free trivial
  | a w => exact free trivial
  | q w => rw [sc_q, if_neg (by rw [h]; decide), if_neg (by decide), if_pos (by decide)]
  | qb w => rw [sc_qb, if_neg (by decide)]
  | c d => rw [sc_c, if_neg (by rw [h]; decide), if_neg (by decide), if_pos (by decide)]
  | cb d => rw [sc_cb, if_neg (by decide)]
theorem sc_parts (b : List UInt8) (x : UInt8) (hx : bk x = true) : ∀ (n : Nat) (a : List UInt8) (q : Md) (out T : List Tk), a.length ≤ n → sc false q out a = (0, T) → sc false q out (a ++ x :: b) = sc false .z T b := by
  have end_ : ∀ (q : Md) (out T : List Tk), sc false q out [] = (0, T) → sc false q out (x :: b) = sc false .z T b := by
    intro q out T h
    rw [sc_nil] at h
    have ha : am x = false := (bk_facts _ x.toNat_lt hx).2.2.2.1
    cases q with
    | z => obtain rfl : out = T := (Prod.mk.inj h).2; exact sc_blank _ _ _ hx
    | a w =>
      obtain rfl : out ++ [⟨1, ba w⟩] = T := (Prod.mk.inj h).2
      rw [sc_flush w out _ (by intro c t e; obtain ⟨rfl, _⟩ := List.cons.inj e; exact ha), sc_blank _ _ _ hx]
    | q w => cases (Prod.mk.inj h).1
    | qb w => cases (Prod.mk.inj h).1
    | c d => cases (Prod.mk.inj h).1
    | cb d => cases (Prod.mk.inj h).1
  intro n
  induction n with
  | zero =>
    intro a q out T hn h
    obtain rfl := List.length_eq_zero_iff.1 (Nat.le_zero.1 hn)
    exact end_ q out T h
  | succ n ih =>
    intro a q out T hn h
    cases a with
    | nil => exact end_ q out T h
    | cons c t =>
      by_cases hf : fold (c :: t) = true
      · have hf' := fold_more (x :: b) hf
        obtain ⟨c', d, e, t', h1, h2, h3, h4⟩ := fold_cons hf
        obtain ⟨rfl, rfl⟩ := List.cons.inj h1
        have step : ∀ (r : List UInt8), fold (c :: d :: r) = true → (∃ q' o', ∀ r, fold (c :: d :: r) = true → sc false q out (c :: d :: r) = sc false q' o' r) ∨ (∃ m, m ≠ 0 ∧ ∀ r, fold (c :: d :: r) = true → sc false q out (c :: d :: r) = (m, [])) := by
          intro _ _
          have ha : ¬ am c = true := am_ne (.inr (.inr h2))
          have ht : tx c = false := by unfold tx; rw [h2]; decide
          cases q with
          | z => exact .inl ⟨.z, out, fun r hr => by rw [sc_free (q := .z) trivial, if_neg ha, if_pos hr, sc_true]; rfl⟩
          | a w => exact .inl ⟨.z, flush (.a w) out, fun r hr => by rw [sc_free (q := .a w) trivial, if_neg ha, if_pos hr, sc_true]⟩
          | q w => exact .inl ⟨.q w, out, fun r hr => by rw [sc_q, if_pos hr, sc_true]⟩
          | qb w => exact .inr ⟨3, by decide, fun r _ => by rw [sc_qb, if_neg (by rw [ht]; decide)]⟩
          | c d => exact .inl ⟨.c d, out, fun r hr => by rw [sc_c, if_pos hr, sc_true]⟩
          | cb d => exact .inr ⟨3, by decide, fun r _ => by rw [sc_cb, if_neg (by rw [ht]; decide)]⟩
        rcases step _ hf with ⟨q', o', hs⟩ | ⟨m, hm, hs⟩
        · rw [hs _ hf] at h
          show sc false q out (c :: d :: ((e :: t') ++ x :: b)) = _
          rw [hs ((e :: t') ++ x :: b) hf']
          exact ih _ q' o' T (by simp only [List.length_cons] at hn ⊢; omega) h
        · rw [hs _ hf] at h
          exact absurd (Prod.mk.inj h).1 hm
      · have hf1 : fold (c :: t) = false := by simpa using hf
        have hc : c.toNat ≠ 13 := by
          intro hc
          rw [sc_cr hc hf1] at h
          cases (Prod.mk.inj h).1
        have hf2 : fold (c :: (t ++ x :: b)) = false := fold_ne hc
        have hn' : t.length ≤ n := by simp only [List.length_cons] at hn; omega
        have ih' := fun q o h => ih t q o T hn' h
        rw [List.cons_append]
        have free : Free q → sc false q out (c :: (t ++ x :: b)) = sc false .z T b := by
          intro hfr
          rw [sc_free hfr, hf1] at h
          rw [sc_free hfr, hf2]
          repeat' (split at h <;> rename_i h1 <;> first | rw [if_pos h1] | rw [if_neg h1])
          all_goals first | exact ih' _ _ h | cases (Prod.mk.inj h).1 | contradiction
        cases q with
        | z => exact free trivial
        | a w => exact free trivial
        | q w =>
          rw [sc_q, hf1] at h
          rw [sc_q, hf2]
          repeat' (split at h <;> rename_i h1 <;> first | rw [if_pos h1] | rw [if_neg h1])
          all_goals first | exact ih' _ _ h | cases (Prod.mk.inj h).1 | contradiction
        | qb w =>
          rw [sc_qb] at h ⊢
          repeat' (split at h <;> rename_i h1 <;> first | rw [if_pos h1] | rw [if_neg h1])
          all_goals first | exact ih' _ _ h | cases (Prod.mk.inj h).1
        | c d =>
          rw [sc_c, hf1] at h
          rw [sc_c, hf2]
          repeat' (split at h <;> rename_i h1 <;> first | rw [if_pos h1] | rw [if_neg h1])
          all_goals first | exact ih' _ _ h | cases (Prod.mk.inj h).1 | contradiction
        | cb d =>
          rw [sc_cb] at h ⊢
          repeat' (split at h <;> rename_i h1 <;> first | rw [if_pos h1] | rw [if_neg h1])
          all_goals first | exact ih' _ _ h | cases (Prod.mk.inj h).1
/-- PART BY PART. -/
theorem scan_parts {a b : List UInt8} {x : UInt8} {S T : List Tk} (hx : bk x = true) (ha : scan a = (0, S)) (hb : scan b = (0, T)) : scan (a ++ x :: b) = (0, S ++ T) := by
  have h1 := sc_parts b x hx a.length a .z [] S (Nat.le_refl _) ha
  show sc false .z [] (a ++ x :: b) = _
  rw [h1]
  have := sc_out b false .z S [] T hb
  rwa [List.append_nil] at this
/-- A code that is refused has no tokens. -/
theorem sc_none : ∀ (l : List UInt8) (k : Bool) (q : Md) (out : List Tk), (sc k q out l).1 ≠ 0 → (sc k q out l).2 = [] := by
  intro l
  induction l with
  | nil => intro k q out h; rw [sc_nil] at h ⊢; cases q <;> first | rfl | exact absurd rfl h
  | cons c t ih =>
    intro k q out h
    have free : Free q → (sc k q out (c :: t)).2 = [] := by
      intro hf
      cases k with
      | true => rw [sc_true] at h ⊢; exact ih _ _ _ h
      | false =>
        rw [sc_free hf] at h ⊢
        repeat' (split at h <;> rename_i h1 <;> first | rw [if_pos h1] | rw [if_neg h1])
        all_goals first | exact ih _ _ _ h | rfl
    cases q with
    | z => exact free trivial
    | a w => exact free trivial
    | q w =>
      cases k with
      | true => rw [sc_true] at h ⊢; exact ih _ _ _ h
      | false =>
        rw [sc_q] at h ⊢
        repeat' (split at h <;> rename_i h1 <;> first | rw [if_pos h1] | rw [if_neg h1])
        all_goals first | exact ih _ _ _ h | rfl
    | qb w =>
      cases k with
      | true => rw [sc_true] at h ⊢; exact ih _ _ _ h
      | false =>
        rw [sc_qb] at h ⊢
        repeat' (split at h <;> rename_i h1 <;> first | rw [if_pos h1] | rw [if_neg h1])
        all_goals first | exact ih _ _ _ h | rfl
    | c d =>
      cases k with
      | true => rw [sc_true] at h ⊢; exact ih _ _ _ h
      | false =>
        rw [sc_c] at h ⊢
        repeat' (split at h <;> rename_i h1 <;> first | rw [if_pos h1] | rw [if_neg h1])
        all_goals first | exact ih _ _ _ h | rfl
    | cb d =>
      cases k with
      | true => rw [sc_true] at h ⊢; exact ih _ _ _ h
      | false =>
        rw [sc_cb] at h ⊢
        repeat' (split at h <;> rename_i h1 <;> first | rw [if_pos h1] | rw [if_neg h1])
        all_goals first | exact ih _ _ _ h | rfl
end Go.Proofs.YtegbkfloiiilfaaGreatDoor.Lex

/-
  Addresses in plain words, no program: texts cut at dots, domains, how addresses are written and read; and what follows of these.
-/
namespace Go.Proofs.YtegbkfloiiilfaaGreatDoor.Addr
open Go.Proofs.YtegbkfloiiilfaaGreatDoor.Lex
open Go.Proofs.YtegbkfloiiilfaaGreatDoor.Glyph (fd foldL foldL_foldL)

/-- An address: what stands before its @, and behind it. -/
structure Ad where
  l : List UInt8
  d : List UInt8
def noAd : Ad := ⟨[], []⟩

/-! Bytes, all 256. -/
theorem byte_all {p : UInt8 → Bool} (h : (List.range 256).all (fun n => p (UInt8.ofNat n)) = true) (c : UInt8) : p c = true := by
  have := all256 (p := fun n => p (UInt8.ofNat n)) h c.toNat c.toNat_lt
  simpa using this
def lbN (n : Nat) : Bool := decide (97 ≤ n ∧ n ≤ 122) || decide (65 ≤ n ∧ n ≤ 90) || decide (48 ≤ n ∧ n ≤ 57) || n == 45
def lb (c : UInt8) : Bool := lbN c.toNat
def pl (c : UInt8) : Bool := decide (32 ≤ c.toNat ∧ c.toNat ≤ 126)
theorem am_fd (c : UInt8) : am (fd c) = am c := beq_iff_eq.1 (byte_all (p := fun c => am (fd c) == am c) (by decide +kernel) c)
theorem lb_fd (c : UInt8) : lb (fd c) = lb c := beq_iff_eq.1 (byte_all (p := fun c => lb (fd c) == lb c) (by decide +kernel) c)
theorem pl_fd (c : UInt8) : pl (fd c) = pl c := beq_iff_eq.1 (byte_all (p := fun c => pl (fd c) == pl c) (by decide +kernel) c)
theorem fd46 (c : UInt8) : (fd c == 46) = (c == 46) := beq_iff_eq.1 (byte_all (p := fun c => (fd c == 46) == (c == 46)) (by decide +kernel) c)
theorem fd45 (c : UInt8) : (fd c == 45) = (c == 45) := beq_iff_eq.1 (byte_all (p := fun c => (fd c == 45) == (c == 45)) (by decide +kernel) c)
theorem qbyte_fd (c : UInt8) : qbyte (fd c) = (qbyte c).map fd := beq_iff_eq.1 (byte_all (p := fun c => qbyte (fd c) == (qbyte c).map fd) (by decide +kernel) c)
theorem lb_am (c : UInt8) (h : lb c = true) : am c = true := by
  have := byte_all (p := fun c => !lb c || am c) (by decide +kernel) c
  simpa [h] using this
theorem pl_tx (c : UInt8) (h : pl c = true) : tx c = true := by
  have := byte_all (p := fun c => !pl c || tx c) (by decide +kernel) c
  simpa [h] using this

/-! Cut at dots, and joined by dots. -/
def pcs : List UInt8 → List UInt8 → List (List UInt8)
  | w, [] => [w]
  | w, x :: t => if x = 46 then w :: pcs [] t else pcs (w ++ [x]) t
def pieces (l : List UInt8) : List (List UInt8) := pcs [] l
def join : List (List UInt8) → List UInt8
  | [] => []
  | [p] => p
  | p :: q :: r => p ++ 46 :: join (q :: r)
theorem pcs_run : ∀ (a w t : List UInt8), (∀ x ∈ a, x ≠ 46) → pcs w (a ++ t) = pcs (w ++ a) t
  | [], w, t, _ => by simp
  | x :: a, w, t, h => by
    rw [List.cons_append, pcs, if_neg (h x (by simp)), pcs_run a _ t fun y hy => h y (by simp [hy])]
    simp
theorem pcs_hit (w t : List UInt8) : pcs w (46 :: t) = w :: pcs [] t := by rw [pcs, if_pos rfl]
theorem pcs_ne : ∀ (l w : List UInt8), pcs w l ≠ []
  | [], w => by simp [pcs]
  | x :: t, w => by
    rw [pcs]
    split
    · simp
    · exact pcs_ne t _
theorem join_cons {p : List UInt8} {q : List (List UInt8)} (h : q ≠ []) : join (p :: q) = p ++ 46 :: join q := by
  cases q with
  | nil => exact absurd rfl h
  | cons a r => rfl
theorem join_pcs : ∀ (l w : List UInt8), join (pcs w l) = w ++ l
  | [], w => by simp [pcs, join]
  | x :: t, w => by
    rw [pcs]
    split
    · rename_i h
      rw [join_cons (pcs_ne t []), join_pcs t [], h]
      rfl
    · rw [join_pcs t _]
      simp
theorem join_pieces (l : List UInt8) : join (pieces l) = l := join_pcs l []
theorem pcs_fd : ∀ (l w : List UInt8), pcs (w.map fd) (l.map fd) = (pcs w l).map (List.map fd)
  | [], w => rfl
  | x :: t, w => by
    have e := fd46 x
    rw [List.map_cons, pcs, pcs]
    by_cases h : x = 46
    · have h2 : fd x = 46 := by rw [h]; decide
      rw [if_pos h, if_pos h2, List.map_cons]
      have := pcs_fd t []
      rw [List.map_nil] at this
      rw [this]
    · have h2 : fd x ≠ 46 := by
        intro h2
        rw [h2] at e
        exact h (by simpa using e.symm)
      rw [if_neg h, if_neg h2, ← pcs_fd t]
      simp
theorem pieces_fd (l : List UInt8) : pieces (foldL l) = (pieces l).map foldL := pcs_fd l []
theorem pcs_le : ∀ (l w p : List UInt8), p ∈ pcs w l → p.length ≤ w.length + l.length
  | [], w, p, h => by
    rw [pcs, List.mem_singleton] at h
    rw [h]
    simp
  | x :: t, w, p, h => by
    rw [pcs] at h
    split at h
    · rcases List.mem_cons.1 h with rfl | h
      · omega
      · have := pcs_le t [] p h
        simp only [List.length_nil, List.length_cons] at *
        omega
    · have := pcs_le t _ p h
      simp only [List.length_append, List.length_cons, List.length_nil] at *
      omega
theorem pieces_le {l p : List UInt8} (h : p ∈ pieces l) : p.length ≤ l.length := by
  have := pcs_le l [] p h
  simpa using this
theorem pcs_count : ∀ (l w : List UInt8), (pcs w l).length ≤ l.length + 1
  | [], w => by simp [pcs]
  | x :: t, w => by
    rw [pcs]
    split
    · have := pcs_count t []
      simp only [List.length_cons]
      omega
    · have := pcs_count t (w ++ [x])
      simp only [List.length_cons]
      omega

/-! Dotted texts, labels, domains, addresses. -/
def dottedB (l : List UInt8) : Bool := (pieces l).all atomB
def labelB (l : List UInt8) : Bool := !l.isEmpty && (!(l.headD 0 == 45) && (!(l.getLastD 0 == 45) && l.all lb))
def textL (a : Ad) : List UInt8 := (if dottedB a.l = true then a.l else quoteL a.l) ++ 64 :: a.d
def keyL (a : Ad) : List UInt8 := foldL (textL a)
def longB (l : List UInt8) : Bool := decide (253 < l.length) || (pieces l).any fun p => decide (63 < p.length)
def domC (l : List UInt8) : Nat := if (pieces l).all labelB = false then 130 else if longB l = true then 2 else 0
def domL (l : List UInt8) : List UInt8 := if domC l = 0 then foldL l else []
def formB (l d : List UInt8) : Bool := l.isEmpty || (!(l.all pl) || domC d == 130)
def bigB (l d : List UInt8) : Bool := !(domC d == 0) || (decide (64 < l.length) || decide (254 < (textL ⟨l, foldL d⟩).length))
def whyC (l d : List UInt8) : Nat := if formB l d = true then 130 else if bigB l d = true then 2 else 0
def buildL (l d : List UInt8) : Ad × Nat := if whyC l d = 0 then (⟨l, foldL d⟩, 0) else (noAd, whyC l d)
def Right (a : Ad) : Prop := whyC a.l a.d = 0 ∧ foldL a.d = a.d
theorem domC_cases (l : List UInt8) : domC l = 130 ∨ domC l = 2 ∨ domC l = 0 := by
  unfold domC
  split
  · exact .inl rfl
  · split
    · exact .inr (.inl rfl)
    · exact .inr (.inr rfl)
theorem whyC_cases (l d : List UInt8) : whyC l d = 130 ∨ whyC l d = 2 ∨ whyC l d = 0 := by
  unfold whyC
  split
  · exact .inl rfl
  · split
    · exact .inr (.inl rfl)
    · exact .inr (.inr rfl)

/-! Small letters change none of these. -/
theorem foldL_len (l : List UInt8) : (foldL l).length = l.length := by simp [foldL]
theorem atom_fd (l : List UInt8) : atomB (foldL l) = atomB l := by
  unfold atomB foldL
  rw [List.isEmpty_map, List.all_map]
  congr 2
  funext c
  exact am_fd c
theorem head_fd (l : List UInt8) : ((foldL l).headD 0 == 45) = (l.headD 0 == 45) := by
  cases l with
  | nil => rfl
  | cons c t => exact fd45 c
theorem last_fd (l : List UInt8) : ((foldL l).getLastD 0 == 45) = (l.getLastD 0 == 45) := by
  unfold foldL
  rw [List.getLastD_eq_getLast?, List.getLastD_eq_getLast?, List.getLast?_map]
  cases l.getLast? with
  | none => rfl
  | some c => exact fd45 c
theorem label_fd (l : List UInt8) : labelB (foldL l) = labelB l := by
  unfold labelB
  rw [head_fd, last_fd]
  unfold foldL
  rw [List.isEmpty_map, List.all_map]
  congr 4
  funext c
  exact lb_fd c
theorem all_fd {p : List UInt8 → Bool} (hp : ∀ l, p (foldL l) = p l) (l : List UInt8) : (pieces (foldL l)).all p = (pieces l).all p := by
  rw [pieces_fd, List.all_map]
  congr 1
  funext c
  exact hp c
theorem dotted_fd (l : List UInt8) : dottedB (foldL l) = dottedB l := all_fd atom_fd l
theorem long_fd (l : List UInt8) : longB (foldL l) = longB l := by
  unfold longB
  rw [pieces_fd, List.any_map, foldL_len]
  congr 2
  funext c
  simp only [Function.comp, foldL_len]
theorem domC_fd (l : List UInt8) : domC (foldL l) = domC l := by
  unfold domC
  rw [all_fd label_fd, long_fd]
theorem quote_fd (l : List UInt8) : quoteL (foldL l) = foldL (quoteL l) := by
  have e : body (foldL l) = foldL (body l) := by
    induction l with
    | nil => rfl
    | cons c t ih =>
      show qbyte (fd c) ++ body (foldL t) = (qbyte c ++ body t).map fd
      rw [ih, qbyte_fd, List.map_append]
      rfl
  unfold quoteL
  rw [e]
  unfold foldL
  rw [List.map_cons, List.map_append]
  rfl
theorem text_fd (l d : List UInt8) : textL ⟨foldL l, foldL d⟩ = foldL (textL ⟨l, d⟩) := by
  unfold textL
  simp only
  rw [dotted_fd, quote_fd]
  cases dottedB l <;> simp [foldL] <;> decide
theorem textlen_fd (l d d' : List UInt8) (h : d'.length = d.length) : (textL ⟨foldL l, d'⟩).length = (textL ⟨l, d⟩).length := by
  unfold textL
  simp only
  rw [dotted_fd, quote_fd]
  cases dottedB l <;> simp [h, foldL_len]
theorem textlen (l d d' : List UInt8) (h : d'.length = d.length) : (textL ⟨l, d'⟩).length = (textL ⟨l, d⟩).length := by
  unfold textL
  simp only [List.length_append, List.length_cons, h]
theorem form_fd (l d : List UInt8) : formB (foldL l) d = formB l d := by
  unfold formB foldL
  rw [List.isEmpty_map, List.all_map]
  congr 3
  congr 1
  funext c
  exact pl_fd c
theorem why_fd (l d : List UInt8) : whyC (foldL l) d = whyC l d := by
  unfold whyC bigB
  rw [form_fd, foldL_len, textlen_fd l _ _ rfl]
theorem why_fd2 (l d : List UInt8) : whyC l (foldL d) = whyC l d := by
  unfold whyC formB bigB
  rw [domC_fd, foldL_foldL]
theorem right_fd {a : Ad} (h : Right a) : Right ⟨foldL a.l, a.d⟩ := ⟨by rw [why_fd]; exact h.1, h.2⟩
theorem key_fd {a : Ad} (h : Right a) : keyL a = textL ⟨foldL a.l, a.d⟩ := by
  have := text_fd a.l a.d
  rw [h.2] at this
  exact this.symm
theorem right_build {l d : List UInt8} {a : Ad} (h : buildL l d = (a, 0)) : Right a := by
  unfold buildL at h
  split at h
  · rename_i hw
    obtain rfl : (⟨l, foldL d⟩ : Ad) = a := (Prod.mk.inj h).1
    exact ⟨by rw [why_fd2]; exact hw, foldL_foldL d⟩
  · rename_i hw
    exact absurd (Prod.mk.inj h).2 hw
theorem build_right {a : Ad} (h : Right a) : buildL a.l a.d = (a, 0) := by
  unfold buildL
  rw [if_pos h.1, h.2]
theorem build_iff (a : Ad) : Right a ↔ buildL a.l a.d = (a, 0) := ⟨build_right, right_build⟩

/-! Tokens: words with dots between them. -/
def atB (t : Tk) : Bool := decide (t.kind = 3) && (bl t.text == [64])
def dotB (t : Tk) : Bool := decide (t.kind = 3) && (bl t.text == [46])
def wordK (k : Int) : Bool := decide (k = 1) || decide (k = 2)
def atomK (k : Int) : Bool := decide (k = 1)
def joined (ok : Int → Bool) : Nat → List Tk → Bool
  | i, [] => i % 2 == 1
  | i, t :: T => (if i % 2 = 1 then dotB t else ok t.kind) && joined ok (i + 1) T
def textsL (T : List Tk) : List UInt8 := (T.map fun t => bl t.text).flatten
def atN (T : List Tk) : Nat := T.findIdx atB
def formT (T : List Tk) : Bool := decide (atN T < T.length) && (joined wordK 0 (T.take (atN T)) && joined atomK 0 (T.drop (atN T + 1)))
def ofL (T : List Tk) : Ad × Nat := if formT T = true then buildL (textsL (T.take (atN T))) (textsL (T.drop (atN T + 1))) else (noAd, 130)
def parseL (s : List UInt8) : Ad × Nat := if (scan s).1 = 0 then ofL (scan s).2 else (noAd, 130)
def strictL (s : List UInt8) : Ad × Nat := if (parseL s).2 = 0 then (if foldL s = keyL (parseL s).1 then parseL s else (noAd, 130)) else (noAd, (parseL s).2)
theorem build_cases (l d : List UInt8) : (∃ a, buildL l d = (a, 0)) ∨ buildL l d = (noAd, 130) ∨ buildL l d = (noAd, 2) := by
  unfold buildL
  split
  · exact .inl ⟨_, rfl⟩
  · rename_i h
    rcases whyC_cases l d with e | e | e
    · rw [e]; exact .inr (.inl rfl)
    · rw [e]; exact .inr (.inr rfl)
    · exact absurd e h
theorem of_cases (T : List Tk) : (∃ a, ofL T = (a, 0) ∧ Right a) ∨ ofL T = (noAd, 130) ∨ ofL T = (noAd, 2) := by
  unfold ofL
  split
  · rcases build_cases (textsL (T.take (atN T))) (textsL (T.drop (atN T + 1))) with ⟨a, h⟩ | h
    · exact .inl ⟨a, h, right_build h⟩
    · exact .inr h
  · exact .inr (.inl rfl)
theorem parse_cases (s : List UInt8) : (∃ a, parseL s = (a, 0) ∧ Right a) ∨ parseL s = (noAd, 130) ∨ parseL s = (noAd, 2) := by
  unfold parseL
  split
  · exact of_cases _
  · exact .inr (.inl rfl)

/-! An address that is right is read of its text. -/
def tkD : List (List UInt8) → List Tk
  | [] => []
  | [p] => [⟨1, ba p⟩]
  | p :: q :: r => ⟨1, ba p⟩ :: ⟨3, ba [46]⟩ :: tkD (q :: r)
theorem am46 : am 46 = false := by decide
theorem sp46 : sp 46 = true := by decide
theorem am64 : am 64 = false := by decide
theorem sp64 : sp 64 = true := by decide
theorem sc_dotted : ∀ (ps : List (List UInt8)) (out : List Tk) (y : List UInt8), ps ≠ [] → (∀ p ∈ ps, atomB p = true) → (∀ c t, y = c :: t → am c = false) → sc false .z out (join ps ++ y) = sc false .z (out ++ tkD ps) y
  | [], _, _, h, _, _ => absurd rfl h
  | [p], out, y, _, h, hy => by
    obtain ⟨h1, h2⟩ := atomB_iff.1 (h p (by simp))
    exact sc_one out h1 h2 hy
  | p :: q :: r, out, y, _, h, hy => by
    obtain ⟨h1, h2⟩ := atomB_iff.1 (h p (by simp))
    rw [join_cons (by simp), List.append_assoc, List.cons_append, sc_one out h1 h2 (by intro c t e; obtain ⟨rfl, _⟩ := List.cons.inj e; exact am46), sc_special _ _ _ sp46, sc_dotted (q :: r) _ y (by simp) (fun x hx => h x (List.mem_cons_of_mem _ hx)) hy]
    simp [tkD]
theorem label_atom {p : List UInt8} (h : labelB p = true) : atomB p = true := by
  unfold labelB at h
  simp only [Bool.and_eq_true, Bool.not_eq_true', List.all_eq_true] at h
  rw [atomB_iff]
  exact ⟨by (intro e; rw [e] at h; exact absurd h.1 (by decide)), fun c hc => lb_am c (h.2.2.2 c hc)⟩
theorem joined_tkD {ok : Int → Bool} (h1 : ok 1 = true) : ∀ (ps : List (List UInt8)) (i : Nat), ps ≠ [] → i % 2 = 0 → joined ok i (tkD ps) = true
  | [], _, h, _ => absurd rfl h
  | [p], i, _, hi => by
    simp only [tkD, joined]
    rw [if_neg (by omega), h1, Bool.true_and, beq_iff_eq]
    omega
  | p :: q :: r, i, _, hi => by
    simp only [tkD, joined]
    rw [if_neg (by omega), if_pos (by omega), joined_tkD h1 (q :: r) (i + 1 + 1) (by simp) (by omega), h1]
    simp [dotB]
theorem texts_tkD : ∀ ps : List (List UInt8), textsL (tkD ps) = join ps
  | [] => rfl
  | [p] => by simp [tkD, textsL, join]
  | p :: q :: r => by
    have ih := texts_tkD (q :: r)
    unfold textsL at *
    simp only [tkD, List.map_cons, List.flatten_cons, join, ih]
    rfl
theorem tkD_noat : ∀ ps : List (List UInt8), ∀ t ∈ tkD ps, atB t = false
  | [], t, h => by cases h
  | [p], t, h => by
    obtain rfl := List.mem_singleton.1 h
    rfl
  | p :: q :: r, t, h => by
    rcases List.mem_cons.1 h with rfl | h
    · rfl
    · rcases List.mem_cons.1 h with rfl | h
      · rfl
      · exact tkD_noat (q :: r) t h
theorem find_at (L R : List Tk) (x : Tk) (hL : ∀ t ∈ L, atB t = false) (hx : atB x = true) : atN (L ++ x :: R) = L.length := by
  unfold atN
  rw [List.findIdx_append]
  have : List.findIdx atB L = L.length := List.findIdx_eq_length.2 hL
  rw [if_neg (by omega), List.findIdx_cons, hx]
  simp
/-- The tokens of a local part as it is written. -/
def tkL (l : List UInt8) : List Tk := if dottedB l = true then tkD (pieces l) else [⟨2, ba l⟩]
theorem sc_local (l : List UInt8) (y : List UInt8) (hl : ∀ c ∈ l, tx c = true) (hy : ∀ c t, y = c :: t → am c = false) : sc false .z [] ((if dottedB l = true then l else quoteL l) ++ y) = sc false .z (tkL l) y := by
  unfold tkL
  split
  · rename_i h
    have := sc_dotted (pieces l) [] y (pcs_ne l []) (fun p hp => List.all_eq_true.1 h p hp) hy
    rw [join_pieces] at this
    exact this
  · have := sc_quoted l [] y hl
    exact this
theorem joined_tkL (l : List UInt8) : joined wordK 0 (tkL l) = true := by
  unfold tkL
  split
  · exact joined_tkD rfl _ 0 (pcs_ne l []) rfl
  · rfl
theorem texts_tkL (l : List UInt8) : textsL (tkL l) = l := by
  unfold tkL
  split
  · rw [texts_tkD, join_pieces]
  · simp [textsL]
theorem tkL_noat (l : List UInt8) : ∀ t ∈ tkL l, atB t = false := by
  unfold tkL
  split
  · exact tkD_noat _
  · intro t h
    obtain rfl := List.mem_singleton.1 h
    rfl
theorem right_parts {a : Ad} (h : Right a) : (∀ c ∈ a.l, pl c = true) ∧ (∀ p ∈ pieces a.d, labelB p = true) ∧ a.l.length ≤ 64 ∧ a.d.length ≤ 253 ∧ (textL a).length ≤ 254 := by
  obtain ⟨h1, h2⟩ := h
  unfold whyC at h1
  split at h1
  · cases h1
  · rename_i hf
    split at h1
    · cases h1
    · rename_i hb
      unfold formB at hf
      unfold bigB at hb
      rw [h2] at hb
      simp only [Bool.not_eq_true, Bool.or_eq_false_iff, Bool.not_eq_false', beq_iff_eq, decide_eq_false_iff_not, List.all_eq_true] at hf hb
      obtain ⟨_, h3, _⟩ := hf
      obtain ⟨h4, h5, h6⟩ := hb
      unfold domC at h4
      split at h4
      · cases h4
      · rename_i h7
        split at h4
        · cases h4
        · rename_i h8
          unfold longB at h8
          simp only [Bool.not_eq_true, Bool.or_eq_false_iff, decide_eq_false_iff_not] at h8
          simp only [Bool.not_eq_false, List.all_eq_true] at h7
          exact ⟨h3, h7, by omega, by omega, Nat.le_of_not_lt h6⟩
theorem scan_text {a : Ad} (h : Right a) : scan (textL a) = (0, tkL a.l ++ ⟨3, ba [64]⟩ :: tkD (pieces a.d)) := by
  obtain ⟨h1, h2, _⟩ := right_parts h
  unfold textL
  show sc false .z [] _ = _
  rw [sc_local a.l (64 :: a.d) (fun c hc => pl_tx c (h1 c hc)) (by intro c t e; obtain ⟨rfl, _⟩ := List.cons.inj e; exact am64), sc_special _ _ _ sp64]
  have := sc_dotted (pieces a.d) (tkL a.l ++ [⟨3, ba [64]⟩]) [] (pcs_ne a.d []) (fun p hp => label_atom (h2 p hp)) (by intro c t e; cases e)
  rw [join_pieces, List.append_nil] at this
  rw [this, sc_nil]
  simp [fin]
theorem parse_text {a : Ad} (h : Right a) : parseL (textL a) = (a, 0) := by
  unfold parseL
  rw [scan_text h]
  simp only [if_true]
  have hf := find_at (tkL a.l) (tkD (pieces a.d)) ⟨3, ba [64]⟩ (tkL_noat a.l) rfl
  unfold ofL formT
  rw [hf]
  have e1 : (tkL a.l ++ ⟨3, ba [64]⟩ :: tkD (pieces a.d)).take (tkL a.l).length = tkL a.l := by simp
  have e2 : (tkL a.l ++ ⟨3, ba [64]⟩ :: tkD (pieces a.d)).drop ((tkL a.l).length + 1) = tkD (pieces a.d) := by
    rw [List.drop_append, List.drop_eq_nil_of_le (by omega)]
    simp
  have e3 : joined atomK 0 (tkD (pieces a.d)) = true := joined_tkD rfl _ 0 (pcs_ne a.d []) rfl
  rw [e1, e2, joined_tkL, e3, texts_tkL, texts_tkD, join_pieces, if_pos (by simp), build_right h]
theorem parse_key {a : Ad} (h : Right a) : parseL (keyL a) = (⟨foldL a.l, a.d⟩, 0) := by
  rw [key_fd h]
  exact parse_text (right_fd h)
theorem strict_text {a : Ad} (h : Right a) : strictL (textL a) = (a, 0) := by
  unfold strictL
  rw [parse_text h]
  simp [keyL]
theorem key_low {a : Ad} (h : Right a) : keyL ⟨foldL a.l, a.d⟩ = keyL a := by
  rw [key_fd (right_fd h), foldL_foldL, key_fd h]
theorem parse_right {s : List UInt8} {a : Ad} (h : parseL s = (a, 0)) : Right a := by
  rcases parse_cases s with ⟨b, e, hr⟩ | e | e <;> rw [e] at h
  · obtain rfl := (Prod.mk.inj h).1
    exact hr
  · cases (Prod.mk.inj h).2
  · cases (Prod.mk.inj h).2
theorem right_iff_parse (a : Ad) : Right a ↔ parseL (textL a) = (a, 0) := ⟨parse_text, parse_right⟩
theorem keys_iff {a b : Ad} (ha : Right a) (hb : Right b) : keyL a = keyL b ↔ (a.d = b.d ∧ foldL a.l = foldL b.l) := by
  constructor
  · intro h
    have h1 := parse_key ha
    rw [h, parse_key hb] at h1
    have h2 := (Prod.mk.inj h1).1
    injection h2 with h3 h4
    exact ⟨h4.symm, h3.symm⟩
  · rintro ⟨h1, h2⟩
    rw [key_fd ha, key_fd hb, h1, h2]
theorem strict_cases (s : List UInt8) : strictL s = parseL s ∨ strictL s = (noAd, 130) := by
  unfold strictL
  split
  · split
    · exact .inl rfl
    · exact .inr rfl
  · rename_i h
    rcases parse_cases s with ⟨a, e, _⟩ | e | e
    · rw [e] at h; exact absurd rfl h
    · rw [e]; exact .inl rfl
    · rw [e]; exact .inl rfl
end Go.Proofs.YtegbkfloiiilfaaGreatDoor.Addr

/-
  Lists of addresses with names in plain words, no program: tokens cut at the signs , ; : < >, boxes read of the pieces, how boxes are written; and what follows of these.
-/
namespace Go.Proofs.YtegbkfloiiilfaaGreatDoor.Mbx
open Go.Proofs.YtegbkfloiiilfaaGreatDoor.Lex
open Go.Proofs.YtegbkfloiiilfaaGreatDoor.Addr (Ad noAd ofL textL tkL tkD parseL parse_text scan_text of_cases right_parts tkD_noat dottedB labelB label_atom sc_local sc_dotted pl pl_tx am64 sp64)

/-- A box: its name, what stands before the @, and behind it. -/
structure Bx where
  n : ByteArray
  l : ByteArray
  d : ByteArray
/-- Tokens without a sign, and the sign behind them; no sign: the end. -/
structure Pc where
  l : List Tk
  s : ByteArray
abbrev adOf (b : Bx) : Ad := ⟨bl b.l, bl b.d⟩
abbrev Right (a : Ad) : Prop := Go.Proofs.YtegbkfloiiilfaaGreatDoor.Addr.Right a

/-! Tokens cut at the signs. -/
def endT (t : Tk) : Bool := decide (t.kind = 3) && (!(bl t.text == [64]) && !(bl t.text == [46]))
def cutL : List Tk → List Pc
  | [] => [⟨[], ⟨#[]⟩⟩]
  | t :: T => if endT t = true then ⟨[], t.text⟩ :: cutL T else match cutL T with
    | p :: r => ⟨t :: p.l, p.s⟩ :: r
    | [] => []
theorem cut_ne : ∀ T : List Tk, cutL T ≠ []
  | [] => by simp [cutL]
  | t :: T => by
    rw [cutL]
    split
    · simp
    · have := cut_ne T
      split
      · simp
      · rename_i h; exact absurd h this
theorem cut_run : ∀ (L T : List Tk) (p : Pc) (r : List Pc), (∀ t ∈ L, endT t = false) → cutL T = p :: r → cutL (L ++ T) = ⟨L ++ p.l, p.s⟩ :: r
  | [], T, p, r, _, h => by simpa using h
  | t :: L, T, p, r, hL, h => by
    rw [List.cons_append, cutL, hL t (by simp), if_neg (by decide), cut_run L T p r (fun x hx => hL x (by simp [hx])) h]
    rfl
theorem cut_all (L : List Tk) (h : ∀ t ∈ L, endT t = false) : cutL L = [⟨L, ⟨#[]⟩⟩] := by
  have := cut_run L [] ⟨[], ⟨#[]⟩⟩ [] h rfl
  simpa using this
theorem cut_hit (e : Tk) (T : List Tk) (he : endT e = true) : cutL (e :: T) = ⟨[], e.text⟩ :: cutL T := by rw [cutL, if_pos he]
theorem cut_sign (L : List Tk) (e : Tk) (T : List Tk) (h : ∀ t ∈ L, endT t = false) (he : endT e = true) : cutL (L ++ e :: T) = ⟨L, e.text⟩ :: cutL T := by
  have := cut_run L (e :: T) ⟨[], e.text⟩ (cutL T) h (cut_hit e T he)
  simpa using this
theorem cut_ways : ∀ T : List Tk, ∃ L, (∀ t ∈ L, endT t = false) ∧ ((T = L ∧ cutL T = [⟨L, ⟨#[]⟩⟩]) ∨ ∃ e T', T = L ++ e :: T' ∧ endT e = true ∧ cutL T = ⟨L, e.text⟩ :: cutL T')
  | [] => ⟨[], by simp, .inl ⟨rfl, rfl⟩⟩
  | t :: T => by
    by_cases ht : endT t = true
    · exact ⟨[], by simp, .inr ⟨t, T, rfl, ht, cut_hit t T ht⟩⟩
    · have ht' : endT t = false := by simpa using ht
      obtain ⟨L, hL, h⟩ := cut_ways T
      have hL' : ∀ x ∈ t :: L, endT x = false := by
        intro x hx
        rcases List.mem_cons.1 hx with rfl | hx
        · exact ht'
        · exact hL x hx
      refine ⟨t :: L, hL', ?_⟩
      rcases h with ⟨rfl, _⟩ | ⟨e, T', rfl, he, _⟩
      · exact .inl ⟨rfl, cut_all _ hL'⟩
      · exact .inr ⟨e, T', rfl, he, cut_sign _ e T' hL' he⟩

/-! What the program asks of tokens: how many words come first; does a sign come next; how many tokens to the next sign. -/
def wordsN (T : List Tk) : Nat := T.findIdx fun t => decide (t.kind = 3)
def segN (T : List Tk) : Nat := T.findIdx endT
def begB (c : UInt8) : List Tk → Bool
  | t :: _ => decide (t.kind = 3) && (bl t.text == [c])
  | [] => false
def sgB (s : ByteArray) (c : UInt8) : Bool := bl s == [c]
def plain (L : List Tk) : Bool := L.all fun t => !decide (t.kind = 3)
def angle (p : Pc) : Bool := sgB p.s 60 && plain p.l
def colon (p : Pc) : Bool := sgB p.s 58 && (plain p.l && !p.l.isEmpty)
theorem begB_end {c : UInt8} {t : Tk} {T : List Tk} (hc : c ≠ 64 ∧ c ≠ 46) (h : begB c (t :: T) = true) : endT t = true ∧ bl t.text = [c] := by
  simp only [begB, Bool.and_eq_true, decide_eq_true_eq, beq_iff_eq] at h
  unfold endT
  rw [h.2]
  simp [h.1, hc.1, hc.2]
theorem end_kind {t : Tk} (h : endT t = true) : t.kind = 3 := by
  unfold endT at h
  simp only [Bool.and_eq_true, decide_eq_true_eq] at h
  exact h.1
theorem begB_of {c : UInt8} {t : Tk} {T : List Tk} (h : endT t = true) : begB c (t :: T) = sgB t.text c := by
  simp [begB, end_kind h, sgB]
theorem begB_not {c : UInt8} {t : Tk} {T : List Tk} (hc : c ≠ 64 ∧ c ≠ 46) (h : endT t = false) : begB c (t :: T) = false := by
  rw [← Bool.not_eq_true]
  intro hb
  rw [(begB_end hc hb).1] at h
  cases h
theorem sg_nil (c : UInt8) : sgB ⟨#[]⟩ c = false := rfl
theorem seg_cut {T : List Tk} {p : Pc} {r : List Pc} (h : cutL T = p :: r) : segN T = p.l.length ∧ T.take (segN T) = p.l ∧ cutL (T.drop (segN T)) = ⟨[], p.s⟩ :: r ∧ segN T ≤ T.length := by
  obtain ⟨L, hL, hw⟩ := cut_ways T
  have hf : L.findIdx endT = L.length := List.findIdx_eq_length.2 hL
  rcases hw with ⟨rfl, hc⟩ | ⟨e, T', rfl, he, hc⟩
  · rw [h] at hc
    obtain ⟨rfl, rfl⟩ := List.cons.inj hc
    unfold segN
    rw [hf]
    simp [cutL]
  · rw [h] at hc
    obtain ⟨rfl, rfl⟩ := List.cons.inj hc
    have : segN (L ++ e :: T') = L.length := by
      unfold segN
      rw [List.findIdx_append, hf, if_neg (by omega), List.findIdx_cons, he]
      simp
    rw [this]
    refine ⟨rfl, by simp, ?_, by simp⟩
    rw [List.drop_append_of_le_length (by omega), List.drop_length, List.nil_append]
    exact cut_hit e T' he
theorem findIdx_plain {L : List Tk} (h : plain L = true) : wordsN L = L.length := by
  unfold wordsN
  rw [List.findIdx_eq_length]
  intro t ht
  unfold plain at h
  have := List.all_eq_true.1 h t ht
  simpa using this
theorem words_lt {L : List Tk} (h : plain L = false) : wordsN L < L.length := by
  unfold wordsN
  rw [List.findIdx_lt_length]
  unfold plain at h
  rw [List.all_eq_false] at h
  obtain ⟨t, ht, hp⟩ := h
  exact ⟨t, ht, by simpa using hp⟩
theorem words_at {L : List Tk} (h : plain L = false) (T : List Tk) : ∃ t, (L ++ T).drop (wordsN (L ++ T)) = t :: ((L ++ T).drop (wordsN (L ++ T) + 1)) ∧ t ∈ L := by
  have hl := words_lt h
  have he : wordsN (L ++ T) = wordsN L := by
    unfold wordsN at *
    rw [List.findIdx_append, if_pos hl]
  rw [he]
  have hl2 : wordsN L < (L ++ T).length := by rw [List.length_append]; omega
  refine ⟨(L ++ T)[wordsN L], List.drop_eq_getElem_cons hl2, ?_⟩
  rw [List.getElem_append_left hl]
  exact List.getElem_mem hl
theorem words_all {L : List Tk} (h : plain L = true) (e : Tk) (T : List Tk) (he : e.kind = 3) : wordsN (L ++ e :: T) = L.length := by
  have := findIdx_plain h
  unfold wordsN at *
  rw [List.findIdx_append, this, if_neg (by omega), List.findIdx_cons]
  simp [he]
/-- The sign behind the words, if it is one of these. -/
theorem words_cut {T : List Tk} {p : Pc} {r : List Pc} (c : UInt8) (hc : c ≠ 64 ∧ c ≠ 46) (h : cutL T = p :: r) : begB c (T.drop (wordsN T)) = (sgB p.s c && plain p.l) := by
  obtain ⟨L, hL, hw⟩ := cut_ways T
  cases hp : plain L
  · have : begB c (T.drop (wordsN T)) = false := by
      rcases hw with ⟨rfl, _⟩ | ⟨e, T', rfl, _, _⟩
      · obtain ⟨t, h1, h2⟩ := words_at hp []
        rw [List.append_nil] at h1
        rw [h1]
        exact begB_not hc (hL t h2)
      · obtain ⟨t, h1, h2⟩ := words_at hp (e :: T')
        rw [h1]
        exact begB_not hc (hL t h2)
    rw [this]
    rcases hw with ⟨_, hc⟩ | ⟨e, T', _, _, hc⟩
    all_goals
      rw [h] at hc
      obtain ⟨rfl, _⟩ := List.cons.inj hc
      simp [hp]
  · rcases hw with ⟨rfl, hc⟩ | ⟨e, T', rfl, he, hc⟩
    · rw [h] at hc
      obtain ⟨rfl, _⟩ := List.cons.inj hc
      rw [findIdx_plain hp, List.drop_length]
      rfl
    · rw [h] at hc
      obtain ⟨rfl, _⟩ := List.cons.inj hc
      rw [words_all hp e T' (end_kind he), List.drop_append_of_le_length (by omega), List.drop_length, List.nil_append, begB_of he, hp, Bool.and_true]
theorem words_take {T : List Tk} {p : Pc} {r : List Pc} (h : cutL T = p :: r) (hp : plain p.l = true) (hs : bl p.s ≠ []) : wordsN T = p.l.length ∧ T.take (wordsN T) = p.l ∧ cutL (T.drop (wordsN T + 1)) = r ∧ wordsN T + 1 ≤ T.length := by
  obtain ⟨L, hL, hw⟩ := cut_ways T
  rcases hw with ⟨rfl, hc⟩ | ⟨e, T', rfl, he, hc⟩
  · rw [h] at hc
    obtain ⟨rfl, _⟩ := List.cons.inj hc
    exact absurd rfl hs
  · rw [h] at hc
    obtain ⟨rfl, rfl⟩ := List.cons.inj hc
    rw [words_all hp e T' (end_kind he)]
    refine ⟨rfl, by simp, ?_, by simp⟩
    rw [List.drop_append, List.drop_eq_nil_of_le (by simp)]
    simp
theorem sg_ne {s : ByteArray} {c : UInt8} (h : sgB s c = true) : bl s ≠ [] := by
  unfold sgB at h
  rw [beq_iff_eq] at h
  rw [h]
  simp
theorem words_le (T : List Tk) : wordsN T ≤ T.length := List.findIdx_le_length
theorem words_zero {T : List Tk} {p : Pc} {r : List Pc} (h : cutL T = p :: r) (hp : plain p.l = true) (hs : bl p.s ≠ []) : (wordsN T = 0) ↔ p.l = [] := by
  rw [(words_take h hp hs).1, List.length_eq_zero_iff]

/-! Boxes read of the pieces. -/
def joinS (sep : List UInt8) : List (List UInt8) → List UInt8
  | [] => []
  | [p] => p
  | p :: q :: r => p ++ (sep ++ joinS sep (q :: r))
def nameL (L : List Tk) : List UInt8 := joinS [32] (L.map fun t => bl t.text)
def bxOf (n : List UInt8) (a : Ad) : Bx := ⟨ba n, ba a.l, ba a.d⟩
def adrP (n : List UInt8) (L : List Tk) (B : List Bx) : Nat × List Bx :=
  if (ofL L).2 = 0 then (if B.length = 100 then (8, []) else (0, B ++ [bxOf n (ofL L).1])) else ((ofL L).2, [])
def takeP (c : UInt8) : List Pc → Option (List Pc)
  | u :: r => if u.l.isEmpty && sgB u.s c then some r else none
  | [] => none
abbrev Rs := Nat × List Pc × List Bx
def no (c : Nat) : Rs := (c, [], [])
def angP (n : List UInt8) : List Pc → List Bx → Rs
  | [], _ => no 130
  | q :: r1, B => if (adrP n q.l B).1 = 0 then (if sgB q.s 62 = true then (0, r1, (adrP n q.l B).2) else no 130) else no (adrP n q.l B).1
def mbxP : List Pc → List Bx → Rs
  | [], _ => no 130
  | p :: r, B =>
    if angle p = true then angP (nameL p.l) r B
    else if (adrP [] p.l B).1 = 0 then (0, ⟨[], p.s⟩ :: r, (adrP [] p.l B).2) else no (adrP [] p.l B).1
def grp : Nat → List Pc → List Bx → Rs
  | 0, _, _ => no 130
  | n + 1, ps, B =>
    if (mbxP ps B).1 = 0 then
      match takeP 59 (mbxP ps B).2.1 with
      | some r => (0, r, (mbxP ps B).2.2)
      | none => match takeP 44 (mbxP ps B).2.1 with
        | some r => grp n r (mbxP ps B).2.2
        | none => no 130
    else no (mbxP ps B).1
def grp0 (n : Nat) (ps : List Pc) (B : List Bx) : Rs := match takeP 59 ps with
  | some r => (0, r, B)
  | none => grp n ps B
def prt (n : Nat) : List Pc → List Bx → Rs
  | p :: r, B => if colon p = true then grp0 n r B else mbxP (p :: r) B
  | [], _ => no 130
def doneP : List Pc → Bool
  | [u] => u.l.isEmpty && (bl u.s).isEmpty
  | _ => false
def contK (k : List Pc → List Bx → Nat × List Bx) (R : Rs) : Nat × List Bx :=
  if R.1 = 0 then (if doneP R.2.1 = true then (0, R.2.2) else match takeP 44 R.2.1 with
    | some r => k r R.2.2
    | none => (130, []))
  else (R.1, [])
def lst : Nat → List Pc → List Bx → Nat × List Bx
  | 0, _, _ => (130, [])
  | n + 1, ps, B => contK (lst n) (prt n ps B)
def listL (T : List Tk) : Nat × List Bx := lst (cutL T).length (cutL T) []
def readL (s : List UInt8) : Nat × List Bx := if (scan s).1 = 0 then listL (scan s).2 else ((scan s).1, [])
def noBx : Bx := ⟨⟨#[]⟩, ⟨#[]⟩, ⟨#[]⟩⟩
def oneL (s : List UInt8) : Bx × Nat := if (readL s).1 = 0 then (match (readL s).2 with | [b] => (b, 0) | _ => (noBx, 130)) else (noBx, (readL s).1)

/-! Tokens and pieces: what comes next. -/
theorem take_cut (c : UInt8) (hc : c ≠ 64 ∧ c ≠ 46) (T : List Tk) : takeP c (cutL T) = if begB c T = true then some (cutL (T.drop 1)) else none := by
  cases T with
  | nil => rfl
  | cons t T =>
    cases ht : endT t
    · rw [begB_not hc ht, if_neg (by decide)]
      cases hq : cutL T with
      | nil => exact absurd hq (cut_ne T)
      | cons p r => simp [cutL, ht, hq, takeP]
    · rw [cut_hit t T ht, begB_of ht]
      simp [takeP]
theorem done_cut (T : List Tk) : doneP (cutL T) = T.isEmpty := by
  cases T with
  | nil => rfl
  | cons t T =>
    cases ht : endT t
    · cases hq : cutL T with
      | nil => exact absurd hq (cut_ne T)
      | cons p r => simp [cutL, ht, hq, doneP]; cases r <;> simp
    · rw [cut_hit t T ht]
      cases hq : cutL T with
      | nil => exact absurd hq (cut_ne T)
      | cons p r => simp [doneP]

/-! What the pieces cost; what holds of all boxes that are read. -/
theorem adr_ok {n : List UInt8} {L : List Tk} {B : List Bx} (h : (adrP n L B).1 = 0) : (ofL L).2 = 0 ∧ B.length ≠ 100 ∧ (adrP n L B).2 = B ++ [bxOf n (ofL L).1] := by
  unfold adrP at h ⊢
  split at h
  · rename_i h1
    split at h
    · cases h
    · rename_i h2
      rw [if_pos h1, if_neg h2]
      exact ⟨h1, h2, rfl⟩
  · rename_i h1
    exact absurd h h1
theorem adr_yes {n : List UInt8} {L : List Tk} {B : List Bx} (h1 : (ofL L).2 = 0) (h2 : B.length ≠ 100) : adrP n L B = (0, B ++ [bxOf n (ofL L).1]) := by
  unfold adrP
  rw [if_pos h1, if_neg h2]
theorem adr_full {n : List UInt8} {L : List Tk} {B : List Bx} (h1 : (ofL L).2 = 0) (h2 : B.length = 100) : adrP n L B = (8, []) := by
  unfold adrP
  rw [if_pos h1, if_pos h2]
theorem adr_bad {n : List UInt8} {L : List Tk} {B : List Bx} (h1 : (ofL L).2 ≠ 0) : adrP n L B = ((ofL L).2, []) := by
  unfold adrP
  rw [if_neg h1]
theorem take_some {c : UInt8} {ps r : List Pc} (h : takeP c ps = some r) : ∃ u, ps = u :: r ∧ u.l = [] ∧ bl u.s = [c] := by
  cases ps with
  | nil => cases h
  | cons u ps =>
    rw [takeP] at h
    split at h
    · rename_i h1
      obtain rfl := Option.some.inj h
      simp only [Bool.and_eq_true, List.isEmpty_iff, sgB, beq_iff_eq] at h1
      exact ⟨u, rfl, h1.1, h1.2⟩
    · cases h
theorem take_yes {c : UInt8} {u : Pc} {r : List Pc} (h1 : u.l = []) (h2 : bl u.s = [c]) : takeP c (u :: r) = some r := by
  unfold takeP
  simp [h1, sgB, h2]
theorem take_no {c : UInt8} {u : Pc} {r : List Pc} (h2 : bl u.s ≠ [c]) : takeP c (u :: r) = none := by
  unfold takeP
  simp [sgB, h2]
/-- A state that a mailbox and a sign leave holding. -/
structure Stays (Q : List Pc → List Bx → Prop) : Prop where
  mbx : ∀ ps B, Q ps B → (mbxP ps B).1 = 0 → Q (mbxP ps B).2.1 (mbxP ps B).2.2
  sign : ∀ u r B, Q (u :: r) B → Q r B
theorem Stays.grp {Q : List Pc → List Bx → Prop} (S : Stays Q) : ∀ n ps B, Q ps B → (grp n ps B).1 = 0 → Q (grp n ps B).2.1 (grp n ps B).2.2
  | 0, _, _, _, h => by cases h
  | n + 1, ps, B, hq, h => by
    rw [Mbx.grp] at h ⊢
    split at h
    · rename_i h1
      rw [if_pos h1]
      have hm := S.mbx ps B hq h1
      cases h2 : takeP 59 (mbxP ps B).2.1 with
      | some r =>
        simp only
        obtain ⟨u, hu, _⟩ := take_some h2
        rw [hu] at hm
        exact S.sign u r _ hm
      | none =>
        rw [h2] at h
        cases h3 : takeP 44 (mbxP ps B).2.1 with
        | some r =>
          rw [h3] at h
          simp only at h ⊢
          obtain ⟨u, hu, _⟩ := take_some h3
          rw [hu] at hm
          exact Stays.grp S n r _ (S.sign u r _ hm) h
        | none => rw [h3] at h; cases h
    · rename_i h1
      exact absurd h h1
theorem Stays.prt {Q : List Pc → List Bx → Prop} (S : Stays Q) (n : Nat) (ps : List Pc) (B : List Bx) (hq : Q ps B) (h : (prt n ps B).1 = 0) : Q (prt n ps B).2.1 (prt n ps B).2.2 := by
  cases ps with
  | nil => cases h
  | cons p r =>
    rw [Mbx.prt] at h ⊢
    split at h
    · rename_i h1
      rw [if_pos h1]
      have hr := S.sign p r B hq
      unfold grp0 at h ⊢
      cases h2 : takeP 59 r with
      | some r' =>
        obtain ⟨u, rfl, _⟩ := take_some h2
        exact S.sign u r' _ hr
      | none =>
        rw [h2] at h
        exact S.grp n r B hr h
    · rename_i h1
      rw [if_neg h1]
      exact S.mbx _ B hq h
theorem Stays.lst {Q : List Pc → List Bx → Prop} (S : Stays Q) : ∀ n ps B, Q ps B → (lst n ps B).1 = 0 → ∃ ps', Q ps' (lst n ps B).2
  | 0, _, _, _, h => by cases h
  | n + 1, ps, B, hq, h => by
    rw [Mbx.lst] at h ⊢
    unfold contK at h ⊢
    split at h
    · rename_i h1
      rw [if_pos h1]
      have hp := S.prt n ps B hq h1
      split at h
      · rename_i h2
        rw [if_pos h2]
        exact ⟨_, hp⟩
      · rename_i h2
        rw [if_neg h2]
        cases h3 : takeP 44 (Mbx.prt n ps B).2.1 with
        | some r =>
          rw [h3] at h
          obtain ⟨u, hu, _⟩ := take_some h3
          rw [hu] at hp
          exact Stays.lst S n r _ (S.sign u r _ hp) h
        | none => rw [h3] at h; cases h
    · rename_i h1
      exact absurd h h1
def costP (ps : List Pc) : Nat := (ps.map fun p => cost p.l).sum
def sumN (B : List Bx) : Nat := (B.map fun b => b.n.size).sum
theorem cost_cons (t : Tk) (T : List Tk) : cost (t :: T) = t.text.size + 1 + cost T := by simp [cost]
theorem costP_cut : ∀ T : List Tk, costP (cutL T) ≤ cost T
  | [] => by simp [cutL, costP, cost]
  | t :: T => by
    have ih := costP_cut T
    rw [cost_cons]
    rw [cutL]
    split
    · simp only [costP, List.map_cons, List.sum_cons] at *
      have : cost ([] : List Tk) = 0 := rfl
      omega
    · cases hq : cutL T with
      | nil => exact absurd hq (cut_ne T)
      | cons p r =>
        rw [hq] at ih
        simp only [costP, List.map_cons, List.sum_cons] at *
        rw [cost_cons]
        omega
theorem name_le : ∀ L : List Tk, (nameL L).length ≤ cost L
  | [] => by simp [nameL, joinS]
  | [t] => by
    simp only [nameL, List.map_cons, List.map_nil, joinS, bl_len, cost_cons]
    omega
  | t :: u :: L => by
    have ih := name_le (u :: L)
    have e : nameL (t :: u :: L) = bl t.text ++ ([32] ++ nameL (u :: L)) := rfl
    rw [e, cost_cons]
    simp only [List.length_append, bl_len, List.length_cons, List.length_nil]
    omega
/-- A box that is written and read again as it is. -/
def Good (b : Bx) : Prop := (∀ c ∈ bl b.n, tx c = true) ∧ Right (adOf b)
theorem tx32 : tx 32 = true := by decide
theorem ok_tx {t : Tk} (h : Ok t) (hk : t.kind ≠ 3) : ∀ c ∈ bl t.text, tx c = true := by
  rcases h with h | h | h
  · intro c hc
    exact (am_facts _ c.toNat_lt (h.2.2 c hc)).2.2.2.2.2.2.2
  · exact h.2
  · exact absurd h.1 hk
theorem name_tx : ∀ L : List Tk, (∀ t ∈ L, Ok t) → plain L = true → ∀ c ∈ nameL L, tx c = true
  | [], _, _, c, hc => by cases hc
  | [t], ho, hp, c, hc => by
    have hk : t.kind ≠ 3 := by simpa [plain] using hp
    exact ok_tx (ho t (by simp)) hk c hc
  | t :: u :: L, ho, hp, c, hc => by
    have e : nameL (t :: u :: L) = bl t.text ++ ([32] ++ nameL (u :: L)) := rfl
    rw [e] at hc
    have hp2 : plain (u :: L) = true ∧ t.kind ≠ 3 := by
      unfold plain at hp ⊢
      rw [List.all_cons, Bool.and_eq_true] at hp
      exact ⟨hp.2, by simpa using hp.1⟩
    rcases List.mem_append.1 hc with hc | hc
    · exact ok_tx (ho t (by simp)) hp2.2 c hc
    · rcases List.mem_append.1 hc with hc | hc
      · obtain rfl := List.mem_singleton.1 hc
        exact tx32
      · exact name_tx (u :: L) (fun x hx => ho x (by simp [hx])) hp2.1 c hc
theorem of_right {L : List Tk} (h : (ofL L).2 = 0) : Right (ofL L).1 := by
  rcases of_cases L with ⟨a, e, hr⟩ | e | e <;> rw [e] at h ⊢
  · exact hr
  · cases h
  · cases h
theorem ad_bxOf (n : List UInt8) (a : Ad) : adOf (bxOf n a) = a := by simp [adOf, bxOf]
theorem sumN_snoc (B : List Bx) (b : Bx) : sumN (B ++ [b]) = sumN B + b.n.size := by simp [sumN]
def St (K : Nat) (ps : List Pc) (B : List Bx) : Prop := (∀ p ∈ ps, ∀ t ∈ p.l, Ok t) ∧ (∀ b ∈ B, Good b) ∧ B.length ≤ 100 ∧ sumN B + costP ps ≤ K
theorem angle_plain {p : Pc} (h : angle p = true) : plain p.l = true := by
  unfold angle at h
  rw [Bool.and_eq_true] at h
  exact h.2
theorem st_add {K : Nat} {ps ps' : List Pc} {B : List Bx} {n : List UInt8} {L : List Tk} (h : St K ps B) (hn : ∀ c ∈ n, tx c = true) (ha : (ofL L).2 = 0) (hB : B.length ≠ 100) (hc : n.length + costP ps' ≤ costP ps) (hs : ∀ p ∈ ps', ∀ t ∈ p.l, Ok t) : St K ps' (B ++ [bxOf n (ofL L).1]) := by
  obtain ⟨h1, h2, h3, h4⟩ := h
  refine ⟨hs, ?_, by rw [List.length_append]; simp; omega, ?_⟩
  · intro b hb
    rcases List.mem_append.1 hb with hb | hb
    · exact h2 b hb
    · obtain rfl := List.mem_singleton.1 hb
      refine ⟨?_, ?_⟩
      · show ∀ c ∈ bl (ba n), tx c = true
        rw [bl_ba]
        exact hn
      · rw [ad_bxOf]
        exact of_right ha
  · rw [sumN_snoc]
    have : (bxOf n (ofL L).1).n.size = n.length := ba_size n
    omega
theorem st_stays (K : Nat) : Stays (St K) where
  mbx := by
    intro ps B hq h
    cases ps with
    | nil => cases h
    | cons p r =>
      have hp := hq.1
      rw [mbxP] at h ⊢
      split at h
      · rename_i h1
        rw [if_pos h1]
        cases r with
        | nil => cases h
        | cons q r1 =>
          rw [angP] at h ⊢
          split at h
          · rename_i h2
            rw [if_pos h2]
            split at h
            · rename_i h3
              rw [if_pos h3]
              obtain ⟨e1, e2, e3⟩ := adr_ok h2
              rw [e3]
              refine st_add hq (name_tx _ (hp p (by simp)) (angle_plain h1)) e1 e2 ?_ (fun x hx => hp x (by simp [hx]))
              have := name_le p.l
              simp only [costP, List.map_cons, List.sum_cons]
              omega
            · cases h
          · rename_i h2
            exact absurd h h2
      · rename_i h1
        rw [if_neg h1]
        split at h
        · rename_i h2
          rw [if_pos h2]
          obtain ⟨e1, e2, e3⟩ := adr_ok h2
          rw [e3]
          refine st_add hq (by intro c hc; cases hc) e1 e2 ?_ ?_
          · simp only [costP, List.map_cons, List.sum_cons, List.length_nil]
            have : cost ([] : List Tk) = 0 := rfl
            omega
          · intro x hx
            rcases List.mem_cons.1 hx with rfl | hx
            · intro t ht; cases ht
            · exact hp x (by simp [hx])
        · rename_i h2
          exact absurd h h2
  sign := by
    rintro u r B ⟨h1, h2, h3, h4⟩
    refine ⟨fun p hp => h1 p (by simp [hp]), h2, h3, ?_⟩
    simp only [costP, List.map_cons, List.sum_cons] at *
    omega
theorem cut_ok : ∀ (T : List Tk), (∀ t ∈ T, Ok t) → ∀ p ∈ cutL T, ∀ t ∈ p.l, Ok t
  | [], _, p, hp, t, ht => by
    obtain rfl := List.mem_singleton.1 hp
    cases ht
  | x :: T, h, p, hp, t, ht => by
    have ih := cut_ok T (fun t ht => h t (by simp [ht]))
    rw [cutL] at hp
    split at hp
    · rcases List.mem_cons.1 hp with rfl | hp
      · cases ht
      · exact ih p hp t ht
    · cases hq : cutL T with
      | nil => exact absurd hq (cut_ne T)
      | cons q r =>
        rw [hq] at hp ih
        rcases List.mem_cons.1 hp with rfl | hp
        · rcases List.mem_cons.1 ht with rfl | ht
          · exact h t (by simp)
          · exact ih q (by simp) t ht
        · exact ih p (by simp [hp]) t ht
/-- What is read: boxes that are good, at most a hundred, of names that are not too long. -/
theorem read_good {s : List UInt8} (h : (readL s).1 = 0) : (∀ b ∈ (readL s).2, Good b) ∧ (readL s).2.length ≤ 100 ∧ sumN (readL s).2 ≤ 2 * s.length := by
  unfold readL at h ⊢
  split at h
  · rename_i h0
    rw [if_pos h0]
    have hT : scan s = (0, (scan s).2) := by rw [← h0]
    obtain ⟨h1, h2⟩ := scan_ok hT
    unfold listL at h ⊢
    have h3 := costP_cut (scan s).2
    obtain ⟨ps', _, h4, h5, h6⟩ := (st_stays (2 * s.length)).lst _ _ _ ⟨cut_ok _ h1, (fun b hb => by cases hb), by simp, by simp only [sumN, List.map_nil, List.sum_nil]; omega⟩ h
    exact ⟨h4, h5, by omega⟩
  · rename_i h0
    exact absurd h h0
theorem cont_none {k : List Pc → List Bx → Nat × List Bx} (hk : ∀ ps B, (k ps B).1 ≠ 0 → (k ps B).2 = []) (R : Rs) (h : (contK k R).1 ≠ 0) : (contK k R).2 = [] := by
  unfold contK at h ⊢
  split
  · rename_i h1
    rw [if_pos h1] at h
    split
    · rename_i h2
      rw [if_pos h2] at h
      exact absurd rfl h
    · rename_i h2
      rw [if_neg h2] at h
      cases h3 : takeP 44 R.2.1 with
      | some r => rw [h3] at h; exact hk _ _ h
      | none => rfl
  · rfl
theorem lst_none : ∀ (n : Nat) (ps : List Pc) (B : List Bx), (lst n ps B).1 ≠ 0 → (lst n ps B).2 = []
  | 0, _, _, _ => rfl
  | n + 1, _ps, _B, h => cont_none (lst_none n) _ h
theorem read_none {s : List UInt8} (h : (readL s).1 ≠ 0) : (readL s).2 = [] := by
  unfold readL at h ⊢
  split
  · rename_i h0
    rw [if_pos h0] at h
    exact lst_none _ _ _ h
  · rfl
end Go.Proofs.YtegbkfloiiilfaaGreatDoor.Mbx

/-
  The document's loop over the pieces in plain words: what each way of a round leads to.
-/
namespace Go.Proofs.YtegbkfloiiilfaaGreatDoor.Mbx
open Go.Proofs.YtegbkfloiiilfaaGreatDoor.Lex
open Go.Proofs.YtegbkfloiiilfaaGreatDoor.Addr (ofL)

def grpC (n : Nat) (ps : List Pc) (B : List Bx) : Rs := match takeP 59 ps with
  | some r => (0, r, B)
  | none => match takeP 44 ps with
    | some r => grp n r B
    | none => no 130
/-- Behind a piece: in a group, or not. -/
def stR (n m : Nat) (g : Bool) (ps : List Pc) (B : List Bx) : Nat × List Bx := if g = true then contK (lst m) (grp (n + 1) ps B) else lst (m + 1) ps B
/-- Behind a mailbox, ahead of its sign. -/
def mtR (n m : Nat) (g : Bool) (s : ByteArray) (rest : List Pc) (B : List Bx) : Nat × List Bx := contK (lst m) (if g = true then grpC n (⟨[], s⟩ :: rest) B else (0, ⟨[], s⟩ :: rest, B))
theorem cont_no {k : List Pc → List Bx → Nat × List Bx} {c : Nat} (h : c ≠ 0) : contK k (no c) = (c, []) := by
  unfold contK no
  rw [if_neg h]
theorem cont_yes {k : List Pc → List Bx → Nat × List Bx} {ps : List Pc} {B : List Bx} : contK k (0, ps, B) = if doneP ps = true then (0, B) else match takeP 44 ps with
    | some r => k r B
    | none => (130, []) := rfl
section
variable {n m : Nat} {g : Bool} {p q u : Pc} {r r1 r2 : List Pc} {B : List Bx}
theorem st_mbx (hc : g = true ∨ colon p = false) : stR n m g (p :: r) B = if (mbxP (p :: r) B).1 = 0 then contK (lst m) (if g = true then grpC n (mbxP (p :: r) B).2.1 (mbxP (p :: r) B).2.2 else (0, (mbxP (p :: r) B).2.1, (mbxP (p :: r) B).2.2)) else ((mbxP (p :: r) B).1, []) := by
  unfold stR
  by_cases h0 : (mbxP (p :: r) B).1 = 0
  · rw [if_pos h0]
    cases g
    · have hc : colon p = false := by
        rcases hc with h | h
        · cases h
        · exact h
      rw [if_neg (by decide), if_neg (by decide), lst, prt, if_neg (by rw [hc]; decide)]
      congr 1
      exact Prod.ext h0 rfl
    · rw [if_pos rfl, if_pos rfl, grp, if_pos h0]
      rfl
  · rw [if_neg h0]
    cases g
    · have hc : colon p = false := by
        rcases hc with h | h
        · cases h
        · exact h
      rw [if_neg (by decide), lst, prt, if_neg (by rw [hc]; decide)]
      unfold contK
      rw [if_neg h0]
    · rw [if_pos rfl, grp, if_neg h0, cont_no h0]
theorem st_plain_bad (hc : g = true ∨ colon p = false) (ha : angle p = false) (h : (ofL p.l).2 ≠ 0) : stR n m g (p :: r) B = ((ofL p.l).2, []) := by
  have e : mbxP (p :: r) B = no (ofL p.l).2 := by
    rw [mbxP, if_neg (by rw [ha]; decide), adr_bad h, if_neg h]
  rw [st_mbx hc, e]
  exact if_neg h
theorem st_plain_full (hc : g = true ∨ colon p = false) (ha : angle p = false) (h : (ofL p.l).2 = 0) (hB : B.length = 100) : stR n m g (p :: r) B = (8, []) := by
  have e : mbxP (p :: r) B = no 8 := by
    rw [mbxP, if_neg (by rw [ha]; decide), adr_full h hB, if_neg (by decide)]
  rw [st_mbx hc, e]
  rfl
theorem st_plain_ok (hc : g = true ∨ colon p = false) (ha : angle p = false) (h : (ofL p.l).2 = 0) (hB : B.length ≠ 100) : stR n m g (p :: r) B = mtR n m g p.s r (B ++ [bxOf [] (ofL p.l).1]) := by
  have e : mbxP (p :: r) B = (0, ⟨[], p.s⟩ :: r, B ++ [bxOf [] (ofL p.l).1]) := by
    rw [mbxP, if_neg (by rw [ha]; decide), adr_yes h hB, if_pos rfl]
  rw [st_mbx hc, e]
  rfl
theorem st_angle_bad (hc : g = true ∨ colon p = false) (ha : angle p = true) (h : (ofL q.l).2 ≠ 0) : stR n m g (p :: q :: r1) B = ((ofL q.l).2, []) := by
  have e : mbxP (p :: q :: r1) B = no (ofL q.l).2 := by
    rw [mbxP, if_pos ha, angP, adr_bad h, if_neg h]
  rw [st_mbx hc, e]
  exact if_neg h
theorem st_angle_full (hc : g = true ∨ colon p = false) (ha : angle p = true) (h : (ofL q.l).2 = 0) (hB : B.length = 100) : stR n m g (p :: q :: r1) B = (8, []) := by
  have e : mbxP (p :: q :: r1) B = no 8 := by
    rw [mbxP, if_pos ha, angP, adr_full h hB, if_neg (by decide)]
  rw [st_mbx hc, e]
  rfl
theorem st_angle_sign (hc : g = true ∨ colon p = false) (ha : angle p = true) (h : (ofL q.l).2 = 0) (hB : B.length ≠ 100) (hs : sgB q.s 62 = false) : stR n m g (p :: q :: r1) B = (130, []) := by
  have e : mbxP (p :: q :: r1) B = no 130 := by
    rw [mbxP, if_pos ha, angP, adr_yes h hB, if_pos rfl, hs, if_neg (by decide)]
  rw [st_mbx hc, e]
  rfl
theorem st_angle (hc : g = true ∨ colon p = false) (ha : angle p = true) (h : (ofL q.l).2 = 0) (hB : B.length ≠ 100) (hs : sgB q.s 62 = true) : stR n m g (p :: q :: r1) B = contK (lst m) (if g = true then grpC n r1 (B ++ [bxOf (nameL p.l) (ofL q.l).1]) else (0, r1, B ++ [bxOf (nameL p.l) (ofL q.l).1])) := by
  have e : mbxP (p :: q :: r1) B = (0, r1, B ++ [bxOf (nameL p.l) (ofL q.l).1]) := by
    rw [mbxP, if_pos ha, angP, adr_yes h hB, if_pos rfl, if_pos hs]
  rw [st_mbx hc, e]
  rfl
theorem take_full {c : UInt8} (hu : u.l ≠ []) : takeP c (u :: r2) = none := by
  rw [takeP, if_neg]
  rw [Bool.and_eq_true, List.isEmpty_iff]
  exact fun h => hu h.1
theorem done_full (hu : u.l ≠ []) : doneP (u :: r2) = false := by
  rw [← Bool.not_eq_true]
  intro h
  unfold doneP at h
  split at h
  · rename_i v h1
    obtain ⟨rfl, _⟩ := List.cons.inj h1
    rw [Bool.and_eq_true, List.isEmpty_iff] at h
    exact hu h.1
  · cases h
theorem st_angle_more (hc : g = true ∨ colon p = false) (ha : angle p = true) (h : (ofL q.l).2 = 0) (hB : B.length ≠ 100) (hs : sgB q.s 62 = true) (hu : u.l ≠ []) : stR n m g (p :: q :: u :: r2) B = (130, []) := by
  rw [st_angle hc ha h hB hs]
  cases g
  · rw [if_neg (by decide), cont_yes, done_full hu, take_full hu, if_neg (by decide)]
  · rw [if_pos rfl]
    unfold grpC
    rw [take_full hu, take_full hu]
    exact cont_no (by decide)
theorem st_angle_ok (hc : g = true ∨ colon p = false) (ha : angle p = true) (h : (ofL q.l).2 = 0) (hB : B.length ≠ 100) (hs : sgB q.s 62 = true) (hu : u.l = []) : stR n m g (p :: q :: u :: r2) B = mtR n m g u.s r2 (B ++ [bxOf (nameL p.l) (ofL q.l).1]) := by
  rw [st_angle hc ha h hB hs]
  obtain ⟨ul, us⟩ := u
  obtain rfl : ul = [] := hu
  rfl
theorem st_colon_empty (hc : colon p = true) (hq : q.l = []) (hs : sgB q.s 59 = true) : stR n m false (p :: q :: r1) B = mtR m m true q.s r1 B := by
  have hs' := hs
  unfold sgB at hs'
  unfold stR mtR
  rw [if_neg (by decide), if_pos rfl, lst, prt, if_pos hc]
  unfold grp0 grpC
  rw [take_yes hq (beq_iff_eq.1 hs'), take_yes (u := ⟨[], q.s⟩) rfl (beq_iff_eq.1 hs')]
theorem st_colon_go (hc : colon p = true) (hq : q.l ≠ [] ∨ sgB q.s 59 = false) : stR n (m + 1) false (p :: q :: r1) B = stR m (m + 1) true (q :: r1) B := by
  have ht : takeP 59 (q :: r1) = none := by
    rcases hq with h | h
    · exact take_full h
    · exact take_no (fun e => by unfold sgB at h; rw [e] at h; cases h)
  unfold stR
  rw [if_neg (by decide), if_pos rfl, lst, prt, if_pos hc]
  unfold grp0
  rw [ht]
theorem done_one {s : ByteArray} (hs : bl s = []) : doneP [⟨[], s⟩] = true := by
  unfold doneP
  simp [hs]
theorem done_no {s : ByteArray} {rest : List Pc} (hs : bl s ≠ []) : doneP (⟨[], s⟩ :: rest) = false := by
  rw [← Bool.not_eq_true]
  intro h
  unfold doneP at h
  split at h
  · rename_i v h1
    obtain ⟨rfl, _⟩ := List.cons.inj h1
    rw [Bool.and_eq_true] at h
    exact hs (List.isEmpty_iff.1 h.2)
  · cases h
theorem mt_semi {s : ByteArray} {rest : List Pc} (hs : sgB s 59 = true) : mtR n m true s rest B = contK (lst m) (0, rest, B) := by
  unfold mtR grpC
  unfold sgB at hs
  rw [if_pos rfl, take_yes rfl (beq_iff_eq.1 hs)]
theorem mt_semi_more {s : ByteArray} (hs : sgB s 59 = true) (hu : u.l ≠ []) : mtR n m true s (u :: r2) B = (130, []) := by
  rw [mt_semi hs, cont_yes, done_full hu, take_full hu, if_neg (by decide)]
theorem pc_nil (hu : u.l = []) : u = ⟨[], u.s⟩ := by
  obtain ⟨ul, us⟩ := u
  obtain rfl : ul = [] := hu
  rfl
theorem mt_semi_end {s : ByteArray} (hs : sgB s 59 = true) (hu : u.l = []) (he : bl u.s = []) : mtR n m true s [u] B = (0, B) := by
  rw [mt_semi hs, cont_yes, pc_nil hu, done_one he, if_pos rfl]
theorem mt_semi_no {s : ByteArray} (hs : sgB s 59 = true) (hu : u.l = []) (he : bl u.s ≠ []) (h44 : bl u.s ≠ [44]) : mtR n m true s (u :: r2) B = (130, []) := by
  rw [mt_semi hs, cont_yes, pc_nil hu, done_no he, take_no (u := ⟨[], u.s⟩) h44, if_neg (by decide)]
theorem mt_semi_on {s : ByteArray} (k : Nat) (hs : sgB s 59 = true) (hu : u.l = []) (h44 : bl u.s = [44]) : mtR n (m + 1) true s (u :: r2) B = stR k m false r2 B := by
  rw [mt_semi hs, cont_yes, pc_nil hu, done_no (by rw [h44]; simp), take_yes (u := ⟨[], u.s⟩) rfl h44, if_neg (by decide)]
  rfl
theorem mt_end {s : ByteArray} (he : bl s = []) : mtR n m false s [] B = (0, B) := by
  unfold mtR
  rw [if_neg (by decide), cont_yes, done_one he, if_pos rfl]
theorem mt_no {s : ByteArray} {rest : List Pc} (h44 : bl s ≠ [44]) (h1 : g = true ∨ bl s ≠ []) (h2 : g = false ∨ sgB s 59 = false) : mtR n m g s rest B = (130, []) := by
  unfold mtR
  cases g
  · have he : bl s ≠ [] := by
      rcases h1 with h | h
      · cases h
      · exact h
    rw [if_neg (by decide), cont_yes, done_no he, take_no h44, if_neg (by decide)]
  · have h59 : sgB s 59 = false := by
      rcases h2 with h | h
      · cases h
      · exact h
    rw [if_pos rfl]
    unfold grpC
    rw [take_no (c := 59) (u := ⟨[], s⟩) (fun e => by unfold sgB at h59; rw [show bl s = [59] from e] at h59; cases h59), take_no (c := 44) (u := ⟨[], s⟩) h44]
    exact cont_no (by decide)
theorem mt_on_list {s : ByteArray} {rest : List Pc} (k : Nat) (h44 : bl s = [44]) : mtR n (m + 1) false s rest B = stR k m false rest B := by
  unfold mtR
  rw [if_neg (by decide), cont_yes, done_no (by rw [h44]; simp), take_yes rfl h44, if_neg (by decide)]
  rfl
theorem mt_on_grp {s : ByteArray} {rest : List Pc} (h44 : bl s = [44]) : mtR (n + 1) m true s rest B = stR n m true rest B := by
  unfold mtR grpC
  rw [if_pos rfl, take_no (by rw [h44]; decide), take_yes rfl h44]
  rfl
end
/-- Pieces of tokens: the last one alone has no sign. -/
def Wf (ps : List Pc) : Prop := ∃ T, (∀ t ∈ T, Ok t) ∧ cutL T = ps
theorem Wf.ne {ps : List Pc} (h : Wf ps) : ps ≠ [] := by
  obtain ⟨T, _, rfl⟩ := h
  exact cut_ne T
theorem Wf.cons {p : Pc} {r : List Pc} (h : Wf (p :: r)) : (p.s = ⟨#[]⟩ ∧ r = []) ∨ (bl p.s ≠ [] ∧ Wf r) := by
  obtain ⟨T, ho, hc⟩ := h
  obtain ⟨L, _, hw⟩ := cut_ways T
  rcases hw with ⟨_, e⟩ | ⟨t, T', rfl, he, e⟩
  · rw [hc] at e
    obtain ⟨rfl, rfl⟩ := List.cons.inj e
    exact .inl ⟨rfl, rfl⟩
  · rw [hc] at e
    obtain ⟨rfl, rfl⟩ := List.cons.inj e
    refine .inr ⟨?_, T', fun x hx => ho x (by simp [hx]), rfl⟩
    rcases ho t (by simp) with h | h | ⟨_, c, h, _⟩
    · have := end_kind he; omega
    · have := end_kind he; omega
    · show bl t.text ≠ []
      rw [h]
      simp
end Go.Proofs.YtegbkfloiiilfaaGreatDoor.Mbx

/-
  The chapter in plain words: a body's lines, a field's first word, what tells a machine or a list. No program in this text.
-/
namespace Go.Proofs.YtegbkfloiiilfaaGreatDoor.Msg
open Go.Proofs.YtegbkfloiiilfaaGreatDoor.Head
open Go.Proofs.YtegbkfloiiilfaaGreatDoor.Glyph (foldL)

/-! Lines. -/
theorem spl_ne (s : List UInt8) : spl s ≠ [] := by
  cases h : cut2 s with
  | none => rw [spl_none h]; simp
  | some p =>
    obtain ⟨a, r⟩ := p
    rw [spl_some h]; simp
/-- What was gathered, ahead of the first line. -/
def glue (w : List UInt8) : List (List UInt8) → List (List UInt8)
  | [] => [w]
  | h :: t => (w ++ h) :: t
theorem glue_nil {q : List (List UInt8)} (h : q ≠ []) : glue [] q = q := by
  cases q with
  | nil => exact absurd rfl h
  | cons a t => rfl
theorem spl_here (t : List UInt8) : spl (13 :: 10 :: t) = [] :: spl t := spl_some (cut2_here t)
theorem glue_here (w t : List UInt8) : glue w (spl (13 :: 10 :: t)) = w :: glue [] (spl t) := by
  rw [spl_here, glue_nil (spl_ne t)]
  show (w ++ []) :: spl t = _
  rw [List.append_nil]
theorem glue_cons (w : List UInt8) {c : UInt8} {t : List UInt8} (h : crlf (c :: t) = false) : glue w (spl (c :: t)) = glue (w ++ [c]) (spl t) := by
  have hc := cut2_cons h
  cases h2 : cut2 t with
  | none =>
    rw [h2] at hc
    rw [spl_none hc, spl_none h2]
    simp [glue]
  | some p =>
    obtain ⟨a, r⟩ := p
    rw [h2] at hc
    rw [spl_some hc, spl_some h2]
    simp [glue]
theorem glue_end (w : List UInt8) : glue w (spl []) = [w] := by
  rw [spl_none (by rfl)]
  show [w ++ []] = _
  rw [List.append_nil]
/-- The lines of a body. -/
def linL (s : List UInt8) : List (List UInt8) := if (spl s).getLast? = some [] then (spl s).dropLast else spl s
theorem linL_end {s w : List UInt8} {O : List (List UInt8)} (h : spl s = O ++ [w]) : linL s = if w = [] then O else O ++ [w] := by
  unfold linL
  rw [h, List.getLast?_append]
  by_cases hw : w = []
  · subst hw
    simp
  · rw [if_neg hw, if_neg]
    simp [hw]
theorem spl_last (s : List UInt8) : ∃ O w, spl s = O ++ [w] := ⟨_, _, (List.dropLast_concat_getLast (spl_ne s)).symm⟩
theorem linL_le (s : List UInt8) : (linL s).length ≤ (spl s).length := by
  unfold linL
  split
  · rw [List.length_dropLast]; omega
  · exact Nat.le_refl _
/-- Lines, each with its end behind it. -/
def joinC (q : List (List UInt8)) : List UInt8 := (q.map fun l => l ++ [13, 10]).flatten
theorem joinC_snoc (q : List (List UInt8)) (l : List UInt8) : joinC (q ++ [l]) = joinC q ++ (l ++ [13, 10]) := by
  unfold joinC
  simp
theorem join_spl : ∀ (n : Nat) (s : List UInt8), s.length ≤ n → joinC (spl s) = s ++ [13, 10]
  | n, s, hn => by
    cases hc : cut2 s with
    | none => rw [spl_none hc]; simp [joinC]
    | some p =>
      obtain ⟨t, r⟩ := p
      have hl := cut2_len hc
      rw [spl_some hc, cut2_some hc]
      match n, hn with
      | 0, _ => omega
      | n + 1, _ =>
        have ih := join_spl n r (by omega)
        unfold joinC at ih ⊢
        rw [List.map_cons, List.flatten_cons, ih]
        simp
theorem join_lin (s : List UInt8) : joinC (linL s) = s ∨ joinC (linL s) = s ++ [13, 10] := by
  obtain ⟨O, w, h⟩ := spl_last s
  have hj := join_spl s.length s (Nat.le_refl _)
  rw [linL_end h]
  by_cases hw : w = []
  · rw [if_pos hw]
    rw [h, joinC_snoc, hw, List.nil_append] at hj
    exact .inl (List.append_cancel_right hj)
  · rw [if_neg hw, ← h]
    exact .inr hj
theorem cut2_first : ∀ {s t r : List UInt8}, cut2 s = some (t, r) → cut2 t = none
  | [], _, _, h => by simp [cut2] at h
  | c :: u, t, r, h => by
    cases hc : crlf (c :: u)
    · rw [cut2_cons hc] at h
      cases h2 : cut2 u with
      | none => rw [h2] at h; simp at h
      | some p =>
        obtain ⟨a, r'⟩ := p
        rw [h2] at h
        obtain ⟨rfl, rfl⟩ : c :: a = t ∧ r' = r := by simpa using h
        have ih := cut2_first h2
        have hu := cut2_some h2
        have hca : crlf (c :: a) = false := by
          cases a with
          | nil => rfl
          | cons d a' =>
            rw [hu] at hc
            simpa [crlf] using hc
        rw [cut2_cons hca, ih]
        rfl
    · unfold cut2 at h
      rw [if_pos hc] at h
      obtain ⟨rfl, _⟩ : [] = t ∧ u.drop 1 = r := by simpa using h
      rfl
theorem spl_free : ∀ (n : Nat) (s : List UInt8), s.length ≤ n → ∀ l ∈ spl s, cut2 l = none
  | n, s, hn, l, hm => by
    cases hc : cut2 s with
    | none =>
      rw [spl_none hc] at hm
      obtain rfl := List.mem_singleton.1 hm
      exact hc
    | some p =>
      obtain ⟨t, r⟩ := p
      have hl := cut2_len hc
      rw [spl_some hc] at hm
      rcases List.mem_cons.1 hm with rfl | hm
      · exact cut2_first hc
      · match n, hn with
        | 0, _ => omega
        | n + 1, _ => exact spl_free n r (by omega) l hm
theorem lin_free {s l : List UInt8} (h : l ∈ linL s) : cut2 l = none := by
  refine spl_free s.length s (Nat.le_refl _) l ?_
  unfold linL at h
  split at h
  · exact (List.dropLast_sublist _).subset h
  · exact h
theorem free_at : ∀ {l : List UInt8}, cut2 l = none → ∀ (i : Nat) (a b : UInt8), l[i]? = some a → l[i + 1]? = some b → ¬ (a = 13 ∧ b = 10)
  | [], _, i, a, b, h1, _ => by simp at h1
  | c :: t, h, i, a, b, h1, h2 => by
    have hc : crlf (c :: t) = false := by
      cases hc : crlf (c :: t)
      · rfl
      · unfold cut2 at h
        rw [if_pos hc] at h
        cases h
    match i, h1, h2 with
    | 0, h1, h2 =>
      obtain rfl : c = a := by simpa using h1
      cases t with
      | nil => simp at h2
      | cons d t' =>
        obtain rfl : d = b := by simpa using h2
        rintro ⟨rfl, rfl⟩
        simp [crlf] at hc
    | i + 1, h1, h2 =>
      rw [cut2_cons hc] at h
      have ht : cut2 t = none := by
        cases h3 : cut2 t with
        | none => rfl
        | some p => rw [h3] at h; simp at h
      exact free_at ht i a b (by simpa using h1) (by simpa using h2)
theorem lin_len {s l : List UInt8} (h : l ∈ linL s) : l.length ≤ s.length := by
  have hj := join_lin s
  have hm : (l ++ [13, 10]) ∈ (linL s).map fun l => l ++ [13, 10] := List.mem_map_of_mem h
  have h1 : (l ++ [13, 10]).length ≤ (joinC (linL s)).length := by
    unfold joinC
    exact (List.sublist_flatten_of_mem hm).length_le
  rw [List.length_append] at h1
  simp only [List.length_cons, List.length_nil] at h1
  rcases hj with hj | hj <;> rw [hj] at h1
  · omega
  · rw [List.length_append] at h1
    simp only [List.length_cons, List.length_nil] at h1
    omega

/-! First words. -/
def ends (c : UInt8) : Bool := c == 59 || c == 32 || c == 9
def headW (v : List UInt8) : List UInt8 := v.takeWhile fun c => !ends c
def wordL (v : List UInt8) : List UInt8 := foldL (headW v)
abbrev endsL : List UInt8 := [59, 32, 9]
theorem ends_mem (c : UInt8) : endsL.contains c = ends c := by
  unfold ends
  rw [Bool.eq_iff_iff]
  simp [or_assoc]
theorem any_word : ∀ v : List UInt8, (Lib.indexAny v endsL = -1 ∧ headW v = v) ∨ ∃ k : Nat, Lib.indexAny v endsL = (k : Int) ∧ k ≤ v.length ∧ headW v = v.take k
  | [] => .inl ⟨rfl, rfl⟩
  | c :: t => by
    rw [Lib.indexAny, ends_mem]
    cases hc : ends c
    · have hw : headW (c :: t) = c :: headW t := by unfold headW; rw [List.takeWhile_cons, hc]; rfl
      rw [if_neg (by decide)]
      rcases any_word t with ⟨h1, h2⟩ | ⟨k, h1, h2, h3⟩
      · exact .inl ⟨by rw [h1]; rfl, by rw [hw, h2]⟩
      · refine .inr ⟨k + 1, ?_, by rw [List.length_cons]; omega, by rw [hw, h3, List.take_succ_cons]⟩
        rw [h1, if_neg (by rw [beq_iff_eq]; omega)]
        rfl
    · rw [if_pos rfl]
      exact .inr ⟨0, rfl, Nat.zero_le _, by unfold headW; rw [List.takeWhile_cons, hc]; rfl⟩
/-- The first word, read byte by byte. -/
theorem head_here {v : List UInt8} {k : Nat} {c : UInt8} (h : v[k]? = some c) (hk : headW v = v.take k ++ headW (v.drop k)) (hc : ends c = true) : headW v = v.take k := by
  have hd : v.drop k = c :: v.drop (k + 1) := by
    obtain ⟨h1, h2⟩ := List.getElem?_eq_some_iff.1 h
    rw [← h2, List.getElem_cons_drop]
  rw [hk, hd]
  unfold headW
  rw [List.takeWhile_cons, hc]
  simp
theorem head_on {v : List UInt8} {k : Nat} {c : UInt8} (h : v[k]? = some c) (hk : headW v = v.take k ++ headW (v.drop k)) (hc : ends c = false) : headW v = v.take (k + 1) ++ headW (v.drop (k + 1)) := by
  have hd : v.drop k = c :: v.drop (k + 1) := by
    obtain ⟨h1, h2⟩ := List.getElem?_eq_some_iff.1 h
    rw [← h2, List.getElem_cons_drop]
  rw [hk, hd]
  have hw : headW (c :: v.drop (k + 1)) = c :: headW (v.drop (k + 1)) := by unfold headW; rw [List.takeWhile_cons, hc]; rfl
  rw [hw, List.take_add_one, h]
  simp
theorem head_all {v : List UInt8} {k : Nat} (hl : v.length ≤ k) (hk : headW v = v.take k ++ headW (v.drop k)) : headW v = v := by
  rw [hk, List.drop_eq_nil_of_le hl, List.take_of_length_le hl]
  simp [headW]

/-! A machine; a list. -/
def autoB (a p : List UInt8) : Bool := (!decide (a = []) && !decide (a = [110, 111])) || (decide (p = [98, 117, 108, 107]) || (decide (p = [106, 117, 110, 107]) || decide (p = [108, 105, 115, 116])))
def idL (x : List UInt8) : List UInt8 := 60 :: (foldL x ++ [62])
def seenB (x : List UInt8) (q : List ByteArray) : Bool := q.any fun v => Lib.hasSuffix (foldL (bl v)) (idL x)

/-! Messages. -/
structure Ms where
  f : List Head.Fd
  b : ByteArray
def parseM (s : List UInt8) : Nat × List Head.Fd × List UInt8 := if 65536 < s.length then (2, [], []) else (parseC s, parseF s, parseB s)
def textL (f : List Head.Fd) (b : List UInt8) : List UInt8 := printL f ++ 13 :: 10 :: b
theorem prs_bad : ∀ (n : Nat) (R : List (List UInt8)) (s : List UInt8), (prs n R s).1 ≠ 0 → (prs n R s).2 = ([], [])
  | 0, R, s, h => absurd rfl h
  | n + 1, R, s, h => by
    rw [prs] at h ⊢
    split
    · rename_i hs
      rw [if_pos hs] at h
      exact absurd rfl h
    · rename_i hs
      rw [if_neg hs] at h
      cases hc : cut2 s with
      | none => rfl
      | some p =>
        obtain ⟨t, r⟩ := p
        rw [hc] at h
        simp only at h ⊢
        by_cases ht : t = []
        · rw [if_pos ht] at h
          exact absurd rfl h
        · rw [if_neg ht] at h ⊢
          by_cases hk : chk t R.length = 0
          · rw [if_pos hk] at h ⊢
            exact prs_bad n _ _ h
          · rw [if_neg hk]
theorem parse_bad {s : List UInt8} (h : parseC s ≠ 0) : parseF s = [] ∧ parseB s = [] := by
  have := prs_bad s.length [] s h
  unfold parseF parseB prsA
  rw [this]
  exact ⟨rfl, rfl⟩
theorem parseM_long {s : List UInt8} (h : 65536 < s.length) : parseM s = (2, [], []) := by unfold parseM; rw [if_pos h]
theorem parseM_good {s : List UInt8} (h : ¬ 65536 < s.length) (hc : parseC s = 0) : parseM s = (0, parseF s, parseB s) := by unfold parseM; rw [if_neg h, hc]
theorem parseM_bad {s : List UInt8} (h : ¬ 65536 < s.length) (hc : parseC s ≠ 0) : parseM s = (parseC s, [], []) := by
  unfold parseM
  rw [if_neg h, (parse_bad hc).1, (parse_bad hc).2]
theorem parse_text {q : List Head.Fd} {b : List UInt8} (h : ∀ f ∈ q, rightB (bl f.n) (bl f.v) = true) (hq : q.length ≤ 100) (hz : (textL q b).length ≤ 65536) : parseM (textL q b) = (0, q, b) := by
  obtain ⟨h1, h2, h3⟩ := (parse_print h hq).1 b
  unfold textL at hz ⊢
  rw [parseM_good (by omega) h1, h2, h3]
theorem parse_line (l : List UInt8) : parseM (13 :: 10 :: l) = if 65536 < l.length + 2 then (2, [], []) else (0, [], l) := by
  by_cases h : 65536 < l.length + 2
  · rw [if_pos h, parseM_long (by simpa using h)]
  · rw [if_neg h]
    have e := prsA_end (R := []) (cut2_here l)
    rw [parseM_good (by simpa using h) (by unfold parseC; rw [e])]
    unfold parseF parseB
    rw [e]
    rfl
end Go.Proofs.YtegbkfloiiilfaaGreatDoor.Msg
