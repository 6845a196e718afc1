/-
  Header fields in plain words, no program: lines, fields, what any bytes are read to; how fields are shown, and what is right; fields by name.
-/
import Derived.WalkKit
namespace Go.Proofs.YtobnckbpgckgjaaDoor.Head

abbrev bl (s : ByteArray) : List UInt8 := s.data.toList
abbrev ba (l : List UInt8) : ByteArray := ⟨l.toArray⟩
theorem bl_len (s : ByteArray) : (bl s).length = s.size := by simp
theorem ba_size (l : List UInt8) : (ba l).size = l.length := by simp [ByteArray.size]
theorem bl_ba (l : List UInt8) : bl (ba l) = l := by simp
theorem ba_bl (s : ByteArray) : ba (bl s) = s := by simp
theorem ba_inj {a b : List UInt8} (h : ba a = ba b) : a = b := by rw [← bl_ba a, h, bl_ba]
theorem bl_inj {a b : ByteArray} (h : bl a = bl b) : a = b := by rw [← ba_bl a, h, ba_bl]

/-- A field: what stands ahead of its colon, and its value. -/
structure Fd where
  n : ByteArray
  v : ByteArray

/-! Bytes. -/
def bkN (n : Nat) : Bool := n == 32 || n == 9
def txN (n : Nat) : Bool := !((decide (n < 32) && !(n == 9)) || n == 127)
def nmN (n : Nat) : Bool := !(decide (n < 33) || (decide (126 < n) || n == 58))
theorem all256 {p : Nat → Bool} (h : (List.range 256).all p = true) (n : Nat) (hn : n < 256) : p n = true := List.all_eq_true.1 h n (List.mem_range.2 hn)
def bk (c : UInt8) : Bool := bkN c.toNat
def tx (c : UInt8) : Bool := txN c.toNat
def nm (c : UInt8) : Bool := nmN c.toNat
theorem bk_tx {c : UInt8} (h : bk c = true) : tx c = true := by
  have := all256 (p := fun n => !bkN n || txN n) (by decide +kernel) c.toNat c.toNat_lt
  unfold bk at h
  unfold tx
  simpa [h] using this
theorem nm_tx {c : UInt8} (h : nm c = true) : tx c = true ∧ bk c = false ∧ c ≠ 58 := by
  have := all256 (p := fun n => !nmN n || (txN n && !bkN n && !(n == 58))) (by decide +kernel) c.toNat c.toNat_lt
  unfold nm at h
  simp only [h, Bool.not_true, Bool.false_or, Bool.and_eq_true, Bool.not_eq_true', beq_eq_false_iff_ne] at this
  exact ⟨this.1.1, this.1.2, fun e => this.2 (by rw [e]; rfl)⟩
theorem tx_ne {c : UInt8} (h : tx c = true) : c ≠ 13 ∧ c ≠ 10 := by
  refine ⟨?_, ?_⟩ <;> rintro rfl <;> revert h <;> decide
theorem tx_colon : tx 58 = true := by decide
theorem bk_space : bk 32 = true := by decide
theorem bk_colon : bk 58 = false := by decide

/-! Lines. -/
def crlf : List UInt8 → Bool
  | c :: d :: _ => c == 13 && d == 10
  | _ => false
/-- What stands ahead of the first line end, and behind it. -/
def cut2 : List UInt8 → Option (List UInt8 × List UInt8)
  | [] => none
  | c :: t => if crlf (c :: t) = true then some ([], t.drop 1) else (cut2 t).map fun p => (c :: p.1, p.2)
theorem cut2_cons {c : UInt8} {t : List UInt8} (h : crlf (c :: t) = false) : cut2 (c :: t) = (cut2 t).map fun p => (c :: p.1, p.2) := by
  rw [cut2, h]
  rfl
theorem cut2_here (t : List UInt8) : cut2 (13 :: 10 :: t) = some ([], t) := by
  rw [cut2]
  rfl
theorem crlf_ne {c : UInt8} {t : List UInt8} (h : c ≠ 13) : crlf (c :: t) = false := by
  unfold crlf
  split
  · rename_i h1
    obtain ⟨rfl, _⟩ := List.cons.inj h1
    simp [h]
  · rfl
theorem cut2_run : ∀ (a t : List UInt8), (∀ c ∈ a, c ≠ 13) → cut2 (a ++ 13 :: 10 :: t) = some (a, t)
  | [], t, _ => cut2_here t
  | c :: a, t, h => by
    rw [List.cons_append, cut2_cons (crlf_ne (h c (by simp))), cut2_run a t fun x hx => h x (by simp [hx])]
    rfl
theorem cut2_some : ∀ {s a r : List UInt8}, cut2 s = some (a, r) → s = a ++ 13 :: 10 :: r
  | [], a, r, h => by simp [cut2] at h
  | c :: t, a, r, h => by
    cases hc : crlf (c :: t)
    · rw [cut2_cons hc, Option.map_eq_some_iff] at h
      obtain ⟨⟨a', r'⟩, h1, h2⟩ := h
      have := cut2_some h1
      obtain ⟨rfl, rfl⟩ := Prod.mk.inj h2
      rw [this]; rfl
    · rw [cut2, if_pos hc] at h
      unfold crlf at hc
      split at hc
      · rename_i d u h1
        obtain ⟨rfl, rfl⟩ := List.cons.inj h1
        simp only [Bool.and_eq_true, beq_iff_eq] at hc
        obtain ⟨h2, h3⟩ := Prod.mk.inj (Option.some.inj h)
        rw [← h2, ← h3, hc.1, hc.2]
        rfl
      · cases hc
theorem cut2_len {s a r : List UInt8} (h : cut2 s = some (a, r)) : s.length = a.length + 2 + r.length := by
  rw [cut2_some h]; simp; omega

/-! Fields. -/
def textB (l : List UInt8) : Bool := l.all tx
def nameB (l : List UInt8) : Bool := !l.isEmpty && (decide (l.length ≤ 76) && l.all nm)
/-- Ahead of the first colon; behind it. -/
def pre (l : List UInt8) : List UInt8 := l.takeWhile (· != 58)
def post (l : List UInt8) : List UInt8 := (l.dropWhile (· != 58)).drop 1
def fieldB (l : List UInt8) : Bool := l.contains 58 && nameB (pre l)
def hdB (l : List UInt8) : Bool := match l with | [] => false | c :: _ => bk c
def trimR (l : List UInt8) : List UInt8 := (l.reverse.dropWhile bk).reverse
def trimL (l : List UInt8) : List UInt8 := (trimR l).dropWhile bk
def fld (r : List UInt8) : Fd := ⟨ba (pre r), ba (trimL (post r))⟩
/-- Why a line that is not empty is not taken, where so many fields precede it; nought: it is. -/
def chk (t : List UInt8) (k : Nat) : Nat :=
  if 998 < t.length then 2 else if textB t = false then 150 else if hdB t = true then (if k = 0 then 150 else 0)
  else if fieldB t = false then 150 else if k = 100 then 8 else 0
/-- A line taken: behind the last field's, or as a new field's first one. -/
def add (R : List (List UInt8)) (t : List UInt8) : List (List UInt8) :=
  if hdB t = true then R.dropLast ++ [R.getLastD [] ++ t] else R ++ [t]
/-- What is read: a code, the fields' lines side by side, the body. -/
def prs : Nat → List (List UInt8) → List UInt8 → Nat × List (List UInt8) × List UInt8
  | 0, R, _ => (0, R, [])
  | n + 1, R, s =>
    if s = [] then (0, R, []) else
    match cut2 s with
    | none => (9, [], [])
    | some (t, r) => if t = [] then (0, R, r) else if chk t R.length = 0 then prs n (add R t) r else (chk t R.length, [], [])
theorem prs_fuel : ∀ (n m : Nat) (R : List (List UInt8)) (s : List UInt8), s.length ≤ n → s.length ≤ m → prs n R s = prs m R s
  | 0, 0, _, _, _, _ => rfl
  | 0, m + 1, R, s, h, _ => by
    obtain rfl := List.length_eq_zero_iff.1 (Nat.le_zero.1 h)
    rfl
  | n + 1, 0, R, s, _, h => by
    obtain rfl := List.length_eq_zero_iff.1 (Nat.le_zero.1 h)
    rfl
  | n + 1, m + 1, R, s, h1, h2 => by
    rw [prs, prs]
    by_cases hs : s = []
    · rw [if_pos hs, if_pos hs]
    · rw [if_neg hs, if_neg hs]
      cases hc : cut2 s with
      | none => rfl
      | some p =>
        obtain ⟨t, r⟩ := p
        have hl := cut2_len hc
        simp only
        rw [prs_fuel n m (add R t) r (by omega) (by omega)]
def prsA (R : List (List UInt8)) (s : List UInt8) : Nat × List (List UInt8) × List UInt8 := prs s.length R s
theorem prsA_nil (R : List (List UInt8)) : prsA R [] = (0, R, []) := rfl
theorem prsA_short {R : List (List UInt8)} {s : List UInt8} (hs : s ≠ []) (h : cut2 s = none) : prsA R s = (9, [], []) := by
  unfold prsA
  cases s with
  | nil => exact absurd rfl hs
  | cons c t => rw [List.length_cons, prs, if_neg hs, h]
theorem prsA_end {R : List (List UInt8)} {s r : List UInt8} (h : cut2 s = some ([], r)) : prsA R s = (0, R, r) := by
  unfold prsA
  cases s with
  | nil => simp [cut2] at h
  | cons c t => rw [List.length_cons, prs, if_neg (by simp), h]; simp
theorem prsA_bad {R : List (List UInt8)} {s t r : List UInt8} (h : cut2 s = some (t, r)) (ht : t ≠ []) (hc : chk t R.length ≠ 0) : prsA R s = (chk t R.length, [], []) := by
  unfold prsA
  cases s with
  | nil => simp [cut2] at h
  | cons c u => rw [List.length_cons, prs, if_neg (by simp), h]; simp [ht, hc]
theorem prsA_next {R : List (List UInt8)} {s t r : List UInt8} (h : cut2 s = some (t, r)) (ht : t ≠ []) (hc : chk t R.length = 0) : prsA R s = prsA (add R t) r := by
  unfold prsA
  cases s with
  | nil => simp [cut2] at h
  | cons c u =>
    have hl := cut2_len h
    rw [List.length_cons, prs, if_neg (by simp), h]
    simp only [ht, if_false, hc, if_true]
    exact prs_fuel _ _ _ _ (by simp at hl; omega) (Nat.le_refl _)
def parseC (s : List UInt8) : Nat := (prsA [] s).1
def parseF (s : List UInt8) : List Fd := (prsA [] s).2.1.map fld
def parseB (s : List UInt8) : List UInt8 := (prsA [] s).2.2

/-! What holds of the lines on the way. -/
theorem add_len (R : List (List UInt8)) (t : List UInt8) (hR : hdB t = true → R ≠ []) : (add R t).length = if hdB t = true then R.length else R.length + 1 := by
  unfold add
  split
  · rename_i h
    have := hR h
    have : 0 < R.length := List.length_pos_iff.2 this
    simp; omega
  · simp
theorem chk_zero {t : List UInt8} {k : Nat} (h : chk t k = 0) : t.length ≤ 998 ∧ textB t = true ∧ (hdB t = true → k ≠ 0) ∧ (hdB t = false → fieldB t = true ∧ k ≠ 100) := by
  unfold chk at h
  split at h
  · cases h
  split at h
  · cases h
  rename_i h1 h2
  refine ⟨by omega, by simpa using h2, ?_, ?_⟩
  · intro hb
    rw [if_pos hb] at h
    split at h
    · cases h
    · assumption
  · intro hb
    rw [hb, if_neg (by decide)] at h
    split at h
    · cases h
    split at h
    · cases h
    rename_i h3 h4
    exact ⟨by simpa using h3, h4⟩

/-! How a field is shown. -/
/-- The pieces of what stands behind a colon: the one at hand, whether the byte before is a blank. -/
def pcs : List UInt8 → Bool → List UInt8 → List (List UInt8)
  | w, _, [] => [w]
  | w, b, c :: t => if bk c = true ∧ b = false then w :: pcs [c] true t else pcs (w ++ [c]) (bk c) t
def piecesL (v : List UInt8) : List (List UInt8) := if v = [] then [] else pcs [32] true v
/-- The pieces' print: is the piece at hand the first, how long is the line. -/
def shw : Bool → Nat → List (List UInt8) → List UInt8
  | _, _, [] => [13, 10]
  | b, k, p :: ps => if b = false ∧ 78 < k + p.length then 13 :: 10 :: (p ++ shw false p.length ps) else p ++ shw false (k + p.length) ps
def showL (n v : List UInt8) : List UInt8 := n ++ 58 :: shw true (n.length + 1) (piecesL v)
def printL (l : List Fd) : List UInt8 := (l.map fun f => showL (bl f.n) (bl f.v)).flatten
/-- Cut at the line ends. -/
def splF : Nat → List UInt8 → List (List UInt8)
  | 0, s => [s]
  | n + 1, s => match cut2 s with | none => [s] | some (t, r) => t :: splF n r
theorem splF_fuel : ∀ (n m : Nat) (s : List UInt8), s.length ≤ n → s.length ≤ m → splF n s = splF m s
  | 0, 0, _, _, _ => rfl
  | 0, m + 1, s, h, _ => by
    obtain rfl := List.length_eq_zero_iff.1 (Nat.le_zero.1 h)
    rfl
  | n + 1, 0, s, _, h => by
    obtain rfl := List.length_eq_zero_iff.1 (Nat.le_zero.1 h)
    rfl
  | n + 1, m + 1, s, h1, h2 => by
    rw [splF, splF]
    cases hc : cut2 s with
    | none => rfl
    | some p =>
      obtain ⟨t, r⟩ := p
      have hl := cut2_len hc
      simp only
      rw [splF_fuel n m r (by omega) (by omega)]
def spl (s : List UInt8) : List (List UInt8) := splF s.length s
theorem spl_none {s : List UInt8} (h : cut2 s = none) : spl s = [s] := by
  unfold spl
  cases s with
  | nil => rfl
  | cons c t => rw [List.length_cons, splF, h]
theorem spl_some {s t r : List UInt8} (h : cut2 s = some (t, r)) : spl s = t :: spl r := by
  unfold spl
  cases s with
  | nil => simp [cut2] at h
  | cons c u =>
    have hl := cut2_len h
    rw [List.length_cons, splF, h]
    simp only
    rw [splF_fuel u.length r.length r (by simp at hl; omega) (Nat.le_refl _)]
def longB (s : List UInt8) : Bool := (spl s).any fun t => decide (998 < t.length)
def rightB (n v : List UInt8) : Bool := nameB n && (textB v && (decide (trimL v = v) && !longB (showL n v)))

/-! Written and read. -/
theorem text_ne {l : List UInt8} (h : textB l = true) : ∀ c ∈ l, c ≠ 13 := fun c hc => (tx_ne (List.all_eq_true.1 h c hc)).1
theorem text_app {a b : List UInt8} : textB (a ++ b) = (textB a && textB b) := by unfold textB; rw [List.all_append]
theorem name_facts {n : List UInt8} (h : nameB n = true) : n ≠ [] ∧ textB n = true ∧ hdB n = false ∧ (∀ c ∈ n, c ≠ 58) ∧ n.length ≤ 76 := by
  unfold nameB at h
  simp only [Bool.and_eq_true, Bool.not_eq_true', decide_eq_true_eq, List.all_eq_true] at h
  obtain ⟨h1, h2, h3⟩ := h
  refine ⟨(by intro e; rw [e] at h1; cases h1), ?_, ?_, fun c hc => (nm_tx (h3 c hc)).2.2, h2⟩
  · exact List.all_eq_true.2 fun c hc => (nm_tx (h3 c hc)).1
  · cases n with
    | nil => rfl
    | cons c t => exact (nm_tx (h3 c (by simp))).2.1
theorem pre_run : ∀ (a t : List UInt8), (∀ c ∈ a, c ≠ 58) → pre (a ++ 58 :: t) = a ∧ post (a ++ 58 :: t) = t
  | [], t, _ => ⟨rfl, rfl⟩
  | c :: a, t, h => by
    have hc : (c != 58) = true := by rw [bne_iff_ne]; exact h c (by simp)
    have ih := pre_run a t fun x hx => h x (by simp [hx])
    unfold pre post at *
    rw [List.cons_append, List.takeWhile_cons, List.dropWhile_cons, hc]
    exact ⟨by rw [if_pos rfl, ih.1], by rw [if_pos rfl, ih.2]⟩
theorem field_run {n : List UInt8} (h : nameB n = true) (t : List UInt8) : fieldB (n ++ 58 :: t) = true := by
  unfold fieldB
  rw [(pre_run n t (name_facts h).2.2.2.1).1, h]
  simp
theorem hd_app {a b : List UInt8} (h : a ≠ []) : hdB (a ++ b) = hdB a := by
  cases a with
  | nil => exact absurd rfl h
  | cons c t => rfl
theorem pcs_flat : ∀ (t w : List UInt8) (b : Bool), (pcs w b t).flatten = w ++ t
  | [], w, b => by simp [pcs]
  | c :: t, w, b => by
    rw [pcs]
    split
    · rw [List.flatten_cons, pcs_flat t [c] true]; rfl
    · rw [pcs_flat t _ _]; simp
/-- Pieces: none empty, each begins with a blank, all text. -/
def Pcs (ps : List (List UInt8)) : Prop := ∀ p ∈ ps, p ≠ [] ∧ hdB p = true ∧ textB p = true
theorem pcs_good : ∀ (t w : List UInt8) (b : Bool), w ≠ [] → hdB w = true → textB w = true → textB t = true → Pcs (pcs w b t)
  | [], w, b, h1, h2, h3, _ => by
    intro p hp
    rw [pcs, List.mem_singleton] at hp
    rw [hp]
    exact ⟨h1, h2, h3⟩
  | c :: t, w, b, h1, h2, h3, h4 => by
    have h5 : tx c = true ∧ textB t = true := by
      unfold textB at h4
      rw [List.all_cons, Bool.and_eq_true] at h4
      exact h4
    rw [pcs]
    split
    · rename_i hc
      intro p hp
      rcases List.mem_cons.1 hp with rfl | hp
      · exact ⟨h1, h2, h3⟩
      · exact pcs_good t [c] true (by simp) hc.1 (by unfold textB; simp [h5.1]) h5.2 p hp
    · refine pcs_good t (w ++ [c]) (bk c) (by simp) (by rw [hd_app h1]; exact h2) ?_ h5.2
      rw [text_app, h3]
      unfold textB
      simp [h5.1]
theorem pieces_good {v : List UInt8} (h : textB v = true) : Pcs (piecesL v) := by
  unfold piecesL
  split
  · intro p hp; cases hp
  · exact pcs_good v [32] true (by simp) rfl (by decide) h
theorem pieces_flat (v : List UInt8) : (piecesL v).flatten = if v = [] then [] else 32 :: v := by
  unfold piecesL
  split
  · rfl
  · rw [pcs_flat]; rfl
theorem add_add {R : List (List UInt8)} {t u : List UInt8} (ht : t ≠ []) (hu : hdB u = true) : add (add R t) u = add R (t ++ u) := by
  unfold add
  rw [if_pos hu, hd_app ht]
  split
  · simp
  · simp
/-- The line at hand, and the pieces behind it, read. -/
theorem read_pieces : ∀ (ps : List (List UInt8)) (b : Bool) (k : Nat) (cur : List UInt8) (R : List (List UInt8)) (rest : List UInt8), Pcs ps → cur ≠ [] → textB cur = true → (hdB cur = true → R ≠ []) → (hdB cur = false → (∀ x, fieldB (cur ++ x) = true) ∧ R.length < 100) → longB (cur ++ shw b k ps) = false → prsA R (cur ++ (shw b k ps ++ rest)) = prsA (add R (cur ++ ps.flatten)) rest
  | [], b, k, cur, R, rest, _, h1, h2, h3, h4, h5 => by
    have hc := cut2_run cur rest (text_ne h2)
    have hl : cur.length ≤ 998 := by
      have : cut2 (cur ++ shw b k []) = some (cur, []) := cut2_run cur [] (text_ne h2)
      unfold longB at h5
      rw [spl_some this, List.any_cons, Bool.or_eq_false_iff] at h5
      simpa using h5.1
    have e : cur ++ (shw b k [] ++ rest) = cur ++ 13 :: 10 :: rest := by simp [shw]
    rw [e, prsA_next hc h1, List.flatten_nil, List.append_nil]
    unfold chk
    rw [if_neg (by omega), h2, if_neg (by decide)]
    cases hh : hdB cur
    · rw [if_neg (by decide)]
      have := h4 hh
      have h6 := this.1 []
      rw [List.append_nil] at h6
      rw [h6, if_neg (by decide), if_neg (by omega)]
    · rw [if_pos rfl, if_neg]
      have := List.length_pos_iff.2 (h3 hh)
      omega
  | p :: ps, b, k, cur, R, rest, hp, h1, h2, h3, h4, h5 => by
    have hp1 := hp p (by simp)
    have hps : Pcs ps := fun q hq => hp q (by simp [hq])
    rw [shw] at h5 ⊢
    split
    · rename_i hf
      rw [if_pos hf] at h5
      have hc := cut2_run cur (p ++ shw false p.length ps) (text_ne h2)
      have hc2 := cut2_run cur (p ++ (shw false p.length ps ++ rest)) (text_ne h2)
      have hl : cur.length ≤ 998 ∧ longB (p ++ shw false p.length ps) = false := by
        unfold longB at h5
        rw [spl_some hc, List.any_cons, Bool.or_eq_false_iff] at h5
        exact ⟨by simpa using h5.1, h5.2⟩
      have e : cur ++ ((13 :: 10 :: (p ++ shw false p.length ps)) ++ rest) = cur ++ 13 :: 10 :: (p ++ (shw false p.length ps ++ rest)) := by simp
      have hz : chk cur R.length = 0 := by
        unfold chk
        rw [if_neg (by omega), h2, if_neg (by decide)]
        cases hh : hdB cur
        · rw [if_neg (by decide)]
          have := h4 hh
          have h6 := this.1 []
          rw [List.append_nil] at h6
          rw [h6, if_neg (by decide), if_neg (by omega)]
        · rw [if_pos rfl, if_neg]
          have := List.length_pos_iff.2 (h3 hh)
          omega
      have hne : add R cur ≠ [] := by
        unfold add
        split <;> simp
      rw [e, prsA_next hc2 h1 hz, read_pieces ps false p.length p (add R cur) rest hps hp1.1 hp1.2.2 (fun _ => hne) (fun hh => by rw [hp1.2.1] at hh; cases hh) hl.2]
      rw [add_add h1 (by rw [hd_app hp1.1]; exact hp1.2.1)]
      simp
    · rename_i hf
      rw [if_neg hf] at h5
      have e : cur ++ ((p ++ shw false (k + p.length) ps) ++ rest) = (cur ++ p) ++ (shw false (k + p.length) ps ++ rest) := by simp
      rw [e, read_pieces ps false (k + p.length) (cur ++ p) R rest hps (by simp [h1]) (by rw [text_app, h2, hp1.2.2]; rfl) (by rw [hd_app h1]; exact h3) (by rw [hd_app h1]; exact fun hh => ⟨fun x => by rw [List.append_assoc]; exact (h4 hh).1 _, (h4 hh).2⟩) (by rw [List.append_assoc]; exact h5)]
      simp
theorem trim_space {v : List UInt8} (h : trimL v = v) : trimL (if v = [] then [] else 32 :: v) = v := by
  split
  · rename_i e; rw [e]; rfl
  · rename_i hv
    unfold trimL at *
    have h1 : trimR v = v := by
      have hlen : (trimR v).length ≤ v.length := by
        unfold trimR
        rw [List.length_reverse]
        have := (List.dropWhile_sublist bk (l := v.reverse)).length_le
        rwa [List.length_reverse] at this
      have h2 : ((trimR v).dropWhile bk).length ≤ (trimR v).length := (List.dropWhile_sublist bk).length_le
      rw [h] at h2
      -- a part of v behind its end that is as long as v is v
      have h3 : trimR v <+: v := by
        unfold trimR
        have hs : v.reverse.dropWhile bk <:+ v.reverse := List.dropWhile_suffix bk
        have := List.reverse_prefix.2 hs
        rwa [List.reverse_reverse] at this
      exact h3.eq_of_length (by omega)
    have h4 : v.dropWhile bk = v := by rw [h1] at h; exact h
    have h5 : trimR (32 :: v) = 32 :: v := by
      unfold trimR at h1 ⊢
      rw [List.reverse_cons]
      have hd : v.reverse.dropWhile bk = v.reverse := by
        have := congrArg List.reverse h1
        rwa [List.reverse_reverse] at this
      obtain ⟨c, u, hcu⟩ : ∃ c u, v.reverse = c :: u := by
        cases hr : v.reverse with
        | nil => exact absurd (List.reverse_eq_nil_iff.1 hr) hv
        | cons c u => exact ⟨c, u, rfl⟩
      have hbc : bk c = false := by
        rw [hcu, List.dropWhile_cons] at hd
        cases hb : bk c
        · rfl
        · rw [hb, if_pos rfl] at hd
          have := congrArg List.length hd
          have h6 := (List.dropWhile_sublist bk (l := u)).length_le
          rw [List.length_cons] at this
          omega
      rw [hcu, List.cons_append, List.dropWhile_cons, hbc, if_neg (by decide), ← List.cons_append, ← hcu]
      simp
    rw [h5, List.dropWhile_cons, if_pos bk_space, h4]
/-- A right field's print, read behind other fields. -/
theorem read_field {n v : List UInt8} (h : rightB n v = true) (R : List (List UInt8)) (rest : List UInt8) (hR : R.length < 100) : ∃ r, prsA R (showL n v ++ rest) = prsA (R ++ [r]) rest ∧ fld r = ⟨ba n, ba v⟩ := by
  unfold rightB at h
  simp only [Bool.and_eq_true, decide_eq_true_eq, Bool.not_eq_true'] at h
  obtain ⟨h1, h2, h3, h4⟩ := h
  obtain ⟨n1, n2, n3, n4, n5⟩ := name_facts h1
  have e : showL n v ++ rest = (n ++ [58]) ++ (shw true (n.length + 1) (piecesL v) ++ rest) := by unfold showL; simp
  have e2 : showL n v = (n ++ [58]) ++ shw true (n.length + 1) (piecesL v) := by unfold showL; simp
  have hh : hdB (n ++ [58]) = false := by rw [hd_app n1]; exact n3
  have hr := read_pieces (piecesL v) true (n.length + 1) (n ++ [58]) R rest (pieces_good h2) (by simp) (by rw [text_app, n2]; decide) (fun hb => by rw [hh] at hb; cases hb) (fun _ => ⟨fun x => by rw [List.append_assoc]; exact field_run h1 x, hR⟩) (by rw [← e2]; exact h4)
  rw [e, hr, pieces_flat]
  refine ⟨(n ++ [58]) ++ (if v = [] then [] else 32 :: v), ?_, ?_⟩
  · unfold add
    rw [hd_app (by simp), hh, if_neg (by decide)]
  · unfold fld
    rw [List.append_assoc, List.singleton_append, (pre_run n _ n4).1, (pre_run n _ n4).2, trim_space h3]
theorem read_fields : ∀ (q : List Fd) (R : List (List UInt8)) (rest : List UInt8), (∀ f ∈ q, rightB (bl f.n) (bl f.v) = true) → R.length + q.length ≤ 100 → ∃ S, prsA R (printL q ++ rest) = prsA (R ++ S) rest ∧ S.map fld = q
  | [], R, rest, _, _ => ⟨[], by simp [printL], rfl⟩
  | f :: q, R, rest, h, hR => by
    obtain ⟨r, h1, h2⟩ := read_field (h f (by simp)) R (printL q ++ rest) (by simp at hR; omega)
    obtain ⟨S, h3, h4⟩ := read_fields q (R ++ [r]) rest (fun g hg => h g (by simp [hg])) (by simp at hR ⊢; omega)
    refine ⟨r :: S, ?_, ?_⟩
    · have e : printL (f :: q) ++ rest = showL (bl f.n) (bl f.v) ++ (printL q ++ rest) := by unfold printL; simp
      rw [e, h1, h3]
      simp
    · rw [List.map_cons, h2, h4, ba_bl, ba_bl]
theorem parse_print {q : List Fd} (h : ∀ f ∈ q, rightB (bl f.n) (bl f.v) = true) (hq : q.length ≤ 100) :
    (∀ body, parseC (printL q ++ 13 :: 10 :: body) = 0 ∧ parseF (printL q ++ 13 :: 10 :: body) = q ∧ parseB (printL q ++ 13 :: 10 :: body) = body) ∧ parseC (printL q) = 0 ∧ parseF (printL q) = q ∧ parseB (printL q) = [] := by
  refine ⟨fun body => ?_, ?_⟩
  · obtain ⟨S, h1, h2⟩ := read_fields q [] (13 :: 10 :: body) h (by simpa using hq)
    unfold parseC parseF parseB
    rw [h1, prsA_end (cut2_here body)]
    exact ⟨rfl, by simpa using h2, rfl⟩
  · obtain ⟨S, h1, h2⟩ := read_fields q [] [] h (by simpa using hq)
    rw [List.append_nil] at h1
    unfold parseC parseF parseB
    rw [h1, prsA_nil]
    exact ⟨rfl, by simpa using h2, rfl⟩
end Go.Proofs.YtobnckbpgckgjaaDoor.Head
