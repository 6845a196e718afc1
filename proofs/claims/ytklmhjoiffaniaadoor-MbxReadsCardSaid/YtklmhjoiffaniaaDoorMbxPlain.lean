/-
  Lists of addresses with names in plain words, no program: tokens cut at the signs , ; : < >, boxes read of the pieces, how boxes are written; and what follows of these.
-/
import Derived.Test.YtklmhjoiffaniaaDoorAddrPlain
namespace Go.Proofs.YtklmhjoiffaniaaDoor.Mbx
open Go.Proofs.YtklmhjoiffaniaaDoor.Lex
open Go.Proofs.YtklmhjoiffaniaaDoor.Addr (Ad noAd ofL textL tkL tkD parseL parse_text scan_text of_cases right_parts tkD_noat dottedB labelB label_atom sc_local sc_dotted pl pl_tx am64 sp64)

/-- A box: its name, what stands before the @, and behind it. -/
structure Bx where
  n : ByteArray
  l : ByteArray
  d : ByteArray
/-- Tokens without a sign, and the sign behind them; no sign: the end. -/
structure Pc where
  l : List Tk
  s : ByteArray
abbrev adOf (b : Bx) : Ad := ⟨bl b.l, bl b.d⟩
abbrev Right (a : Ad) : Prop := Go.Proofs.YtklmhjoiffaniaaDoor.Addr.Right a

/-! Tokens cut at the signs. -/
def endT (t : Tk) : Bool := decide (t.kind = 3) && (!(bl t.text == [64]) && !(bl t.text == [46]))
def cutL : List Tk → List Pc
  | [] => [⟨[], ⟨#[]⟩⟩]
  | t :: T => if endT t = true then ⟨[], t.text⟩ :: cutL T else match cutL T with
    | p :: r => ⟨t :: p.l, p.s⟩ :: r
    | [] => []
theorem cut_ne : ∀ T : List Tk, cutL T ≠ []
  | [] => by simp [cutL]
  | t :: T => by
    rw [cutL]
    split
    · simp
    · have := cut_ne T
      split
      · simp
      · rename_i h; exact absurd h this
theorem cut_run : ∀ (L T : List Tk) (p : Pc) (r : List Pc), (∀ t ∈ L, endT t = false) → cutL T = p :: r → cutL (L ++ T) = ⟨L ++ p.l, p.s⟩ :: r
  | [], T, p, r, _, h => by simpa using h
  | t :: L, T, p, r, hL, h => by
    rw [List.cons_append, cutL, hL t (by simp), if_neg (by decide), cut_run L T p r (fun x hx => hL x (by simp [hx])) h]
    rfl
theorem cut_all (L : List Tk) (h : ∀ t ∈ L, endT t = false) : cutL L = [⟨L, ⟨#[]⟩⟩] := by
  have := cut_run L [] ⟨[], ⟨#[]⟩⟩ [] h rfl
  simpa using this
theorem cut_hit (e : Tk) (T : List Tk) (he : endT e = true) : cutL (e :: T) = ⟨[], e.text⟩ :: cutL T := by rw [cutL, if_pos he]
theorem cut_sign (L : List Tk) (e : Tk) (T : List Tk) (h : ∀ t ∈ L, endT t = false) (he : endT e = true) : cutL (L ++ e :: T) = ⟨L, e.text⟩ :: cutL T := by
  have := cut_run L (e :: T) ⟨[], e.text⟩ (cutL T) h (cut_hit e T he)
  simpa using this
theorem cut_ways : ∀ T : List Tk, ∃ L, (∀ t ∈ L, endT t = false) ∧ ((T = L ∧ cutL T = [⟨L, ⟨#[]⟩⟩]) ∨ ∃ e T', T = L ++ e :: T' ∧ endT e = true ∧ cutL T = ⟨L, e.text⟩ :: cutL T')
  | [] => ⟨[], by simp, .inl ⟨rfl, rfl⟩⟩
  | t :: T => by
    by_cases ht : endT t = true
    · exact ⟨[], by simp, .inr ⟨t, T, rfl, ht, cut_hit t T ht⟩⟩
    · have ht' : endT t = false := by simpa using ht
      obtain ⟨L, hL, h⟩ := cut_ways T
      have hL' : ∀ x ∈ t :: L, endT x = false := by
        intro x hx
        rcases List.mem_cons.1 hx with rfl | hx
        · exact ht'
        · exact hL x hx
      refine ⟨t :: L, hL', ?_⟩
      rcases h with ⟨rfl, _⟩ | ⟨e, T', rfl, he, _⟩
      · exact .inl ⟨rfl, cut_all _ hL'⟩
      · exact .inr ⟨e, T', rfl, he, cut_sign _ e T' hL' he⟩

/-! What the program asks of tokens: how many words come first; does a sign come next; how many tokens to the next sign. -/
def wordsN (T : List Tk) : Nat := T.findIdx fun t => decide (t.kind = 3)
def segN (T : List Tk) : Nat := T.findIdx endT
def begB (c : UInt8) : List Tk → Bool
  | t :: _ => decide (t.kind = 3) && (bl t.text == [c])
  | [] => false
def sgB (s : ByteArray) (c : UInt8) : Bool := bl s == [c]
def plain (L : List Tk) : Bool := L.all fun t => !decide (t.kind = 3)
def angle (p : Pc) : Bool := sgB p.s 60 && plain p.l
def colon (p : Pc) : Bool := sgB p.s 58 && (plain p.l && !p.l.isEmpty)
theorem begB_end {c : UInt8} {t : Tk} {T : List Tk} (hc : c ≠ 64 ∧ c ≠ 46) (h : begB c (t :: T) = true) : endT t = true ∧ bl t.text = [c] := by
  simp only [begB, Bool.and_eq_true, decide_eq_true_eq, beq_iff_eq] at h
  unfold endT
  rw [h.2]
  simp [h.1, hc.1, hc.2]
theorem end_kind {t : Tk} (h : endT t = true) : t.kind = 3 := by
  unfold endT at h
  simp only [Bool.and_eq_true, decide_eq_true_eq] at h
  exact h.1
theorem begB_of {c : UInt8} {t : Tk} {T : List Tk} (h : endT t = true) : begB c (t :: T) = sgB t.text c := by
  simp [begB, end_kind h, sgB]
theorem begB_not {c : UInt8} {t : Tk} {T : List Tk} (hc : c ≠ 64 ∧ c ≠ 46) (h : endT t = false) : begB c (t :: T) = false := by
  rw [← Bool.not_eq_true]
  intro hb
  rw [(begB_end hc hb).1] at h
  cases h
theorem sg_nil (c : UInt8) : sgB ⟨#[]⟩ c = false := rfl
theorem seg_cut {T : List Tk} {p : Pc} {r : List Pc} (h : cutL T = p :: r) : segN T = p.l.length ∧ T.take (segN T) = p.l ∧ cutL (T.drop (segN T)) = ⟨[], p.s⟩ :: r ∧ segN T ≤ T.length := by
  obtain ⟨L, hL, hw⟩ := cut_ways T
  have hf : L.findIdx endT = L.length := List.findIdx_eq_length.2 hL
  rcases hw with ⟨rfl, hc⟩ | ⟨e, T', rfl, he, hc⟩
  · rw [h] at hc
    obtain ⟨rfl, rfl⟩ := List.cons.inj hc
    unfold segN
    rw [hf]
    simp [cutL]
  · rw [h] at hc
    obtain ⟨rfl, rfl⟩ := List.cons.inj hc
    have : segN (L ++ e :: T') = L.length := by
      unfold segN
      rw [List.findIdx_append, hf, if_neg (by omega), List.findIdx_cons, he]
      simp
    rw [this]
    refine ⟨rfl, by simp, ?_, by simp⟩
    rw [List.drop_append_of_le_length (by omega), List.drop_length, List.nil_append]
    exact cut_hit e T' he
theorem findIdx_plain {L : List Tk} (h : plain L = true) : wordsN L = L.length := by
  unfold wordsN
  rw [List.findIdx_eq_length]
  intro t ht
  unfold plain at h
  have := List.all_eq_true.1 h t ht
  simpa using this
theorem words_lt {L : List Tk} (h : plain L = false) : wordsN L < L.length := by
  unfold wordsN
  rw [List.findIdx_lt_length]
  unfold plain at h
  rw [List.all_eq_false] at h
  obtain ⟨t, ht, hp⟩ := h
  exact ⟨t, ht, by simpa using hp⟩
theorem words_at {L : List Tk} (h : plain L = false) (T : List Tk) : ∃ t, (L ++ T).drop (wordsN (L ++ T)) = t :: ((L ++ T).drop (wordsN (L ++ T) + 1)) ∧ t ∈ L := by
  have hl := words_lt h
  have he : wordsN (L ++ T) = wordsN L := by
    unfold wordsN at *
    rw [List.findIdx_append, if_pos hl]
  rw [he]
  have hl2 : wordsN L < (L ++ T).length := by rw [List.length_append]; omega
  refine ⟨(L ++ T)[wordsN L], List.drop_eq_getElem_cons hl2, ?_⟩
  rw [List.getElem_append_left hl]
  exact List.getElem_mem hl
theorem words_all {L : List Tk} (h : plain L = true) (e : Tk) (T : List Tk) (he : e.kind = 3) : wordsN (L ++ e :: T) = L.length := by
  have := findIdx_plain h
  unfold wordsN at *
  rw [List.findIdx_append, this, if_neg (by omega), List.findIdx_cons]
  simp [he]
/-- The sign behind the words, if it is one of these. -/
theorem words_cut {T : List Tk} {p : Pc} {r : List Pc} (c : UInt8) (hc : c ≠ 64 ∧ c ≠ 46) (h : cutL T = p :: r) : begB c (T.drop (wordsN T)) = (sgB p.s c && plain p.l) := by
  obtain ⟨L, hL, hw⟩ := cut_ways T
  cases hp : plain L
  · have : begB c (T.drop (wordsN T)) = false := by
      rcases hw with ⟨rfl, _⟩ | ⟨e, T', rfl, _, _⟩
      · obtain ⟨t, h1, h2⟩ := words_at hp []
        rw [List.append_nil] at h1
        rw [h1]
        exact begB_not hc (hL t h2)
      · obtain ⟨t, h1, h2⟩ := words_at hp (e :: T')
        rw [h1]
        exact begB_not hc (hL t h2)
    rw [this]
    rcases hw with ⟨_, hc⟩ | ⟨e, T', _, _, hc⟩
    all_goals
      rw [h] at hc
      obtain ⟨rfl, _⟩ := List.cons.inj hc
      simp [hp]
  · rcases hw with ⟨rfl, hc⟩ | ⟨e, T', rfl, he, hc⟩
    · rw [h] at hc
      obtain ⟨rfl, _⟩ := List.cons.inj hc
      rw [findIdx_plain hp, List.drop_length]
      rfl
    · rw [h] at hc
      obtain ⟨rfl, _⟩ := List.cons.inj hc
      rw [words_all hp e T' (end_kind he), List.drop_append_of_le_length (by omega), List.drop_length, List.nil_append, begB_of he, hp, Bool.and_true]
theorem words_take {T : List Tk} {p : Pc} {r : List Pc} (h : cutL T = p :: r) (hp : plain p.l = true) (hs : bl p.s ≠ []) : wordsN T = p.l.length ∧ T.take (wordsN T) = p.l ∧ cutL (T.drop (wordsN T + 1)) = r ∧ wordsN T + 1 ≤ T.length := by
  obtain ⟨L, hL, hw⟩ := cut_ways T
  rcases hw with ⟨rfl, hc⟩ | ⟨e, T', rfl, he, hc⟩
  · rw [h] at hc
    obtain ⟨rfl, _⟩ := List.cons.inj hc
    exact absurd rfl hs
  · rw [h] at hc
    obtain ⟨rfl, rfl⟩ := List.cons.inj hc
    rw [words_all hp e T' (end_kind he)]
    refine ⟨rfl, by simp, ?_, by simp⟩
    rw [List.drop_append, List.drop_eq_nil_of_le (by simp)]
    simp
theorem sg_ne {s : ByteArray} {c : UInt8} (h : sgB s c = true) : bl s ≠ [] := by
  unfold sgB at h
  rw [beq_iff_eq] at h
  rw [h]
  simp
theorem words_le (T : List Tk) : wordsN T ≤ T.length := List.findIdx_le_length
theorem words_zero {T : List Tk} {p : Pc} {r : List Pc} (h : cutL T = p :: r) (hp : plain p.l = true) (hs : bl p.s ≠ []) : (wordsN T = 0) ↔ p.l = [] := by
  rw [(words_take h hp hs).1, List.length_eq_zero_iff]

/-! Boxes read of the pieces. -/
def joinS (sep : List UInt8) : List (List UInt8) → List UInt8
  | [] => []
  | [p] => p
  | p :: q :: r => p ++ (sep ++ joinS sep (q :: r))
def nameL (L : List Tk) : List UInt8 := joinS [32] (L.map fun t => bl t.text)
def bxOf (n : List UInt8) (a : Ad) : Bx := ⟨ba n, ba a.l, ba a.d⟩
def adrP (n : List UInt8) (L : List Tk) (B : List Bx) : Nat × List Bx :=
  if (ofL L).2 = 0 then (if B.length = 100 then (8, []) else (0, B ++ [bxOf n (ofL L).1])) else ((ofL L).2, [])
def takeP (c : UInt8) : List Pc → Option (List Pc)
  | u :: r => if u.l.isEmpty && sgB u.s c then some r else none
  | [] => none
abbrev Rs := Nat × List Pc × List Bx
def no (c : Nat) : Rs := (c, [], [])
def angP (n : List UInt8) : List Pc → List Bx → Rs
  | [], _ => no 130
  | q :: r1, B => if (adrP n q.l B).1 = 0 then (if sgB q.s 62 = true then (0, r1, (adrP n q.l B).2) else no 130) else no (adrP n q.l B).1
def mbxP : List Pc → List Bx → Rs
  | [], _ => no 130
  | p :: r, B =>
    if angle p = true then angP (nameL p.l) r B
    else if (adrP [] p.l B).1 = 0 then (0, ⟨[], p.s⟩ :: r, (adrP [] p.l B).2) else no (adrP [] p.l B).1
def grp : Nat → List Pc → List Bx → Rs
  | 0, _, _ => no 130
  | n + 1, ps, B =>
    if (mbxP ps B).1 = 0 then
      match takeP 59 (mbxP ps B).2.1 with
      | some r => (0, r, (mbxP ps B).2.2)
      | none => match takeP 44 (mbxP ps B).2.1 with
        | some r => grp n r (mbxP ps B).2.2
        | none => no 130
    else no (mbxP ps B).1
def grp0 (n : Nat) (ps : List Pc) (B : List Bx) : Rs := match takeP 59 ps with
  | some r => (0, r, B)
  | none => grp n ps B
def prt (n : Nat) : List Pc → List Bx → Rs
  | p :: r, B => if colon p = true then grp0 n r B else mbxP (p :: r) B
  | [], _ => no 130
def doneP : List Pc → Bool
  | [u] => u.l.isEmpty && (bl u.s).isEmpty
  | _ => false
def contK (k : List Pc → List Bx → Nat × List Bx) (R : Rs) : Nat × List Bx :=
  if R.1 = 0 then (if doneP R.2.1 = true then (0, R.2.2) else match takeP 44 R.2.1 with
    | some r => k r R.2.2
    | none => (130, []))
  else (R.1, [])
def lst : Nat → List Pc → List Bx → Nat × List Bx
  | 0, _, _ => (130, [])
  | n + 1, ps, B => contK (lst n) (prt n ps B)
def listL (T : List Tk) : Nat × List Bx := lst (cutL T).length (cutL T) []
def readL (s : List UInt8) : Nat × List Bx := if (scan s).1 = 0 then listL (scan s).2 else ((scan s).1, [])
def noBx : Bx := ⟨⟨#[]⟩, ⟨#[]⟩, ⟨#[]⟩⟩
def oneL (s : List UInt8) : Bx × Nat := if (readL s).1 = 0 then (match (readL s).2 with | [b] => (b, 0) | _ => (noBx, 130)) else (noBx, (readL s).1)

/-! Tokens and pieces: what comes next. -/
theorem take_cut (c : UInt8) (hc : c ≠ 64 ∧ c ≠ 46) (T : List Tk) : takeP c (cutL T) = if begB c T = true then some (cutL (T.drop 1)) else none := by
  cases T with
  | nil => rfl
  | cons t T =>
    cases ht : endT t
    · rw [begB_not hc ht, if_neg (by decide)]
      cases hq : cutL T with
      | nil => exact absurd hq (cut_ne T)
      | cons p r => simp [cutL, ht, hq, takeP]
    · rw [cut_hit t T ht, begB_of ht]
      simp [takeP]
theorem done_cut (T : List Tk) : doneP (cutL T) = T.isEmpty := by
  cases T with
  | nil => rfl
  | cons t T =>
    cases ht : endT t
    · cases hq : cutL T with
      | nil => exact absurd hq (cut_ne T)
      | cons p r => simp [cutL, ht, hq, doneP]; cases r <;> simp
    · rw [cut_hit t T ht]
      cases hq : cutL T with
      | nil => exact absurd hq (cut_ne T)
      | cons p r => simp [doneP]

/-! What the pieces cost; what holds of all boxes that are read. -/
theorem adr_ok {n : List UInt8} {L : List Tk} {B : List Bx} (h : (adrP n L B).1 = 0) : (ofL L).2 = 0 ∧ B.length ≠ 100 ∧ (adrP n L B).2 = B ++ [bxOf n (ofL L).1] := by
  unfold adrP at h ⊢
  split at h
  · rename_i h1
    split at h
    · cases h
    · rename_i h2
      rw [if_pos h1, if_neg h2]
      exact ⟨h1, h2, rfl⟩
  · rename_i h1
    exact absurd h h1
theorem adr_yes {n : List UInt8} {L : List Tk} {B : List Bx} (h1 : (ofL L).2 = 0) (h2 : B.length ≠ 100) : adrP n L B = (0, B ++ [bxOf n (ofL L).1]) := by
  unfold adrP
  rw [if_pos h1, if_neg h2]
theorem adr_full {n : List UInt8} {L : List Tk} {B : List Bx} (h1 : (ofL L).2 = 0) (h2 : B.length = 100) : adrP n L B = (8, []) := by
  unfold adrP
  rw [if_pos h1, if_pos h2]
theorem adr_bad {n : List UInt8} {L : List Tk} {B : List Bx} (h1 : (ofL L).2 ≠ 0) : adrP n L B = ((ofL L).2, []) := by
  unfold adrP
  rw [if_neg h1]
theorem take_some {c : UInt8} {ps r : List Pc} (h : takeP c ps = some r) : ∃ u, ps = u :: r ∧ u.l = [] ∧ bl u.s = [c] := by
  cases ps with
  | nil => cases h
  | cons u ps =>
    rw [takeP] at h
    split at h
    · rename_i h1
      obtain rfl := Option.some.inj h
      simp only [Bool.and_eq_true, List.isEmpty_iff, sgB, beq_iff_eq] at h1
      exact ⟨u, rfl, h1.1, h1.2⟩
    · cases h
theorem take_yes {c : UInt8} {u : Pc} {r : List Pc} (h1 : u.l = []) (h2 : bl u.s = [c]) : takeP c (u :: r) = some r := by
  unfold takeP
  simp [h1, sgB, h2]
theorem take_no {c : UInt8} {u : Pc} {r : List Pc} (h2 : bl u.s ≠ [c]) : takeP c (u :: r) = none := by
  unfold takeP
  simp [sgB, h2]
/-- A state that a mailbox and a sign leave holding. -/
structure Stays (Q : List Pc → List Bx → Prop) : Prop where
  mbx : ∀ ps B, Q ps B → (mbxP ps B).1 = 0 → Q (mbxP ps B).2.1 (mbxP ps B).2.2
  sign : ∀ u r B, Q (u :: r) B → Q r B
theorem Stays.grp {Q : List Pc → List Bx → Prop} (S : Stays Q) : ∀ n ps B, Q ps B → (grp n ps B).1 = 0 → Q (grp n ps B).2.1 (grp n ps B).2.2
  | 0, _, _, _, h => by cases h
  | n + 1, ps, B, hq, h => by
    rw [Mbx.grp] at h ⊢
    split at h
    · rename_i h1
      rw [if_pos h1]
      have hm := S.mbx ps B hq h1
      cases h2 : takeP 59 (mbxP ps B).2.1 with
      | some r =>
        simp only
        obtain ⟨u, hu, _⟩ := take_some h2
        rw [hu] at hm
        exact S.sign u r _ hm
      | none =>
        rw [h2] at h
        cases h3 : takeP 44 (mbxP ps B).2.1 with
        | some r =>
          rw [h3] at h
          simp only at h ⊢
          obtain ⟨u, hu, _⟩ := take_some h3
          rw [hu] at hm
          exact Stays.grp S n r _ (S.sign u r _ hm) h
        | none => rw [h3] at h; cases h
    · rename_i h1
      exact absurd h h1
theorem Stays.prt {Q : List Pc → List Bx → Prop} (S : Stays Q) (n : Nat) (ps : List Pc) (B : List Bx) (hq : Q ps B) (h : (prt n ps B).1 = 0) : Q (prt n ps B).2.1 (prt n ps B).2.2 := by
  cases ps with
  | nil => cases h
  | cons p r =>
    rw [Mbx.prt] at h ⊢
    split at h
    · rename_i h1
      rw [if_pos h1]
      have hr := S.sign p r B hq
      unfold grp0 at h ⊢
      cases h2 : takeP 59 r with
      | some r' =>
        obtain ⟨u, rfl, _⟩ := take_some h2
        exact S.sign u r' _ hr
      | none =>
        rw [h2] at h
        exact S.grp n r B hr h
    · rename_i h1
      rw [if_neg h1]
      exact S.mbx _ B hq h
theorem Stays.lst {Q : List Pc → List Bx → Prop} (S : Stays Q) : ∀ n ps B, Q ps B → (lst n ps B).1 = 0 → ∃ ps', Q ps' (lst n ps B).2
  | 0, _, _, _, h => by cases h
  | n + 1, ps, B, hq, h => by
    rw [Mbx.lst] at h ⊢
    unfold contK at h ⊢
    split at h
    · rename_i h1
      rw [if_pos h1]
      have hp := S.prt n ps B hq h1
      split at h
      · rename_i h2
        rw [if_pos h2]
        exact ⟨_, hp⟩
      · rename_i h2
        rw [if_neg h2]
        cases h3 : takeP 44 (Mbx.prt n ps B).2.1 with
        | some r =>
          rw [h3] at h
          obtain ⟨u, hu, _⟩ := take_some h3
          rw [hu] at hp
          exact Stays.lst S n r _ (S.sign u r _ hp) h
        | none => rw [h3] at h; cases h
    · rename_i h1
      exact absurd h h1
def costP (ps : List Pc) : Nat := (ps.map fun p => cost p.l).sum
def sumN (B : List Bx) : Nat := (B.map fun b => b.n.size).sum
theorem cost_cons (t : Tk) (T : List Tk) : cost (t :: T) = t.text.size + 1 + cost T := by simp [cost]
theorem costP_cut : ∀ T : List Tk, costP (cutL T) ≤ cost T
  | [] => by simp [cutL, costP, cost]
  | t :: T => by
    have ih := costP_cut T
    rw [cost_cons]
    rw [cutL]
    split
    · simp only [costP, List.map_cons, List.sum_cons] at *
      have : cost ([] : List Tk) = 0 := rfl
      omega
    · cases hq : cutL T with
      | nil => exact absurd hq (cut_ne T)
      | cons p r =>
        rw [hq] at ih
        simp only [costP, List.map_cons, List.sum_cons] at *
        rw [cost_cons]
        omega
theorem name_le : ∀ L : List Tk, (nameL L).length ≤ cost L
  | [] => by simp [nameL, joinS]
  | [t] => by
    simp only [nameL, List.map_cons, List.map_nil, joinS, bl_len, cost_cons]
    omega
  | t :: u :: L => by
    have ih := name_le (u :: L)
    have e : nameL (t :: u :: L) = bl t.text ++ ([32] ++ nameL (u :: L)) := rfl
    rw [e, cost_cons]
    simp only [List.length_append, bl_len, List.length_cons, List.length_nil]
    omega
/-- A box that is written and read again as it is. -/
def Good (b : Bx) : Prop := (∀ c ∈ bl b.n, tx c = true) ∧ Right (adOf b)
theorem tx32 : tx 32 = true := by decide
theorem ok_tx {t : Tk} (h : Ok t) (hk : t.kind ≠ 3) : ∀ c ∈ bl t.text, tx c = true := by
  rcases h with h | h | h
  · intro c hc
    exact (am_facts _ c.toNat_lt (h.2.2 c hc)).2.2.2.2.2.2.2
  · exact h.2
  · exact absurd h.1 hk
theorem name_tx : ∀ L : List Tk, (∀ t ∈ L, Ok t) → plain L = true → ∀ c ∈ nameL L, tx c = true
  | [], _, _, c, hc => by cases hc
  | [t], ho, hp, c, hc => by
    have hk : t.kind ≠ 3 := by simpa [plain] using hp
    exact ok_tx (ho t (by simp)) hk c hc
  | t :: u :: L, ho, hp, c, hc => by
    have e : nameL (t :: u :: L) = bl t.text ++ ([32] ++ nameL (u :: L)) := rfl
    rw [e] at hc
    have hp2 : plain (u :: L) = true ∧ t.kind ≠ 3 := by
      unfold plain at hp ⊢
      rw [List.all_cons, Bool.and_eq_true] at hp
      exact ⟨hp.2, by simpa using hp.1⟩
    rcases List.mem_append.1 hc with hc | hc
    · exact ok_tx (ho t (by simp)) hp2.2 c hc
    · rcases List.mem_append.1 hc with hc | hc
      · obtain rfl := List.mem_singleton.1 hc
        exact tx32
      · exact name_tx (u :: L) (fun x hx => ho x (by simp [hx])) hp2.1 c hc
theorem of_right {L : List Tk} (h : (ofL L).2 = 0) : Right (ofL L).1 := by
  rcases of_cases L with ⟨a, e, hr⟩ | e | e <;> rw [e] at h ⊢
  · exact hr
  · cases h
  · cases h
theorem ad_bxOf (n : List UInt8) (a : Ad) : adOf (bxOf n a) = a := by simp [adOf, bxOf]
theorem sumN_snoc (B : List Bx) (b : Bx) : sumN (B ++ [b]) = sumN B + b.n.size := by simp [sumN]
def St (K : Nat) (ps : List Pc) (B : List Bx) : Prop := (∀ p ∈ ps, ∀ t ∈ p.l, Ok t) ∧ (∀ b ∈ B, Good b) ∧ B.length ≤ 100 ∧ sumN B + costP ps ≤ K
theorem angle_plain {p : Pc} (h : angle p = true) : plain p.l = true := by
  unfold angle at h
  rw [Bool.and_eq_true] at h
  exact h.2
theorem st_add {K : Nat} {ps ps' : List Pc} {B : List Bx} {n : List UInt8} {L : List Tk} (h : St K ps B) (hn : ∀ c ∈ n, tx c = true) (ha : (ofL L).2 = 0) (hB : B.length ≠ 100) (hc : n.length + costP ps' ≤ costP ps) (hs : ∀ p ∈ ps', ∀ t ∈ p.l, Ok t) : St K ps' (B ++ [bxOf n (ofL L).1]) := by
  obtain ⟨h1, h2, h3, h4⟩ := h
  refine ⟨hs, ?_, by rw [List.length_append]; simp; omega, ?_⟩
  · intro b hb
    rcases List.mem_append.1 hb with hb | hb
    · exact h2 b hb
    · obtain rfl := List.mem_singleton.1 hb
      refine ⟨?_, ?_⟩
      · show ∀ c ∈ bl (ba n), tx c = true
        rw [bl_ba]
        exact hn
      · rw [ad_bxOf]
        exact of_right ha
  · rw [sumN_snoc]
    have : (bxOf n (ofL L).1).n.size = n.length := ba_size n
    omega
theorem st_stays (K : Nat) : Stays (St K) where
  mbx := by
    intro ps B hq h
    cases ps with
    | nil => cases h
    | cons p r =>
      have hp := hq.1
      rw [mbxP] at h ⊢
      split at h
      · rename_i h1
        rw [if_pos h1]
        cases r with
        | nil => cases h
        | cons q r1 =>
          rw [angP] at h ⊢
          split at h
          · rename_i h2
            rw [if_pos h2]
            split at h
            · rename_i h3
              rw [if_pos h3]
              obtain ⟨e1, e2, e3⟩ := adr_ok h2
              rw [e3]
              refine st_add hq (name_tx _ (hp p (by simp)) (angle_plain h1)) e1 e2 ?_ (fun x hx => hp x (by simp [hx]))
              have := name_le p.l
              simp only [costP, List.map_cons, List.sum_cons]
              omega
            · cases h
          · rename_i h2
            exact absurd h h2
      · rename_i h1
        rw [if_neg h1]
        split at h
        · rename_i h2
          rw [if_pos h2]
          obtain ⟨e1, e2, e3⟩ := adr_ok h2
          rw [e3]
          refine st_add hq (by intro c hc; cases hc) e1 e2 ?_ ?_
          · simp only [costP, List.map_cons, List.sum_cons, List.length_nil]
            have : cost ([] : List Tk) = 0 := rfl
            omega
          · intro x hx
            rcases List.mem_cons.1 hx with rfl | hx
            · intro t ht; cases ht
            · exact hp x (by simp [hx])
        · rename_i h2
          exact absurd h h2
  sign := by
    rintro u r B ⟨h1, h2, h3, h4⟩
    refine ⟨fun p hp => h1 p (by simp [hp]), h2, h3, ?_⟩
    simp only [costP, List.map_cons, List.sum_cons] at *
    omega
theorem cut_ok : ∀ (T : List Tk), (∀ t ∈ T, Ok t) → ∀ p ∈ cutL T, ∀ t ∈ p.l, Ok t
  | [], _, p, hp, t, ht => by
    obtain rfl := List.mem_singleton.1 hp
    cases ht
  | x :: T, h, p, hp, t, ht => by
    have ih := cut_ok T (fun t ht => h t (by simp [ht]))
    rw [cutL] at hp
    split at hp
    · rcases List.mem_cons.1 hp with rfl | hp
      · cases ht
      · exact ih p hp t ht
    · cases hq : cutL T with
      | nil => exact absurd hq (cut_ne T)
      | cons q r =>
        rw [hq] at hp ih
        rcases List.mem_cons.1 hp with rfl | hp
        · rcases List.mem_cons.1 ht with rfl | ht
          · exact h t (by simp)
          · exact ih q (by simp) t ht
        · exact ih p (by simp [hp]) t ht
/-- What is read: boxes that are good, at most a hundred, of names that are not too long. -/
theorem read_good {s : List UInt8} (h : (readL s).1 = 0) : (∀ b ∈ (readL s).2, Good b) ∧ (readL s).2.length ≤ 100 ∧ sumN (readL s).2 ≤ 2 * s.length := by
  unfold readL at h ⊢
  split at h
  · rename_i h0
    rw [if_pos h0]
    have hT : scan s = (0, (scan s).2) := by rw [← h0]
    obtain ⟨h1, h2⟩ := scan_ok hT
    unfold listL at h ⊢
    have h3 := costP_cut (scan s).2
    obtain ⟨ps', _, h4, h5, h6⟩ := (st_stays (2 * s.length)).lst _ _ _ ⟨cut_ok _ h1, (fun b hb => by cases hb), by simp, by simp only [sumN, List.map_nil, List.sum_nil]; omega⟩ h
    exact ⟨h4, h5, by omega⟩
  · rename_i h0
    exact absurd h h0
theorem cont_none {k : List Pc → List Bx → Nat × List Bx} (hk : ∀ ps B, (k ps B).1 ≠ 0 → (k ps B).2 = []) (R : Rs) (h : (contK k R).1 ≠ 0) : (contK k R).2 = [] := by
  unfold contK at h ⊢
  split
  · rename_i h1
    rw [if_pos h1] at h
    split
    · rename_i h2
      rw [if_pos h2] at h
      exact absurd rfl h
    · rename_i h2
      rw [if_neg h2] at h
      cases h3 : takeP 44 R.2.1 with
      | some r => rw [h3] at h; exact hk _ _ h
      | none => rfl
  · rfl
theorem lst_none : ∀ (n : Nat) (ps : List Pc) (B : List Bx), (lst n ps B).1 ≠ 0 → (lst n ps B).2 = []
  | 0, _, _, _ => rfl
  | n + 1, _ps, _B, h => cont_none (lst_none n) _ h
theorem read_none {s : List UInt8} (h : (readL s).1 ≠ 0) : (readL s).2 = [] := by
  unfold readL at h ⊢
  split
  · rename_i h0
    rw [if_pos h0] at h
    exact lst_none _ _ _ h
  · rfl
end Go.Proofs.YtklmhjoiffaniaaDoor.Mbx
