/-
  The quoted-printable encoding in plain words, no program: how lines are written and read, and that what is written is read back, in short lines, line by line.
-/
import Derived.Test.YtobnckbpgckgjaaDoorHeadPlain
namespace Go.Proofs.YtobnckbpgckgjaaDoor.Qp
open Go.Proofs.YtobnckbpgckgjaaDoor.Head

/-! Lines. -/
theorem spl_ne (s : List UInt8) : spl s ≠ [] := by
  cases h : cut2 s with
  | none => rw [spl_none h]; simp
  | some p =>
    obtain ⟨a, r⟩ := p
    rw [spl_some h]; simp
/-- What was gathered, ahead of the first line. -/
def glue (w : List UInt8) : List (List UInt8) → List (List UInt8)
  | [] => [w]
  | h :: t => (w ++ h) :: t
theorem glue_nil {q : List (List UInt8)} (h : q ≠ []) : glue [] q = q := by
  cases q with
  | nil => exact absurd rfl h
  | cons a t => rfl
theorem spl_here (t : List UInt8) : spl (13 :: 10 :: t) = [] :: spl t := spl_some (cut2_here t)
theorem glue_here (w t : List UInt8) : glue w (spl (13 :: 10 :: t)) = w :: glue [] (spl t) := by
  rw [spl_here, glue_nil (spl_ne t)]
  show (w ++ []) :: spl t = _
  rw [List.append_nil]
theorem glue_cons (w : List UInt8) {c : UInt8} {t : List UInt8} (h : crlf (c :: t) = false) : glue w (spl (c :: t)) = glue (w ++ [c]) (spl t) := by
  have hc := cut2_cons h
  cases h2 : cut2 t with
  | none =>
    rw [h2] at hc
    rw [spl_none hc, spl_none h2]
    simp [glue]
  | some p =>
    obtain ⟨a, r⟩ := p
    rw [h2] at hc
    rw [spl_some hc, spl_some h2]
    simp [glue]
theorem glue_end (w : List UInt8) : glue w (spl []) = [w] := by
  rw [spl_none (by rfl)]
  show [w ++ []] = _
  rw [List.append_nil]
/-- Lines, with an end between them. -/
def joinE : List (List UInt8) → List UInt8
  | [] => []
  | l :: ls => l ++ (ls.map fun x => 13 :: 10 :: x).flatten
theorem joinE_cons (l m : List UInt8) (ls : List (List UInt8)) : joinE (l :: m :: ls) = l ++ 13 :: 10 :: joinE (m :: ls) := by simp [joinE]
theorem joinE_cons' (l : List UInt8) {ls : List (List UInt8)} (h : ls ≠ []) : joinE (l :: ls) = l ++ 13 :: 10 :: joinE ls := by
  cases ls with
  | nil => exact absurd rfl h
  | cons m ls => exact joinE_cons l m ls
theorem join_spl : ∀ (n : Nat) (s : List UInt8), s.length ≤ n → joinE (spl s) = s
  | 0, s, h => by
    obtain rfl := List.length_eq_zero_iff.1 (Nat.le_zero.1 h)
    rfl
  | n + 1, s, h => by
    cases hc : cut2 s with
    | none =>
      rw [spl_none hc]
      simp [joinE]
    | some p =>
      obtain ⟨t, r⟩ := p
      have hl := cut2_len hc
      rw [spl_some hc, joinE_cons' t (spl_ne r), join_spl n r (by omega)]
      exact (cut2_some hc).symm

/-! Bytes. -/
def itsN (n : Nat) : Bool := decide (33 ≤ n) && (decide (n ≤ 126) && !(n == 61))
def its (c : UInt8) : Bool := itsN c.toNat
def hexS : List UInt8 := [48, 49, 50, 51, 52, 53, 54, 55, 56, 57, 65, 66, 67, 68, 69, 70]
def hexN (n : Nat) : UInt8 := hexS.getD n 0
/-- The escape of a byte. -/
def esc (c : UInt8) : List UInt8 := [61, hexN (c.toNat / 16), hexN (c.toNat % 16)]
/-- Does a byte stand for itself, being the last one of its line or not? -/
def selfB (c : UInt8) (last : Bool) : Bool := if bk c then !last else its c
def wrt (last : Bool) (c : UInt8) : List UInt8 := if selfB c last then [c] else esc c
theorem wrt_len (last : Bool) (c : UInt8) : (wrt last c).length = 1 ∨ (wrt last c).length = 3 := by
  unfold wrt esc
  split <;> simp
/-- A line, written: so many bytes stand in it. -/
def lnW : Nat → List UInt8 → List UInt8
  | _, [] => []
  | k, c :: t => if 75 < k + (wrt t.isEmpty c).length then 61 :: 13 :: 10 :: (wrt t.isEmpty c ++ lnW (wrt t.isEmpty c).length t) else wrt t.isEmpty c ++ lnW (k + (wrt t.isEmpty c).length) t
def encJ (ls : List (List UInt8)) : List UInt8 := joinE (ls.map (lnW 0))
def encL (s : List UInt8) : List UInt8 := encJ (spl s)
theorem encJ_cons (l : List UInt8) {ls : List (List UInt8)} (h : ls ≠ []) : encJ (l :: ls) = lnW 0 l ++ 13 :: 10 :: encJ ls := by
  unfold encJ
  rw [List.map_cons, joinE_cons']
  simpa using h
theorem enc_none {s : List UInt8} (h : cut2 s = none) : encL s = lnW 0 s := by
  unfold encL encJ
  rw [spl_none h]
  simp [joinE]
theorem enc_some {s t r : List UInt8} (h : cut2 s = some (t, r)) : encL s = lnW 0 t ++ 13 :: 10 :: encL r := by
  unfold encL
  rw [spl_some h, encJ_cons t (spl_ne r)]
theorem lnW_len : ∀ (k : Nat) (t : List UInt8), (lnW k t).length ≤ 6 * t.length
  | _, [] => by simp [lnW]
  | k, c :: t => by
    have h1 := lnW_len (wrt t.isEmpty c).length t
    have h2 := lnW_len (k + (wrt t.isEmpty c).length) t
    have h3 := wrt_len t.isEmpty c
    rw [lnW]
    split
    · simp only [List.length_cons, List.length_append]; omega
    · simp only [List.length_cons, List.length_append]; omega
theorem enc_len : ∀ (n : Nat) (s : List UInt8), s.length ≤ n → (encL s).length ≤ 6 * s.length
  | 0, s, h => by
    obtain rfl := List.length_eq_zero_iff.1 (Nat.le_zero.1 h)
    decide
  | n + 1, s, h => by
    cases hc : cut2 s with
    | none => rw [enc_none hc]; exact lnW_len 0 s
    | some p =>
      obtain ⟨t, r⟩ := p
      have hl := cut2_len hc
      have h1 := lnW_len 0 t
      have h2 := enc_len n r (by omega)
      rw [enc_some hc]
      simp only [List.length_cons, List.length_append]
      omega

/-! Reading. -/
def dgN (n : Nat) : Nat := if 48 ≤ n ∧ n ≤ 57 then n - 48 else if 65 ≤ n ∧ n ≤ 70 then n - 55 else if 97 ≤ n ∧ n ≤ 102 then n - 87 else 16
/-- The byte of two digits. -/
def hxL (a b : UInt8) : Option UInt8 := if dgN a.toNat < 16 ∧ dgN b.toNat < 16 then some (16 * dgN a.toNat + dgN b.toNat).toUInt8 else none
def byteL : List UInt8 → Option UInt8
  | [a, b] => hxL a b
  | _ => none
/-- What a line stands for. -/
def rdW : List UInt8 → Option (List UInt8)
  | [] => some []
  | c :: t => if selfB c false then (rdW t).map (c :: ·) else if c = 61 then (match t with
    | a :: b :: r => (match hxL a b with
      | some x => (rdW r).map (x :: ·)
      | none => none)
    | _ => none) else none
theorem rdW_self {c : UInt8} {t : List UInt8} (h : selfB c false = true) : rdW (c :: t) = (rdW t).map (c :: ·) := by
  rw [rdW.eq_def]
  simp only [h, if_true]
theorem self_mark : selfB 61 false = false := by decide
theorem rdW_esc (a b : UInt8) (r : List UInt8) : rdW (61 :: a :: b :: r) = match hxL a b with | some x => (rdW r).map (x :: ·) | none => none := by
  rw [rdW, if_neg (by decide), if_pos rfl]
theorem rdW_short {t : List UInt8} (h : t.length < 2) : rdW (61 :: t) = none := by
  match t, h with
  | [], _ => rfl
  | [a], _ => rfl
theorem rdW_bad {c : UInt8} {t : List UInt8} (h : selfB c false = false) (hc : c ≠ 61) : rdW (c :: t) = none := by
  rw [rdW.eq_def]
  simp [h, hc]
def softB (l : List UInt8) : Bool := (trimR l).getLast? == some 61
def bodyL (l : List UInt8) : List UInt8 := if softB l then (trimR l).dropLast else trimR l
def decJ : List (List UInt8) → Option (List UInt8)
  | [] => some []
  | l :: ls => match rdW (bodyL l) with
    | none => none
    | some x => (decJ ls).map fun y => x ++ ((if softB l || ls.isEmpty then [] else [13, 10]) ++ y)
def decL (s : List UInt8) : Option (List UInt8) := decJ (spl s)
theorem dec_none {s : List UInt8} (h : cut2 s = none) : decL s = rdW (bodyL s) := by
  unfold decL
  rw [spl_none h, decJ]
  cases rdW (bodyL s) with
  | none => rfl
  | some x => simp [decJ]
theorem dec_some {s t r : List UInt8} (h : cut2 s = some (t, r)) : decL s = match rdW (bodyL t) with | none => none | some x => (decL r).map fun y => x ++ ((if softB t then [] else [13, 10]) ++ y) := by
  unfold decL
  rw [spl_some h, decJ]
  have hn : (spl r).isEmpty = false := by
    cases hs : spl r with
    | nil => exact absurd hs (spl_ne r)
    | cons a b => rfl
  rw [hn, Bool.or_false]

/-! There and back. -/
theorem rdW_app : ∀ (n : Nat) (a : List UInt8) (x b : List UInt8), a.length ≤ n → rdW a = some x → rdW (a ++ b) = (rdW b).map (x ++ ·)
  | _, [], x, b, _, h => by
    obtain rfl : [] = x := Option.some.inj h
    simp
  | 0, c :: t, x, b, hl, h => by simp at hl
  | n + 1, c :: t, x, b, hl, h => by
    rw [List.length_cons] at hl
    cases hs : selfB c false
    · by_cases hc : c = 61
      · subst hc
        match t, hl, h with
        | [], _, h => cases h
        | [a], _, h => cases h
        | a :: a2 :: r, hl, h =>
          rw [rdW_esc] at h
          rw [List.cons_append, List.cons_append, List.cons_append, rdW_esc]
          cases hx : hxL a a2 with
          | none => rw [hx] at h; cases h
          | some y =>
            rw [hx] at h
            simp only [Option.map_eq_some_iff] at h
            obtain ⟨z, h1, rfl⟩ := h
            simp only [List.length_cons] at hl
            simp only [rdW_app n r z b (by omega) h1, Option.map_map]
            rfl
      · rw [rdW_bad hs hc] at h
        cases h
    · rw [rdW_self hs, Option.map_eq_some_iff] at h
      obtain ⟨z, h1, rfl⟩ := h
      rw [List.cons_append, rdW_self hs, rdW_app n t z b (by omega) h1, Option.map_map]
      rfl
/-- What is written is short and plain, and is read. -/
def wrtOk (last : Bool) (c : UInt8) : Bool := decide (rdW (wrt last c) = some [c]) && ((wrt last c).all (fun x => (x == 9 || (decide (32 ≤ x.toNat) && decide (x.toNat ≤ 126)))) && (!last || (match (wrt last c).getLast? with | none => false | some x => !bk x && !(x == 61))))
theorem wrt_ok (last : Bool) (c : UInt8) : wrtOk last c = true := by
  have h : (List.range 256).all (fun n => wrtOk true n.toUInt8 && wrtOk false n.toUInt8) = true := by decide +kernel
  have := all256 h c.toNat c.toNat_lt
  have hc : c.toNat.toUInt8 = c := by rw [← UInt8.toNat_inj]; simp
  simp only [hc, Bool.and_eq_true] at this
  cases last
  · exact this.2
  · exact this.1
theorem wrt_read (last : Bool) (c : UInt8) : rdW (wrt last c) = some [c] := by
  have := wrt_ok last c
  unfold wrtOk at this
  simp only [Bool.and_eq_true, decide_eq_true_eq] at this
  exact this.1
def plainB (x : UInt8) : Bool := x == 9 || (decide (32 ≤ x.toNat) && decide (x.toNat ≤ 126))
theorem wrt_plain (last : Bool) (c : UInt8) : ∀ x ∈ wrt last c, plainB x = true := by
  have := wrt_ok last c
  unfold wrtOk at this
  simp only [Bool.and_eq_true] at this
  exact List.all_eq_true.1 this.2.1
theorem plain_ne {x : UInt8} (h : plainB x = true) : x ≠ 13 := by
  rintro rfl
  revert h
  decide
/-- Nothing, or an end that is neither a blank nor the mark. -/
def Firm (l : List UInt8) : Prop := ∀ x, l.getLast? = some x → bk x = false ∧ x ≠ 61
theorem wrt_firm (c : UInt8) : Firm (wrt true c) := by
  have := wrt_ok true c
  unfold wrtOk at this
  simp only [Bool.and_eq_true, Bool.not_true, Bool.false_or] at this
  intro x hx
  have h := this.2.2
  rw [hx] at h
  simpa using h
theorem Firm.app {a b : List UInt8} (h : Firm b) (hb : b ≠ []) : Firm (a ++ b) := by
  intro x hx
  obtain ⟨b', y, rfl⟩ : ∃ b' y, b = b' ++ [y] := ⟨b.dropLast, b.getLast hb, (List.dropLast_concat_getLast hb).symm⟩
  rw [← List.append_assoc, List.getLast?_concat] at hx
  exact h x (by rw [List.getLast?_concat]; exact hx)
theorem drop_all : ∀ l : List UInt8, (∀ x ∈ l, bk x = true) → l.dropWhile bk = []
  | [], _ => rfl
  | c :: t, h => by rw [List.dropWhile_cons, if_pos (h c (by simp)), drop_all t fun x hx => h x (by simp [hx])]
theorem trimR_firm {l : List UInt8} (h : ∀ x, l.getLast? = some x → bk x = false) (b : List UInt8) (hb : ∀ x ∈ b, bk x = true) : trimR (l ++ b) = l := by
  unfold trimR
  rw [List.reverse_append]
  have h1 : (b.reverse ++ l.reverse).dropWhile bk = l.reverse.dropWhile bk := by
    rw [List.dropWhile_append]
    have : b.reverse.dropWhile bk = [] := drop_all _ fun x hx => hb x (List.mem_reverse.1 hx)
    rw [this]
    rfl
  rw [h1]
  have h2 : l.reverse.dropWhile bk = l.reverse := by
    cases hr : l.reverse with
    | nil => rfl
    | cons c u =>
      have hl : l = u.reverse ++ [c] := by
        have := congrArg List.reverse hr
        simpa using this
      have := h c (by rw [hl, List.getLast?_concat])
      rw [List.dropWhile_cons, this, if_neg (by decide)]
  rw [h2, List.reverse_reverse]
theorem body_firm {l : List UInt8} (h : Firm l) (b : List UInt8) (hb : ∀ x ∈ b, bk x = true) : softB (l ++ b) = false ∧ bodyL (l ++ b) = l := by
  have ht := trimR_firm (fun x hx => (h x hx).1) b hb
  have hs : softB (l ++ b) = false := by
    unfold softB
    rw [ht]
    cases hl : l.getLast? with
    | none => rfl
    | some x =>
      rw [beq_eq_false_iff_ne]
      intro e
      exact (h x hl).2 (Option.some.inj e)
  refine ⟨hs, ?_⟩
  unfold bodyL
  rw [hs, if_neg (by decide), ht]
theorem body_soft (l : List UInt8) : softB (l ++ [61]) = true ∧ bodyL (l ++ [61]) = l := by
  have ht : trimR (l ++ [61]) = l ++ [61] := by
    have := trimR_firm (l := l ++ [61]) (fun x hx => by
      rw [List.getLast?_concat] at hx
      obtain rfl := Option.some.inj hx
      decide) [] (by simp)
    rwa [List.append_nil] at this
  have hs : softB (l ++ [61]) = true := by
    unfold softB
    rw [ht, List.getLast?_concat]
    decide
  refine ⟨hs, ?_⟩
  unfold bodyL
  rw [hs, if_pos rfl, ht, List.dropLast_concat]
/-- What is read of a text's end: nothing further, or an end and what follows. -/
inductive Tail : List UInt8 → List UInt8 → Prop
  | last (b : List UInt8) (h : ∀ x ∈ b, bk x = true) : Tail b []
  | next (r y : List UInt8) (h : decL r = some y) : Tail (13 :: 10 :: r) (13 :: 10 :: y)
theorem line_end {cur x tail y : List UInt8} (h : Tail tail y) (h1 : rdW cur = some x) (h2 : ∀ c ∈ cur, plainB c = true) (h3 : Firm cur) : decL (cur ++ tail) = some (x ++ y) := by
  cases h with
  | last b hb =>
    have hn : cut2 (cur ++ tail) = none := by
      have : ∀ l : List UInt8, (∀ c ∈ l, c ≠ 13) → cut2 l = none := by
        intro l
        induction l with
        | nil => intro _; rfl
        | cons c t ih =>
          intro h
          rw [cut2_cons (crlf_ne (h c (by simp))), ih fun x hx => h x (by simp [hx])]
          rfl
      refine this _ fun c hc => ?_
      rcases List.mem_append.1 hc with hc | hc
      · exact plain_ne (h2 c hc)
      · have := hb c hc
        rintro rfl
        revert this
        decide
    rw [dec_none hn, (body_firm h3 tail hb).2, h1, List.append_nil]
  | next r z hz =>
    have hc := cut2_run cur r fun c hc => plain_ne (h2 c hc)
    have hb := body_firm h3 [] (by simp)
    rw [List.append_nil] at hb
    rw [dec_some hc, hb.2, h1, hb.1, hz]
    rfl
theorem line_back : ∀ (t : List UInt8) (k : Nat) (cur x tail y : List UInt8), Tail tail y → rdW cur = some x → (∀ c ∈ cur, plainB c = true) → (t = [] → Firm cur) → decL (cur ++ (lnW k t ++ tail)) = some (x ++ (t ++ y))
  | [], k, cur, x, tail, y, h, h1, h2, h3 => by
    rw [lnW, List.nil_append, List.nil_append]
    exact line_end h h1 h2 (h3 rfl)
  | c :: t, k, cur, x, tail, y, h, h1, h2, h3 => by
    have hw := wrt_plain t.isEmpty c
    have hr := wrt_read t.isEmpty c
    have hf : t = [] → Firm (wrt t.isEmpty c) := by
      rintro rfl
      exact wrt_firm c
    have hn : wrt t.isEmpty c ≠ [] := by
      intro e
      have := wrt_len t.isEmpty c
      rw [e] at this
      simp at this
    rw [lnW]
    split
    · have e : cur ++ (61 :: 13 :: 10 :: (wrt t.isEmpty c ++ lnW (wrt t.isEmpty c).length t) ++ tail) = (cur ++ [61]) ++ 13 :: 10 :: (wrt t.isEmpty c ++ (lnW (wrt t.isEmpty c).length t ++ tail)) := by simp
      have hp : ∀ z ∈ cur ++ [61], z ≠ 13 := by
        intro z hz
        rcases List.mem_append.1 hz with hz | hz
        · exact plain_ne (h2 z hz)
        · rw [List.mem_singleton.1 hz]
          decide
      rw [e, dec_some (cut2_run _ _ hp), (body_soft cur).2, h1, (body_soft cur).1, line_back t _ _ [c] tail y h hr hw hf]
      simp
    · have e : cur ++ (wrt t.isEmpty c ++ lnW (k + (wrt t.isEmpty c).length) t ++ tail) = (cur ++ wrt t.isEmpty c) ++ (lnW (k + (wrt t.isEmpty c).length) t ++ tail) := by simp
      have h4 : rdW (cur ++ wrt t.isEmpty c) = some (x ++ [c]) := by rw [rdW_app cur.length cur x _ (Nat.le_refl _) h1, hr]; rfl
      rw [e, line_back t _ _ (x ++ [c]) tail y h h4 (fun z hz => by
        rcases List.mem_append.1 hz with hz | hz
        · exact h2 z hz
        · exact hw z hz) fun ht => (hf ht).app hn]
      simp
theorem lines_back (b : List UInt8) (hb : ∀ x ∈ b, bk x = true) : ∀ (ls : List (List UInt8)), ls ≠ [] → decL (encJ ls ++ b) = some (joinE ls)
  | [], h => absurd rfl h
  | [l], _ => by
    have := line_back l 0 [] [] b [] (.last b hb) rfl (by simp) (fun _ x hx => by cases hx)
    simpa [encJ, joinE] using this
  | l :: m :: ls, _ => by
    have ih := lines_back b hb (m :: ls) (by simp)
    have := line_back l 0 [] [] (13 :: 10 :: (encJ (m :: ls) ++ b)) _ (.next _ _ ih) rfl (by simp) (fun _ x hx => by cases hx)
    rw [encJ_cons l (by simp), joinE_cons]
    simpa using this
theorem enc_back (s b : List UInt8) (hb : ∀ x ∈ b, bk x = true) : decL (encL s ++ b) = some s := by
  unfold encL
  rw [lines_back b hb _ (spl_ne s), join_spl s.length s (Nat.le_refl _)]

/-! Line by line. -/
theorem spl_app : ∀ (n : Nat) (a b : List UInt8), a.length ≤ n → a.getLast? ≠ some 13 → spl (a ++ 13 :: 10 :: b) = spl a ++ spl b
  | _, [], b, _, _ => by rw [List.nil_append, spl_here]; rfl
  | 0, c :: t, b, hl, _ => by simp at hl
  | n + 1, c :: t, b, hl, ha => by
    rw [List.length_cons] at hl
    cases hc : cut2 (c :: t) with
    | some p =>
      obtain ⟨u, r⟩ := p
      have e := cut2_some hc
      have hlr := cut2_len hc
      have h1 : cut2 (c :: t ++ 13 :: 10 :: b) = some (u, r ++ 13 :: 10 :: b) := by
        have : ∀ (l u r q : List UInt8), cut2 l = some (u, r) → cut2 (l ++ q) = some (u, r ++ q) := by
          intro l
          induction l with
          | nil => intro u r q h; simp [cut2] at h
          | cons d v ih =>
            intro u r q h
            have hcr : ∀ w : List UInt8, crlf (d :: v) = true → crlf (d :: v ++ w) = true := by
              intro w hx
              cases v with
              | nil => simp [crlf] at hx
              | cons d2 v2 => simpa [crlf] using hx
            cases hx : crlf (d :: v)
            · rw [cut2_cons hx, Option.map_eq_some_iff] at h
              obtain ⟨⟨u', r'⟩, h1, h2⟩ := h
              obtain ⟨rfl, rfl⟩ := Prod.mk.inj h2
              have hx2 : crlf (d :: (v ++ q)) = false := by
                cases v with
                | nil => simp [cut2] at h1
                | cons d2 v2 => simpa [crlf] using hx
              rw [List.cons_append, cut2_cons hx2, ih _ _ q h1]
              rfl
            · rw [cut2, if_pos hx] at h
              obtain ⟨rfl, rfl⟩ := Prod.mk.inj (Option.some.inj h)
              rw [List.cons_append, cut2, if_pos (by rw [← List.cons_append]; exact hcr q hx)]
              cases v with
              | nil => simp [crlf] at hx
              | cons d2 v2 => rfl
        exact this _ _ _ _ hc
      rw [spl_some h1, spl_some hc, spl_app n r b (by simp only [List.length_cons] at hlr; omega) ?_]
      · rfl
      · intro hr
        apply ha
        rw [e]
        cases r with
        | nil => simp at hr
        | cons d v =>
          rw [List.getLast?_append, show (13 :: 10 :: d :: v : List UInt8) = [13, 10] ++ (d :: v) from rfl, List.getLast?_append, hr]
          rfl
    | none =>
      have : ∀ (l q : List UInt8), cut2 l = none → l.getLast? ≠ some 13 → cut2 (l ++ 13 :: 10 :: q) = some (l, q) := by
        intro l
        induction l with
        | nil => intro q _ _; exact cut2_here q
        | cons d v ih =>
          intro q h hg
          cases hx : crlf (d :: v)
          · rw [cut2_cons hx, Option.map_eq_none_iff] at h
            have hx2 : crlf (d :: (v ++ 13 :: 10 :: q)) = false := by
              cases v with
              | nil =>
                refine crlf_ne ?_
                rintro rfl
                exact hg rfl
              | cons d2 v2 => simpa [crlf] using hx
            rw [List.cons_append, cut2_cons hx2, ih q h ?_]
            · rfl
            · intro hv
              apply hg
              cases v with
              | nil => cases hv
              | cons d2 v2 => rw [List.getLast?_cons_cons]; exact hv
          · rw [cut2, if_pos hx] at h
            cases h
      rw [spl_some (this _ b hc ha), spl_none hc]
      rfl
theorem enc_app (a b : List UInt8) (ha : a.getLast? ≠ some 13) : encL (a ++ 13 :: 10 :: b) = encL a ++ 13 :: 10 :: encL b := by
  unfold encL
  rw [spl_app a.length a b (Nat.le_refl _) ha]
  have : ∀ ls : List (List UInt8), ls ≠ [] → ∀ ms, ms ≠ [] → encJ (ls ++ ms) = encJ ls ++ 13 :: 10 :: encJ ms := by
    intro ls
    induction ls with
    | nil => intro h; exact absurd rfl h
    | cons l ls ih =>
      intro _ ms hm
      cases ls with
      | nil =>
        rw [List.singleton_append, encJ_cons l hm]
        simp [encJ, joinE]
      | cons l2 ls =>
        rw [List.cons_append, encJ_cons l (by simp), ih (by simp) ms hm, encJ_cons l (by simp)]
        simp
  exact this _ (spl_ne a) _ (spl_ne b)

/-! Short, plain lines. -/
/-- What the chapter's claim asks of a text, byte by byte: is the byte before a blank; how many stand in the line. -/
def wid : Bool → Nat → List UInt8 → Bool
  | pb, _, [] => !pb
  | pb, k, c :: t => if c = 13 then (match t with
      | d :: r => if d = 10 then !pb && wid false 0 r else false
      | [] => false) else (c == 9 || (decide (32 ≤ c.toNat) && decide (c.toNat ≤ 126))) && (decide (k + 1 ≤ 76) && wid (bk c) (k + 1) t)
theorem wid_end (pb : Bool) (k : Nat) (r : List UInt8) : wid pb k (13 :: 10 :: r) = (!pb && wid false 0 r) := by
  rw [wid, if_pos rfl, if_pos rfl]
theorem wid_plain (pb : Bool) (k : Nat) {c : UInt8} (t : List UInt8) (h : plainB c = true) (hk : k + 1 ≤ 76) : wid pb k (c :: t) = wid (bk c) (k + 1) t := by
  rw [wid.eq_def]
  simp only [if_neg (plain_ne h)]
  unfold plainB at h
  rw [h, decide_eq_true hk]
  rfl
theorem wid_run : ∀ (a : List UInt8) (pb : Bool) (k : Nat) (t : List UInt8), (∀ c ∈ a, plainB c = true) → k + a.length ≤ 76 → wid pb k (a ++ t) = wid (match a.getLast? with | none => pb | some x => bk x) (k + a.length) t
  | [], pb, k, t, _, _ => rfl
  | c :: a, pb, k, t, h, hk => by
    rw [List.length_cons] at hk
    rw [List.cons_append, wid_plain pb k _ (h c (by simp)) (by omega), wid_run a _ _ t (fun x hx => h x (by simp [hx])) (by omega)]
    congr 1
    · cases a with
      | nil => rfl
      | cons d v =>
        rw [List.getLast?_cons_cons]
        cases hg : (d :: v).getLast? with
        | none => simp at hg
        | some x => rfl
    · rw [List.length_cons]; omega
theorem wid_line : ∀ (t : List UInt8) (k : Nat) (pb : Bool) (rest : List UInt8), k ≤ 75 → (t = [] → pb = false) → (∀ j, wid false j rest = true) → wid pb k (lnW k t ++ rest) = true
  | [], k, pb, rest, _, hp, hr => by
    rw [hp rfl]
    exact hr k
  | c :: t, k, pb, rest, hk, hp, hr => by
    have hw := wrt_plain t.isEmpty c
    have hl := wrt_len t.isEmpty c
    have hn : wrt t.isEmpty c ≠ [] := by
      intro e
      rw [e] at hl
      simp at hl
    have hf : t = [] → (match (wrt t.isEmpty c).getLast? with | none => false | some x => bk x) = false := by
      rintro rfl
      cases hg : (wrt ([] : List UInt8).isEmpty c).getLast? with
      | none => rfl
      | some x => exact (wrt_firm c x hg).1
    have hq : ∀ pb : Bool, (match (wrt t.isEmpty c).getLast? with | none => pb | some x => bk x) = (match (wrt t.isEmpty c).getLast? with | none => false | some x => bk x) := by
      intro pb
      cases hg : (wrt t.isEmpty c).getLast? with
      | none => exact absurd (List.getLast?_eq_none_iff.1 hg) hn
      | some x => rfl
    rw [lnW]
    split
    · rw [List.cons_append, wid_plain pb k _ (by decide) (by omega), List.cons_append, List.cons_append, wid_end, show bk 61 = false from by decide, List.append_assoc, wid_run _ false 0 _ hw (by omega), Nat.zero_add, wid_line t _ _ rest (by omega) hf hr]
      rfl
    · rw [List.append_assoc, wid_run _ pb k _ hw (by omega), hq, wid_line t _ _ rest (by omega) hf hr]
theorem wid_lines : ∀ (ls : List (List UInt8)), ls ≠ [] → wid false 0 (encJ ls) = true
  | [], h => absurd rfl h
  | [l], _ => by
    have := wid_line l 0 false [] (by omega) (fun _ => rfl) (fun _ => rfl)
    simpa [encJ, joinE] using this
  | l :: m :: ls, _ => by
    have ih := wid_lines (m :: ls) (by simp)
    rw [encJ_cons l (by simp)]
    exact wid_line l 0 false _ (by omega) (fun _ => rfl) fun j => by rw [wid_end, ih]; rfl
theorem enc_wid (s : List UInt8) : wid false 0 (encL s) = true := wid_lines _ (spl_ne s)
end Go.Proofs.YtobnckbpgckgjaaDoor.Qp
