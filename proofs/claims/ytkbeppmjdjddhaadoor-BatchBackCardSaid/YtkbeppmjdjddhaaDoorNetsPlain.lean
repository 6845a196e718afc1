/-
  Plain facts on lists of bytes: what a net is, what is taken of bytes, rows and their texts; that taking undoes putting and the other way round. No program is named here.
-/
import Derived.Lib.ItoaNum
namespace Go.Proofs.YtkbeppmjdjddhaaDoor.Nets
open Go.Lib

def isD (c : UInt8) : Bool := decide (48 ≤ c.toNat) && decide (c.toNat ≤ 57)
def digs (l : List UInt8) : List UInt8 := l.takeWhile isD
def val (l : List UInt8) : Nat := l.foldl (fun n c => 10 * n + (c.toNat - 48)) 0
def putS (l : List UInt8) : List UInt8 := decDigits l.length ++ (58 :: (l ++ [44]))

theorem tw_step (p : UInt8 → Bool) : ∀ (l : List UInt8) (k : Nat), k ≤ (l.takeWhile p).length → (h : k < l.length) → p l[k] = true → k + 1 ≤ (l.takeWhile p).length
  | [], _, _, h, _ => by simp at h
  | a :: t, k, hk, h, hp => by
    by_cases ha : p a = true
    · rw [List.takeWhile_cons_of_pos ha] at hk ⊢
      cases k with
      | zero => simp
      | succ k =>
        have := tw_step p t k (by simpa using hk) (by simpa using h) (by simpa using hp)
        simpa using this
    · rw [List.takeWhile_cons_of_neg ha] at hk
      have : k = 0 := by simpa using hk
      subst this
      exact absurd (by simpa using hp) ha

theorem tw_lt (p : UInt8 → Bool) : ∀ (l : List UInt8) (k : Nat), k < (l.takeWhile p).length → ∃ h : k < l.length, p l[k] = true
  | [], _, h => by simp at h
  | a :: t, k, hk => by
    by_cases ha : p a = true
    · rw [List.takeWhile_cons_of_pos ha] at hk
      cases k with
      | zero => exact ⟨by simp, by simpa using ha⟩
      | succ k =>
        obtain ⟨h, hp⟩ := tw_lt p t k (by simpa using hk)
        exact ⟨by simpa using h, by simpa using hp⟩
    · rw [List.takeWhile_cons_of_neg ha] at hk
      simp at hk

theorem tw_stop (p : UInt8 → Bool) (l : List UInt8) (k : Nat) (hk : k ≤ (l.takeWhile p).length) (h : k < l.length) (hp : p l[k] = false) : (l.takeWhile p).length = k := by
  rcases Nat.lt_or_ge k (l.takeWhile p).length with h' | h'
  · obtain ⟨_, hq⟩ := tw_lt p l k h'
    rw [hp] at hq
    cases hq
  · omega

theorem tw_le (p : UInt8 → Bool) (l : List UInt8) : (l.takeWhile p).length ≤ l.length := (List.takeWhile_sublist p).length_le

theorem tw_take (p : UInt8 → Bool) : ∀ (l : List UInt8), l.take (l.takeWhile p).length = l.takeWhile p
  | [] => rfl
  | a :: t => by
    by_cases ha : p a = true
    · rw [List.takeWhile_cons_of_pos ha]; simp [tw_take p t]
    · rw [List.takeWhile_cons_of_neg ha]; rfl

theorem digs_step (l : List UInt8) (k : Nat) (hk : k ≤ (digs l).length) (h : k < l.length) (hp : isD l[k] = true) : k + 1 ≤ (digs l).length := tw_step isD l k hk h hp
theorem digs_stop (l : List UInt8) (k : Nat) (hk : k ≤ (digs l).length) (h : k < l.length) (hp : isD l[k] = false) : (digs l).length = k := tw_stop isD l k hk h hp
theorem digs_lt (l : List UInt8) (k : Nat) (hk : k < (digs l).length) : ∃ h : k < l.length, isD l[k] = true := tw_lt isD l k hk
theorem digs_le (l : List UInt8) : (digs l).length ≤ l.length := tw_le isD l
theorem digs_take (l : List UInt8) : l.take (digs l).length = digs l := tw_take isD l
theorem digs_all (l : List UInt8) : ∀ c ∈ digs l, isD c = true := by
  intro c hc
  exact List.all_eq_true.1 List.all_takeWhile c hc

theorem isD_bounds {c : UInt8} (h : isD c = true) : 48 ≤ c.toNat ∧ c.toNat ≤ 57 := by
  unfold isD at h
  simpa using h
theorem isD_of {c : UInt8} (h1 : 48 ≤ c.toNat) (h2 : c.toNat ≤ 57) : isD c = true := by
  unfold isD; simp [h1, h2]
theorem isD_not {c : UInt8} (h : c.toNat < 48 ∨ 57 < c.toNat) : isD c = false := by
  rcases h with h | h
  · unfold isD; simp; omega
  · unfold isD; simp; omega

theorem val_snoc (l : List UInt8) (c : UInt8) : val (l ++ [c]) = 10 * val l + (c.toNat - 48) := by
  unfold val; simp [List.foldl_append]

theorem foldl_ge : ∀ (l : List UInt8) (n : Nat), n ≤ l.foldl (fun n c => 10 * n + (c.toNat - 48)) n
  | [], n => Nat.le_refl n
  | c :: l, n => by
    have := foldl_ge l (10 * n + (c.toNat - 48))
    simp only [List.foldl_cons]
    omega

theorem val_cons_ge (c : UInt8) (l : List UInt8) : c.toNat - 48 ≤ val (c :: l) := by
  have := foldl_ge l (10 * 0 + (c.toNat - 48))
  unfold val
  simp only [List.foldl_cons]
  omega

/-- A number of at most nine digits. -/
theorem val_lt : ∀ (n : Nat) (l : List UInt8), l.length = n → (∀ c ∈ l, isD c = true) → val l < 10 ^ n
  | 0, l, h, _ => by
    have : l = [] := List.length_eq_zero_iff.1 h
    subst this; simp [val]
  | n + 1, l, h, hd => by
    have hne : l ≠ [] := by intro e; subst e; simp at h
    have e := (List.dropLast_concat_getLast hne).symm
    rw [e, val_snoc]
    have h1 := val_lt n l.dropLast (by simp [h]) (fun c hc => hd c (List.dropLast_subset l hc))
    have h2 := isD_bounds (hd _ (List.getLast_mem hne))
    rw [Nat.pow_succ]
    omega

theorem dec_ne (n : Nat) : decDigits n ≠ [] := by
  rw [decDigits]; split <;> simp

theorem ofNat_toNat48 (k : Nat) (h : k < 10) : (UInt8.ofNat (48 + k)).toNat = 48 + k := by
  simp; omega

theorem dec_all (n : Nat) : ∀ c ∈ decDigits n, isD c = true := by
  induction n using Nat.strongRecOn with
  | _ n ih =>
    intro c hc
    rw [decDigits] at hc
    by_cases h : n < 10
    · rw [dif_pos h] at hc
      simp only [List.mem_singleton] at hc
      subst hc
      exact isD_of (by rw [ofNat_toNat48 n h]; omega) (by rw [ofNat_toNat48 n h]; omega)
    · rw [dif_neg h] at hc
      rcases List.mem_append.1 hc with hc | hc
      · exact ih (n / 10) (by omega) c hc
      · simp only [List.mem_singleton] at hc
        subst hc
        exact isD_of (by rw [ofNat_toNat48 _ (by omega)]; omega) (by rw [ofNat_toNat48 _ (by omega)]; omega)

theorem val_dec (n : Nat) : val (decDigits n) = n := by
  induction n using Nat.strongRecOn with
  | _ n ih =>
    rw [decDigits]
    by_cases h : n < 10
    · rw [dif_pos h]
      unfold val
      simp only [List.foldl_cons, List.foldl_nil]
      rw [ofNat_toNat48 n h]; omega
    · rw [dif_neg h, val_snoc, ih (n / 10) (by omega), ofNat_toNat48 _ (by omega)]
      omega

theorem dec_head (n : Nat) (hn : 1 ≤ n) : (decDigits n)[0]? ≠ some 48 := by
  induction n using Nat.strongRecOn with
  | _ n ih =>
    rw [decDigits]
    by_cases h : n < 10
    · rw [dif_pos h]
      intro e
      have e1 : UInt8.ofNat (48 + n) = 48 := by simpa using e
      have e2 := congrArg UInt8.toNat e1
      rw [ofNat_toNat48 n h] at e2
      have : (48 : UInt8).toNat = 48 := rfl
      omega
    · rw [dif_neg h]
      have h1 := ih (n / 10) (by omega) (by omega)
      have h2 : 0 < (decDigits (n / 10)).length := List.length_pos_iff.2 (dec_ne _)
      rw [List.getElem?_append_left h2]
      exact h1

theorem dec_val : ∀ (n : Nat) (d : List UInt8), d.length = n → d ≠ [] → (∀ c ∈ d, isD c = true) → ¬ (1 < d.length ∧ d[0]? = some 48) → decDigits (val d) = d
  | 0, d, h, hne, _, _ => absurd (List.length_eq_zero_iff.1 h) hne
  | n + 1, d, h, hne, hd, hz => by
    have e := (List.dropLast_concat_getLast hne).symm
    have hb := isD_bounds (hd _ (List.getLast_mem hne))
    have hlen : d.dropLast.length = n := by simp [h]
    generalize hx : d.dropLast = x at *
    generalize hc : d.getLast hne = c at *
    have hof : UInt8.ofNat (48 + (c.toNat - 48)) = c := by
      rw [show 48 + (c.toNat - 48) = c.toNat by omega]; simp
    by_cases hx0 : x = []
    · subst hx0
      rw [e]
      have hv : val ([] ++ [c]) = c.toNat - 48 := by simp [val]
      rw [hv, decDigits_one (by omega), hof]
      rfl
    · have hxl : 0 < x.length := List.length_pos_iff.2 hx0
      have hall : ∀ y ∈ x, isD y = true := fun y hy => hd y (by rw [e]; exact List.mem_append_left _ hy)
      have hz0 : d[0]? = x[0]? := by rw [e, List.getElem?_append_left hxl]
      have hh : x[0]? ≠ some 48 := by
        intro e0
        exact hz ⟨by omega, by rw [hz0]; exact e0⟩
      have hv1 : 1 ≤ val x := by
        match x, hx0, hh, hall with
        | y :: t, _, hh, hall =>
          have := val_cons_ge y t
          have hy := isD_bounds (hall y (List.mem_cons_self ..))
          have : y.toNat ≠ 48 := by
            intro e1
            apply hh
            have : y = 48 := UInt8.toNat.inj e1
            simp [this]
          omega
      have ih := dec_val n x hlen hx0 hall (fun hc => hh hc.2)
      rw [e, val_snoc, decDigits, dif_neg (by omega)]
      rw [show (10 * val x + (c.toNat - 48)) / 10 = val x by omega, show (10 * val x + (c.toNat - 48)) % 10 = c.toNat - 48 by omega, ih, hof]

/-- What is taken: the text, the rest, the code (9: short, 3: form, 2: long, 0: none). -/
def takeS (l : List UInt8) : List UInt8 × List UInt8 × Nat :=
  if l = [] then ([], [], 9) else
  if (digs l).length = 0 then ([], [], 3) else
  if 9 < (digs l).length then ([], [], 2) else
  if l.length ≤ (digs l).length then ([], [], 9) else
  if l[(digs l).length]? ≠ some 58 then ([], [], 3) else
  if 1 < (digs l).length ∧ l[0]? = some 48 then ([], [], 3) else
  if l.length < (digs l).length + 1 + val (digs l) + 1 then ([], [], 9) else
  if l[(digs l).length + 1 + val (digs l)]? ≠ some 44 then ([], [], 3) else
  ((l.drop ((digs l).length + 1)).take (val (digs l)), l.drop ((digs l).length + 1 + val (digs l) + 1), 0)

theorem digs_dec (n : Nat) (r : List UInt8) : digs (decDigits n ++ 58 :: r) = decDigits n := by
  unfold digs
  rw [List.takeWhile_append_of_pos (dec_all n), List.takeWhile_cons_of_neg (by decide)]
  simp

theorem nDigits_le9 (n : Nat) (h : n < 1000000000) : nDigits n ≤ 9 := by
  rcases Nat.lt_or_ge 9 (nDigits n) with h' | h'
  · exfalso
    have key : ∀ k u : Nat, nDigits u = k + 1 → 1 ≤ k → 10 ^ k ≤ u := by
      intro k
      induction k with
      | zero => intro u _ h; omega
      | succ k ih =>
        intro u hu _
        by_cases h10 : u < 10
        · rw [nDigits_small h10] at hu; omega
        · rw [nDigits_big h10] at hu
          have : 10 ^ k ≤ u / 10 := by
            cases k with
            | zero => simp; omega
            | succ k => exact ih (u / 10) (by omega) (by omega)
          rw [Nat.pow_succ]; omega
    have h9 := key (nDigits n - 1) n (by omega) (by omega)
    have : (10:Nat) ^ 9 ≤ 10 ^ (nDigits n - 1) := Nat.pow_le_pow_right (by decide) (by omega)
    omega
  · exact h'

theorem take_put (s r : List UInt8) (h : s.length < 1000000000) : takeS (putS s ++ r) = (s, r, 0) := by
  have hd : digs (putS s ++ r) = decDigits s.length := by
    unfold putS; rw [List.append_assoc]; exact digs_dec _ _
  have hl9 : (decDigits s.length).length ≤ 9 := by rw [decDigits_length]; exact nDigits_le9 _ h
  have hl1 : 0 < (decDigits s.length).length := List.length_pos_iff.2 (dec_ne _)
  have hh : s.length = 0 ∨ (decDigits s.length)[0]? ≠ some 48 := by
    rcases Nat.eq_zero_or_pos s.length with h0 | h0
    · exact .inl h0
    · exact .inr (dec_head _ h0)
  have h1 : s.length = 0 → (decDigits s.length).length = 1 := by intro e; rw [e, decDigits_length, nDigits_small (by decide)]
  unfold takeS
  rw [hd, val_dec]
  generalize hD : decDigits s.length = D at *
  have hp : putS s ++ r = D ++ (58 :: (s ++ (44 :: r))) := by unfold putS; rw [hD]; simp
  rw [hp]
  have n0 : D ++ (58 :: (s ++ (44 :: r))) ≠ [] := by simp
  have e44 : (D ++ (58 :: (s ++ (44 :: r))))[D.length + 1 + s.length]? = some 44 := by
    rw [List.getElem?_append_right (by omega), show D.length + 1 + s.length - D.length = s.length + 1 by omega]
    simp
  have e0 : (D ++ (58 :: (s ++ (44 :: r))))[0]? = D[0]? := List.getElem?_append_left hl1
  have hlen : (D ++ (58 :: (s ++ (44 :: r)))).length = D.length + (s.length + (r.length + 1) + 1) := by simp
  rw [if_neg n0, if_neg (by omega), if_neg (by omega), if_neg (by rw [hlen]; omega), if_neg (by simp), if_neg ?_, if_neg (by rw [hlen]; omega), if_neg (by simp [e44])]
  · have d1 : (D ++ (58 :: (s ++ (44 :: r)))).drop (D.length + 1) = s ++ (44 :: r) := by
      rw [← List.drop_drop, List.drop_left]; rfl
    have d2 : (D ++ (58 :: (s ++ (44 :: r)))).drop (D.length + 1 + s.length + 1) = r := by
      rw [show D.length + 1 + s.length + 1 = (D.length + 1) + (s.length + 1) by omega, ← List.drop_drop, d1, ← List.drop_drop, List.drop_left]; rfl
    rw [d1, d2, List.take_left]
  · rw [e0]
    intro ⟨a, b⟩
    rcases hh with h0 | h0
    · have := h1 h0; omega
    · exact h0 b

/-- What is taken of bytes is put as just these; otherwise nothing is told. -/
theorem put_take (l : List UInt8) : ((takeS l).2.2 = 0 ∧ putS (takeS l).1 ++ (takeS l).2.1 = l ∧ (takeS l).2.1.length < l.length) ∨ ((takeS l).2.2 ≠ 0 ∧ (takeS l).1 = [] ∧ (takeS l).2.1 = []) := by
  unfold takeS
  by_cases c1 : l = []
  · rw [if_pos c1]; exact .inr ⟨by decide, rfl, rfl⟩
  rw [if_neg c1]
  by_cases c2 : (digs l).length = 0
  · rw [if_pos c2]; exact .inr ⟨by decide, rfl, rfl⟩
  rw [if_neg c2]
  by_cases c3 : 9 < (digs l).length
  · rw [if_pos c3]; exact .inr ⟨by decide, rfl, rfl⟩
  rw [if_neg c3]
  by_cases c4 : l.length ≤ (digs l).length
  · rw [if_pos c4]; exact .inr ⟨by decide, rfl, rfl⟩
  rw [if_neg c4]
  by_cases c5 : l[(digs l).length]? ≠ some 58
  · rw [if_pos c5]; exact .inr ⟨by decide, rfl, rfl⟩
  rw [if_neg c5]
  by_cases c6 : 1 < (digs l).length ∧ l[0]? = some 48
  · rw [if_pos c6]; exact .inr ⟨by decide, rfl, rfl⟩
  rw [if_neg c6]
  by_cases c7 : l.length < (digs l).length + 1 + val (digs l) + 1
  · rw [if_pos c7]; exact .inr ⟨by decide, rfl, rfl⟩
  rw [if_neg c7]
  by_cases c8 : l[(digs l).length + 1 + val (digs l)]? ≠ some 44
  · rw [if_pos c8]; exact .inr ⟨by decide, rfl, rfl⟩
  rw [if_neg c8]
  refine .inl ⟨rfl, ?_, ?_⟩
  · show putS ((l.drop ((digs l).length + 1)).take (val (digs l))) ++ l.drop ((digs l).length + 1 + val (digs l) + 1) = l
    have hne : digs l ≠ [] := by intro e; rw [e] at c2; exact c2 rfl
    have e0 : l[0]? = (digs l)[0]? := by
      rw [← digs_take l]
      rw [List.getElem?_take, if_pos (by omega)]
    have hdv := dec_val _ (digs l) rfl hne (digs_all l) (by rw [← e0]; exact c6)
    have hlen : ((l.drop ((digs l).length + 1)).take (val (digs l))).length = val (digs l) := by simp; omega
    unfold putS
    rw [hlen, hdv]
    have c5' : l[(digs l).length]? = some 58 := by simpa using c5
    have c8' : l[(digs l).length + 1 + val (digs l)]? = some 44 := by simpa using c8
    obtain ⟨h5, e5⟩ := List.getElem?_eq_some_iff.1 c5'
    obtain ⟨h8, e8⟩ := List.getElem?_eq_some_iff.1 c8'
    have s1 : l = digs l ++ (58 :: l.drop ((digs l).length + 1)) := by
      conv => lhs; rw [← List.take_append_drop (digs l).length l, digs_take l, List.drop_eq_getElem_cons h5, e5]
    have s2 : l.drop ((digs l).length + 1) = (l.drop ((digs l).length + 1)).take (val (digs l)) ++ (44 :: l.drop ((digs l).length + 1 + val (digs l) + 1)) := by
      conv => lhs; rw [← List.take_append_drop (val (digs l)) (l.drop ((digs l).length + 1)), List.drop_drop, List.drop_eq_getElem_cons h8, e8]
    conv => rhs; rw [s1, s2]
    simp
  · show (l.drop ((digs l).length + 1 + val (digs l) + 1)).length < l.length
    simp; omega

def rowS (ls : List (List UInt8)) : List UInt8 := (ls.map putS).flatten

def textsF : Nat → List UInt8 → List (List UInt8) × Nat
  | 0, _ => ([], 0)
  | f + 1, l => if l = [] then ([], 0) else if (takeS l).2.2 ≠ 0 then ([], (takeS l).2.2) else if (textsF f (takeS l).2.1).2 ≠ 0 then ([], (textsF f (takeS l).2.1).2) else ((takeS l).1 :: (textsF f (takeS l).2.1).1, 0)
def textsS (l : List UInt8) : List (List UInt8) × Nat := textsF l.length l

theorem textsF_fuel : ∀ (f g : Nat) (l : List UInt8), l.length ≤ f → l.length ≤ g → textsF f l = textsF g l
  | 0, 0, _, _, _ => rfl
  | 0, g + 1, l, h, _ => by
    have : l = [] := List.length_eq_zero_iff.1 (by omega)
    subst this; simp [textsF]
  | f + 1, 0, l, _, h => by
    have : l = [] := List.length_eq_zero_iff.1 (by omega)
    subst this; simp [textsF]
  | f + 1, g + 1, l, h1, h2 => by
    unfold textsF
    by_cases c : (takeS l).2.2 = 0
    · rcases put_take l with ⟨_, _, h⟩ | ⟨h, _⟩
      · rw [textsF_fuel f g (takeS l).2.1 (by omega) (by omega)]
      · exact absurd c h
    · rw [if_pos c, if_pos c]

theorem texts_nil : textsS [] = ([], 0) := rfl
theorem texts_step (l : List UInt8) (h : l ≠ []) : textsS l = if (takeS l).2.2 ≠ 0 then ([], (takeS l).2.2) else if (textsS (takeS l).2.1).2 ≠ 0 then ([], (textsS (takeS l).2.1).2) else ((takeS l).1 :: (textsS (takeS l).2.1).1, 0) := by
  have hl : 0 < l.length := List.length_pos_iff.2 h
  have e : textsS l = textsF ((l.length - 1) + 1) l := by unfold textsS; rw [Nat.sub_add_cancel hl]
  rw [e]
  unfold textsF
  rw [if_neg h]
  by_cases c : (takeS l).2.2 = 0
  · rcases put_take l with ⟨_, _, h'⟩ | ⟨h', _⟩
    · unfold textsS
      rw [textsF_fuel (l.length - 1) (takeS l).2.1.length (takeS l).2.1 (by omega) (Nat.le_refl _)]
    · exact absurd c h'
  · rw [if_pos c, if_pos c]

theorem put_ne (s r : List UInt8) : putS s ++ r ≠ [] := by unfold putS; simp
theorem texts_row : ∀ (ls : List (List UInt8)), (∀ s ∈ ls, s.length < 1000000000) → textsS (rowS ls) = (ls, 0)
  | [], _ => rfl
  | s :: ls, h => by
    have e : rowS (s :: ls) = putS s ++ rowS ls := by simp [rowS]
    rw [e, texts_step _ (put_ne _ _), take_put s _ (h s (List.mem_cons_self ..)), texts_row ls (fun x hx => h x (List.mem_cons_of_mem _ hx))]
    simp

theorem row_texts : ∀ (n : Nat) (l : List UInt8), l.length ≤ n → (textsS l).2 = 0 → rowS (textsS l).1 = l
  | 0, l, h, _ => by
    have : l = [] := List.length_eq_zero_iff.1 (by omega)
    subst this; rfl
  | n + 1, l, h, h0 => by
    by_cases c : l = []
    · subst c; rfl
    · rw [texts_step l c] at h0 ⊢
      by_cases c1 : (takeS l).2.2 = 0
      · rcases put_take l with ⟨_, hp, h'⟩ | ⟨h', _⟩
        · rw [if_neg (by simpa using c1)] at h0 ⊢
          by_cases c2 : (textsS (takeS l).2.1).2 = 0
          · rw [if_neg (by simpa using c2)]
            have ih := row_texts n (takeS l).2.1 (by omega) c2
            have e : rowS ((takeS l).1 :: (textsS (takeS l).2.1).1) = putS (takeS l).1 ++ rowS (textsS (takeS l).2.1).1 := by simp [rowS]
            rw [e, ih, hp]
          · rw [if_pos c2] at h0
            exact absurd h0 c2
        · exact absurd c1 h'
      · rw [if_pos c1] at h0
        exact absurd h0 c1

theorem texts_bad : ∀ (n : Nat) (l : List UInt8), l.length ≤ n → (textsS l).2 ≠ 0 → (textsS l).1 = []
  | 0, l, h, _ => by
    have : l = [] := List.length_eq_zero_iff.1 (by omega)
    subst this; rfl
  | n + 1, l, h, h0 => by
    by_cases c : l = []
    · subst c; rfl
    · rw [texts_step l c] at h0 ⊢
      by_cases c1 : (takeS l).2.2 = 0
      · rw [if_neg (by simpa using c1)] at h0 ⊢
        by_cases c2 : (textsS (takeS l).2.1).2 = 0
        · rw [if_neg (by simpa using c2)] at h0
          exact absurd rfl h0
        · rw [if_pos c2]
      · rw [if_pos c1]

theorem row_inj (a b : List (List UInt8)) (ha : ∀ s ∈ a, s.length < 1000000000) (hb : ∀ s ∈ b, s.length < 1000000000) (h : rowS a = rowS b) : a = b := by
  have h1 := texts_row a ha
  have h2 := texts_row b hb
  rw [h, h2] at h1
  exact (Prod.mk.inj h1).1.symm
end Go.Proofs.YtkbeppmjdjddhaaDoor.Nets
