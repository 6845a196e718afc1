/-
  What the walks of nets rest on, and the walks: numbers in decimals, rows of texts, their parts.
-/
import Derived.Lib.ItoaNum
import Derived.Test.YtghpohiinnallaaGreatDoorProg
import Derived.WalkKit
import Derived.WalkSpells
import Derived.WalkLawsBesides
import Derived.Lib.Hide
import Derived.Lib.Strings
import Derived.Lib.IndexBytes
import Derived.WalkSmall
import Derived.ShutString
import Derived.RegionTactic
import Derived.Deep.QuietTactic
import Derived.BigQuiet
import Derived.Laws.IdiomStrings
import Derived.Laws.BytesArg
import Derived.Deep.RegionWith
import Derived.Shelf.Strings.Builder1
import Derived.Shelf.Strings.BuilderF
import Derived.Shelf.Strings.BuilderK
import Derived.Shelf.Strconv.Itoa0
import Derived.Shelf.Strconv.Itoa1
import Derived.Shelf.LaysM
import Derived.Shelf.Strconv.Itoa2
import Derived.Shelf.Strconv.Itoa3
import Derived.Ground.SlgmProg
import Derived.Lib.Walk
import Derived.Lib.Builder
import Derived.Lib.AppendStr
import Derived.Lib.OthersKept
import Derived.Laws.Externs
import Derived.Lib.AppendIntMem
import Derived.Lib.LaidTab

/-
  Plain facts on lists of bytes: what a net is, what is taken of bytes, rows and their texts; that taking undoes putting and the other way round. No program is named here.
-/
namespace Go.Proofs.YtghpohiinnallaaGreatDoor.Nets
open Go.Lib

def isD (c : UInt8) : Bool := decide (48 ≤ c.toNat) && decide (c.toNat ≤ 57)
def digs (l : List UInt8) : List UInt8 := l.takeWhile isD
def val (l : List UInt8) : Nat := l.foldl (fun n c => 10 * n + (c.toNat - 48)) 0
def putS (l : List UInt8) : List UInt8 := decDigits l.length ++ (58 :: (l ++ [44]))

theorem tw_step (p : UInt8 → Bool) : ∀ (l : List UInt8) (k : Nat), k ≤ (l.takeWhile p).length → (h : k < l.length) → p l[k] = true → k + 1 ≤ (l.takeWhile p).length
  | [], _, _, h, _ => by simp at h
  | a :: t, k, hk, h, hp => by
    by_cases ha : p a = true
    · rw [List.takeWhile_cons_of_pos ha] at hk ⊢
      cases k with
      | zero => simp
      | succ k =>
        have := tw_step p t k (by simpa using hk) (by simpa using h) (by simpa using hp)
        simpa using this
    · rw [List.takeWhile_cons_of_neg ha] at hk
      have : k = 0 := by simpa using hk
      subst this
      exact absurd (by simpa using hp) ha

theorem tw_lt (p : UInt8 → Bool) : ∀ (l : List UInt8) (k : Nat), k < (l.takeWhile p).length → ∃ h : k < l.length, p l[k] = true
  | [], _, h => by simp at h
  | a :: t, k, hk => by
    by_cases ha : p a = true
    · rw [List.takeWhile_cons_of_pos ha] at hk
      cases k with
      | zero => exact ⟨by simp, by simpa using ha⟩
      | succ k =>
        obtain ⟨h, hp⟩ := tw_lt p t k (by simpa using hk)
        exact ⟨by simpa using h, by simpa using hp⟩
    · rw [List.takeWhile_cons_of_neg ha] at hk
      simp at hk

theorem tw_stop (p : UInt8 → Bool) (l : List UInt8) (k : Nat) (hk : k ≤ (l.takeWhile p).length) (h : k < l.length) (hp : p l[k] = false) : (l.takeWhile p).length = k := by
  rcases Nat.lt_or_ge k (l.takeWhile p).length with h' | h'
  · obtain ⟨_, hq⟩ := tw_lt p l k h'
    rw [hp] at hq
    cases hq
  · omega

theorem tw_le (p : UInt8 → Bool) (l : List UInt8) : (l.takeWhile p).length ≤ l.length := (List.takeWhile_sublist p).length_le

theorem tw_take (p : UInt8 → Bool) : ∀ (l : List UInt8), l.take (l.takeWhile p).length = l.takeWhile p
  | [] => rfl
  | a :: t => by
    by_cases ha : p a = true
    · rw [List.takeWhile_cons_of_pos ha]; simp [tw_take p t]
    · rw [List.takeWhile_cons_of_neg ha]; rfl

theorem digs_step (l : List UInt8) (k : Nat) (hk : k ≤ (digs l).length) (h : k < l.length) (hp : isD l[k] = true) : k + 1 ≤ (digs l).length := tw_step isD l k hk h hp
theorem digs_stop (l : List UInt8) (k : Nat) (hk : k ≤ (digs l).length) (h : k < l.length) (hp : isD l[k] = false) : (digs l).length = k := tw_stop isD l k hk h hp
theorem digs_lt (l : List UInt8) (k : Nat) (hk : k < (digs l).length) : ∃ h : k < l.length, isD l[k] = true := tw_lt isD l k hk
theorem digs_le (l : List UInt8) : (digs l).length ≤ l.length := tw_le isD l
theorem digs_take (l : List UInt8) : l.take (digs l).length = digs l := tw_take isD l
theorem digs_all (l : List UInt8) : ∀ c ∈ digs l, isD c = true := by
  intro c hc
  exact List.all_eq_true.1 List.all_takeWhile c hc

theorem isD_bounds {c : UInt8} (h : isD c = true) : 48 ≤ c.toNat ∧ c.toNat ≤ 57 := by
  unfold isD at h
  simpa using h
theorem isD_of {c : UInt8} (h1 : 48 ≤ c.toNat) (h2 : c.toNat ≤ 57) : isD c = true := by
  unfold isD; simp [h1, h2]
theorem isD_not {c : UInt8} (h : c.toNat < 48 ∨ 57 < c.toNat) : isD c = false := by
  rcases h with h | h
  · unfold isD; simp; omega
  · unfold isD; simp; omega

theorem val_snoc (l : List UInt8) (c : UInt8) : val (l ++ [c]) = 10 * val l + (c.toNat - 48) := by
  unfold val; simp [List.foldl_append]

theorem foldl_ge : ∀ (l : List UInt8) (n : Nat), n ≤ l.foldl (fun n c => 10 * n + (c.toNat - 48)) n
  | [], n => Nat.le_refl n
  | c :: l, n => by
    have := foldl_ge l (10 * n + (c.toNat - 48))
    simp only [List.foldl_cons]
    omega

theorem val_cons_ge (c : UInt8) (l : List UInt8) : c.toNat - 48 ≤ val (c :: l) := by
  have := foldl_ge l (10 * 0 + (c.toNat - 48))
  unfold val
  simp only [List.foldl_cons]
  omega

/-- A number of at most nine digits. -/
theorem val_lt : ∀ (n : Nat) (l : List UInt8), l.length = n → (∀ c ∈ l, isD c = true) → val l < 10 ^ n
  | 0, l, h, _ => by
    have : l = [] := List.length_eq_zero_iff.1 h
    subst this; simp [val]
  | n + 1, l, h, hd => by
    have hne : l ≠ [] := by intro e; subst e; simp at h
    have e := (List.dropLast_concat_getLast hne).symm
    rw [e, val_snoc]
    have h1 := val_lt n l.dropLast (by simp [h]) (fun c hc => hd c (List.dropLast_subset l hc))
    have h2 := isD_bounds (hd _ (List.getLast_mem hne))
    rw [Nat.pow_succ]
    omega

theorem dec_ne (n : Nat) : decDigits n ≠ [] := by
  rw [decDigits]; split <;> simp

theorem ofNat_toNat48 (k : Nat) (h : k < 10) : (UInt8.ofNat (48 + k)).toNat = 48 + k := by
  simp; omega

theorem dec_all (n : Nat) : ∀ c ∈ decDigits n, isD c = true := by
  induction n using Nat.strongRecOn with
  | _ n ih =>
    intro c hc
    rw [decDigits] at hc
    by_cases h : n < 10
    · rw [dif_pos h] at hc
      simp only [List.mem_singleton] at hc
      subst hc
      exact isD_of (by rw [ofNat_toNat48 n h]; omega) (by rw [ofNat_toNat48 n h]; omega)
    · rw [dif_neg h] at hc
      rcases List.mem_append.1 hc with hc | hc
      · exact ih (n / 10) (by omega) c hc
      · simp only [List.mem_singleton] at hc
        subst hc
        exact isD_of (by rw [ofNat_toNat48 _ (by omega)]; omega) (by rw [ofNat_toNat48 _ (by omega)]; omega)

theorem val_dec (n : Nat) : val (decDigits n) = n := by
  induction n using Nat.strongRecOn with
  | _ n ih =>
    rw [decDigits]
    by_cases h : n < 10
    · rw [dif_pos h]
      unfold val
      simp only [List.foldl_cons, List.foldl_nil]
      rw [ofNat_toNat48 n h]; omega
    · rw [dif_neg h, val_snoc, ih (n / 10) (by omega), ofNat_toNat48 _ (by omega)]
      omega

theorem dec_head (n : Nat) (hn : 1 ≤ n) : (decDigits n)[0]? ≠ some 48 := by
  induction n using Nat.strongRecOn with
  | _ n ih =>
    rw [decDigits]
    by_cases h : n < 10
    · rw [dif_pos h]
      intro e
      have e1 : UInt8.ofNat (48 + n) = 48 := by simpa using e
      have e2 := congrArg UInt8.toNat e1
      rw [ofNat_toNat48 n h] at e2
      have : (48 : UInt8).toNat = 48 := rfl
      omega
    · rw [dif_neg h]
      have h1 := ih (n / 10) (by omega) (by omega)
      have h2 : 0 < (decDigits (n / 10)).length := List.length_pos_iff.2 (dec_ne _)
      rw [List.getElem?_append_left h2]
      exact h1

theorem dec_val : ∀ (n : Nat) (d : List UInt8), d.length = n → d ≠ [] → (∀ c ∈ d, isD c = true) → ¬ (1 < d.length ∧ d[0]? = some 48) → decDigits (val d) = d
  | 0, d, h, hne, _, _ => absurd (List.length_eq_zero_iff.1 h) hne
  | n + 1, d, h, hne, hd, hz => by
    have e := (List.dropLast_concat_getLast hne).symm
    have hb := isD_bounds (hd _ (List.getLast_mem hne))
    have hlen : d.dropLast.length = n := by simp [h]
    generalize hx : d.dropLast = x at *
    generalize hc : d.getLast hne = c at *
    have hof : UInt8.ofNat (48 + (c.toNat - 48)) = c := by
      rw [show 48 + (c.toNat - 48) = c.toNat by omega]; simp
    by_cases hx0 : x = []
    · subst hx0
      rw [e]
      have hv : val ([] ++ [c]) = c.toNat - 48 := by simp [val]
      rw [hv, decDigits_one (by omega), hof]
      rfl
    · have hxl : 0 < x.length := List.length_pos_iff.2 hx0
      have hall : ∀ y ∈ x, isD y = true := fun y hy => hd y (by rw [e]; exact List.mem_append_left _ hy)
      have hz0 : d[0]? = x[0]? := by rw [e, List.getElem?_append_left hxl]
      have hh : x[0]? ≠ some 48 := by
        intro e0
        exact hz ⟨by omega, by rw [hz0]; exact e0⟩
      have hv1 : 1 ≤ val x := by
        match x, hx0, hh, hall with
        | y :: t, _, hh, hall =>
          have := val_cons_ge y t
          have hy := isD_bounds (hall y (List.mem_cons_self ..))
          have : y.toNat ≠ 48 := by
            intro e1
            apply hh
            have : y = 48 := UInt8.toNat.inj e1
            simp [this]
          omega
      have ih := dec_val n x hlen hx0 hall (fun hc => hh hc.2)
      rw [e, val_snoc, decDigits, dif_neg (by omega)]
      rw [show (10 * val x + (c.toNat - 48)) / 10 = val x by omega, show (10 * val x + (c.toNat - 48)) % 10 = c.toNat - 48 by omega, ih, hof]

/-- What is taken: the text, the rest, the code (9: short, 3: form, 2: long, 0: none). -/
def takeS (l : List UInt8) : List UInt8 × List UInt8 × Nat :=
  if l = [] then ([], [], 9) else
  if (digs l).length = 0 then ([], [], 3) else
  if 9 < (digs l).length then ([], [], 2) else
  if l.length ≤ (digs l).length then ([], [], 9) else
  if l[(digs l).length]? ≠ some 58 then ([], [], 3) else
  if 1 < (digs l).length ∧ l[0]? = some 48 then ([], [], 3) else
  if l.length < (digs l).length + 1 + val (digs l) + 1 then ([], [], 9) else
  if l[(digs l).length + 1 + val (digs l)]? ≠ some 44 then ([], [], 3) else
  ((l.drop ((digs l).length + 1)).take (val (digs l)), l.drop ((digs l).length + 1 + val (digs l) + 1), 0)

theorem digs_dec (n : Nat) (r : List UInt8) : digs (decDigits n ++ 58 :: r) = decDigits n := by
  unfold digs
  rw [List.takeWhile_append_of_pos (dec_all n), List.takeWhile_cons_of_neg (by decide)]
  simp

theorem nDigits_le9 (n : Nat) (h : n < 1000000000) : nDigits n ≤ 9 := by
  rcases Nat.lt_or_ge 9 (nDigits n) with h' | h'
  · exfalso
    have key : ∀ k u : Nat, nDigits u = k + 1 → 1 ≤ k → 10 ^ k ≤ u := by
      intro k
      induction k with
      | zero => intro u _ h; omega
      | succ k ih =>
        intro u hu _
        by_cases h10 : u < 10
        · rw [nDigits_small h10] at hu; omega
        · rw [nDigits_big h10] at hu
          have : 10 ^ k ≤ u / 10 := by
            cases k with
            | zero => simp; omega
            | succ k => exact ih (u / 10) (by omega) (by omega)
          rw [Nat.pow_succ]; omega
    have h9 := key (nDigits n - 1) n (by omega) (by omega)
    have : (10:Nat) ^ 9 ≤ 10 ^ (nDigits n - 1) := Nat.pow_le_pow_right (by decide) (by omega)
    omega
  · exact h'

theorem take_put (s r : List UInt8) (h : s.length < 1000000000) : takeS (putS s ++ r) = (s, r, 0) := by
  have hd : digs (putS s ++ r) = decDigits s.length := by
    unfold putS; rw [List.append_assoc]; exact digs_dec _ _
  have hl9 : (decDigits s.length).length ≤ 9 := by rw [decDigits_length]; exact nDigits_le9 _ h
  have hl1 : 0 < (decDigits s.length).length := List.length_pos_iff.2 (dec_ne _)
  have hh : s.length = 0 ∨ (decDigits s.length)[0]? ≠ some 48 := by
    rcases Nat.eq_zero_or_pos s.length with h0 | h0
    · exact .inl h0
    · exact .inr (dec_head _ h0)
  have h1 : s.length = 0 → (decDigits s.length).length = 1 := by intro e; rw [e, decDigits_length, nDigits_small (by decide)]
  unfold takeS
  rw [hd, val_dec]
  generalize hD : decDigits s.length = D at *
  have hp : putS s ++ r = D ++ (58 :: (s ++ (44 :: r))) := by unfold putS; rw [hD]; simp
  rw [hp]
  have n0 : D ++ (58 :: (s ++ (44 :: r))) ≠ [] := by simp
  have e44 : (D ++ (58 :: (s ++ (44 :: r))))[D.length + 1 + s.length]? = some 44 := by
    rw [List.getElem?_append_right (by omega), show D.length + 1 + s.length - D.length = s.length + 1 by omega]
    simp
  have e0 : (D ++ (58 :: (s ++ (44 :: r))))[0]? = D[0]? := List.getElem?_append_left hl1
  have hlen : (D ++ (58 :: (s ++ (44 :: r)))).length = D.length + (s.length + (r.length + 1) + 1) := by simp
  rw [if_neg n0, if_neg (by omega), if_neg (by omega), if_neg (by rw [hlen]; omega), if_neg (by simp), if_neg ?_, if_neg (by rw [hlen]; omega), if_neg (by simp [e44])]
  · have d1 : (D ++ (58 :: (s ++ (44 :: r)))).drop (D.length + 1) = s ++ (44 :: r) := by
      rw [← List.drop_drop, List.drop_left]; rfl
    have d2 : (D ++ (58 :: (s ++ (44 :: r)))).drop (D.length + 1 + s.length + 1) = r := by
      rw [show D.length + 1 + s.length + 1 = (D.length + 1) + (s.length + 1) by omega, ← List.drop_drop, d1, ← List.drop_drop, List.drop_left]; rfl
    rw [d1, d2, List.take_left]
  · rw [e0]
    intro ⟨a, b⟩
    rcases hh with h0 | h0
    · have := h1 h0; omega
    · exact h0 b

/-- What is taken of bytes is put as just these; otherwise nothing is told. -/
theorem put_take (l : List UInt8) : ((takeS l).2.2 = 0 ∧ putS (takeS l).1 ++ (takeS l).2.1 = l ∧ (takeS l).2.1.length < l.length) ∨ ((takeS l).2.2 ≠ 0 ∧ (takeS l).1 = [] ∧ (takeS l).2.1 = []) := by
  unfold takeS
  by_cases c1 : l = []
  · rw [if_pos c1]; exact .inr ⟨by decide, rfl, rfl⟩
  rw [if_neg c1]
  by_cases c2 : (digs l).length = 0
  · rw [if_pos c2]; exact .inr ⟨by decide, rfl, rfl⟩
  rw [if_neg c2]
  by_cases c3 : 9 < (digs l).length
  · rw [if_pos c3]; exact .inr ⟨by decide, rfl, rfl⟩
  rw [if_neg c3]
  by_cases c4 : l.length ≤ (digs l).length
  · rw [if_pos c4]; exact .inr ⟨by decide, rfl, rfl⟩
  rw [if_neg c4]
  by_cases c5 : l[(digs l).length]? ≠ some 58
  · rw [if_pos c5]; exact .inr ⟨by decide, rfl, rfl⟩
  rw [if_neg c5]
  by_cases c6 : 1 < (digs l).length ∧ l[0]? = some 48
  · rw [if_pos c6]; exact .inr ⟨by decide, rfl, rfl⟩
  rw [if_neg c6]
  by_cases c7 : l.length < (digs l).length + 1 + val (digs l) + 1
  · rw [if_pos c7]; exact .inr ⟨by decide, rfl, rfl⟩
  rw [if_neg c7]
  by_cases c8 : l[(digs l).length + 1 + val (digs l)]? ≠ some 44
  · rw [if_pos c8]; exact .inr ⟨by decide, rfl, rfl⟩
  rw [if_neg c8]
  refine .inl ⟨rfl, ?_, ?_⟩
  · show putS ((l.drop ((digs l).length + 1)).take (val (digs l))) ++ l.drop ((digs l).length + 1 + val (digs l) + 1) = l
    have hne : digs l ≠ [] := by intro e; rw [e] at c2; exact c2 rfl
    have e0 : l[0]? = (digs l)[0]? := by
      rw [← digs_take l]
      rw [List.getElem?_take, if_pos (by omega)]
    have hdv := dec_val _ (digs l) rfl hne (digs_all l) (by rw [← e0]; exact c6)
    have hlen : ((l.drop ((digs l).length + 1)).take (val (digs l))).length = val (digs l) := by simp; omega
    unfold putS
    rw [hlen, hdv]
    have c5' : l[(digs l).length]? = some 58 := by simpa using c5
    have c8' : l[(digs l).length + 1 + val (digs l)]? = some 44 := by simpa using c8
    obtain ⟨h5, e5⟩ := List.getElem?_eq_some_iff.1 c5'
    obtain ⟨h8, e8⟩ := List.getElem?_eq_some_iff.1 c8'
    have s1 : l = digs l ++ (58 :: l.drop ((digs l).length + 1)) := by
      conv => lhs; rw [← List.take_append_drop (digs l).length l, digs_take l, List.drop_eq_getElem_cons h5, e5]
    have s2 : l.drop ((digs l).length + 1) = (l.drop ((digs l).length + 1)).take (val (digs l)) ++ (44 :: l.drop ((digs l).length + 1 + val (digs l) + 1)) := by
      conv => lhs; rw [← List.take_append_drop (val (digs l)) (l.drop ((digs l).length + 1)), List.drop_drop, List.drop_eq_getElem_cons h8, e8]
    conv => rhs; rw [s1, s2]
    simp
  · show (l.drop ((digs l).length + 1 + val (digs l) + 1)).length < l.length
    simp; omega

def rowS (ls : List (List UInt8)) : List UInt8 := (ls.map putS).flatten

def textsF : Nat → List UInt8 → List (List UInt8) × Nat
  | 0, _ => ([], 0)
  | f + 1, l => if l = [] then ([], 0) else if (takeS l).2.2 ≠ 0 then ([], (takeS l).2.2) else if (textsF f (takeS l).2.1).2 ≠ 0 then ([], (textsF f (takeS l).2.1).2) else ((takeS l).1 :: (textsF f (takeS l).2.1).1, 0)
def textsS (l : List UInt8) : List (List UInt8) × Nat := textsF l.length l

theorem textsF_fuel : ∀ (f g : Nat) (l : List UInt8), l.length ≤ f → l.length ≤ g → textsF f l = textsF g l
  | 0, 0, _, _, _ => rfl
  | 0, g + 1, l, h, _ => by
    have : l = [] := List.length_eq_zero_iff.1 (by omega)
    subst this; simp [textsF]
  | f + 1, 0, l, _, h => by
    have : l = [] := List.length_eq_zero_iff.1 (by omega)
    subst this; simp [textsF]
  | f + 1, g + 1, l, h1, h2 => by
    unfold textsF
    by_cases c : (takeS l).2.2 = 0
    · rcases put_take l with ⟨_, _, h⟩ | ⟨h, _⟩
      · rw [textsF_fuel f g (takeS l).2.1 (by omega) (by omega)]
      · exact absurd c h
    · rw [if_pos c, if_pos c]

theorem texts_nil : textsS [] = ([], 0) := rfl
theorem texts_step (l : List UInt8) (h : l ≠ []) : textsS l = if (takeS l).2.2 ≠ 0 then ([], (takeS l).2.2) else if (textsS (takeS l).2.1).2 ≠ 0 then ([], (textsS (takeS l).2.1).2) else ((takeS l).1 :: (textsS (takeS l).2.1).1, 0) := by
  have hl : 0 < l.length := List.length_pos_iff.2 h
  have e : textsS l = textsF ((l.length - 1) + 1) l := by unfold textsS; rw [Nat.sub_add_cancel hl]
  rw [e]
  unfold textsF
  rw [if_neg h]
  by_cases c : (takeS l).2.2 = 0
  · rcases put_take l with ⟨_, _, h'⟩ | ⟨h', _⟩
    · unfold textsS
      rw [textsF_fuel (l.length - 1) (takeS l).2.1.length (takeS l).2.1 (by omega) (Nat.le_refl _)]
    · exact absurd c h'
  · rw [if_pos c, if_pos c]

theorem put_ne (s r : List UInt8) : putS s ++ r ≠ [] := by unfold putS; simp
theorem texts_row : ∀ (ls : List (List UInt8)), (∀ s ∈ ls, s.length < 1000000000) → textsS (rowS ls) = (ls, 0)
  | [], _ => rfl
  | s :: ls, h => by
    have e : rowS (s :: ls) = putS s ++ rowS ls := by simp [rowS]
    rw [e, texts_step _ (put_ne _ _), take_put s _ (h s (List.mem_cons_self ..)), texts_row ls (fun x hx => h x (List.mem_cons_of_mem _ hx))]
    simp

theorem row_texts : ∀ (n : Nat) (l : List UInt8), l.length ≤ n → (textsS l).2 = 0 → rowS (textsS l).1 = l
  | 0, l, h, _ => by
    have : l = [] := List.length_eq_zero_iff.1 (by omega)
    subst this; rfl
  | n + 1, l, h, h0 => by
    by_cases c : l = []
    · subst c; rfl
    · rw [texts_step l c] at h0 ⊢
      by_cases c1 : (takeS l).2.2 = 0
      · rcases put_take l with ⟨_, hp, h'⟩ | ⟨h', _⟩
        · rw [if_neg (by simpa using c1)] at h0 ⊢
          by_cases c2 : (textsS (takeS l).2.1).2 = 0
          · rw [if_neg (by simpa using c2)]
            have ih := row_texts n (takeS l).2.1 (by omega) c2
            have e : rowS ((takeS l).1 :: (textsS (takeS l).2.1).1) = putS (takeS l).1 ++ rowS (textsS (takeS l).2.1).1 := by simp [rowS]
            rw [e, ih, hp]
          · rw [if_pos c2] at h0
            exact absurd h0 c2
        · exact absurd c1 h'
      · rw [if_pos c1] at h0
        exact absurd h0 c1

theorem texts_bad : ∀ (n : Nat) (l : List UInt8), l.length ≤ n → (textsS l).2 ≠ 0 → (textsS l).1 = []
  | 0, l, h, _ => by
    have : l = [] := List.length_eq_zero_iff.1 (by omega)
    subst this; rfl
  | n + 1, l, h, h0 => by
    by_cases c : l = []
    · subst c; rfl
    · rw [texts_step l c] at h0 ⊢
      by_cases c1 : (takeS l).2.2 = 0
      · rw [if_neg (by simpa using c1)] at h0 ⊢
        by_cases c2 : (textsS (takeS l).2.1).2 = 0
        · rw [if_neg (by simpa using c2)] at h0
          exact absurd rfl h0
        · rw [if_pos c2]
      · rw [if_pos c1]

theorem row_inj (a b : List (List UInt8)) (ha : ∀ s ∈ a, s.length < 1000000000) (hb : ∀ s ∈ b, s.length < 1000000000) (h : rowS a = rowS b) : a = b := by
  have h1 := texts_row a ha
  have h2 := texts_row b hb
  rw [h, h2] at h1
  exact (Prod.mk.inj h1).1.symm
end Go.Proofs.YtghpohiinnallaaGreatDoor.Nets

/-
  What all texts on nets share: bytes as lists, strings as values.
-/
namespace Go.Proofs.YtghpohiinnallaaGreatDoor.Nets
open Go.RowKit

theorem ret_int {k : IntKind} {a b : Int} (h : a = b) : Ending.returned (.int k a) = .returned (.int k b) := by rw [h]
abbrev bl (s : ByteArray) : List UInt8 := s.data.toList
theorem bl_get (s : ByteArray) (k : Nat) (h : k < s.size) : (bl s)[k]'(by simpa using h) = s[k] := rfl
theorem take_snoc (s : ByteArray) (k : Nat) (h : k < s.size) : (bl s).take (k + 1) = (bl s).take k ++ [s[k]] := by
  rw [List.take_succ_eq_append_getElem (by simpa using h)]; rfl
theorem emp_true (s : ByteArray) (h : s.toList.isEmpty = true) : bl s = [] := by
  rw [Lib.toList_data] at h
  exact List.isEmpty_iff.1 h
theorem emp_of (s : ByteArray) (h : s.size = 0) : s.toList.isEmpty = true := by
  rw [Lib.toList_data, List.isEmpty_iff]
  exact List.length_eq_zero_iff.1 (by simpa using h)
theorem emp_not (s : ByteArray) (h : 0 < s.size) : s.toList.isEmpty = false := by
  rcases hb : s.toList.isEmpty with _ | _
  · rfl
  · have := emp_true s hb
    have e : (bl s).length = s.size := by simp
    rw [this] at e
    simp at e
    omega
theorem some_u8 (c k : UInt8) : (some c = some k) ↔ c.toNat = k.toNat := by
  constructor
  · intro h; rw [Option.some.inj h]
  · intro h; rw [UInt8.toNat.inj h]
theorem bl_get? (s : ByteArray) (k : Nat) (h : k < s.size) : (bl s)[k]? = some s[k] := by
  rw [List.getElem?_eq_getElem (by simpa using h)]; rfl
theorem bl_ne (s : ByteArray) (h : 0 < s.size) : bl s ≠ [] := by
  intro e
  have : (bl s).length = s.size := by simp
  rw [e] at this
  simp at this
  omega
abbrev str (l : List UInt8) : Value := .string ⟨l.toArray⟩
/-- A string's parts, as lists. -/
theorem str_extract (s : ByteArray) (a b : Nat) : Value.string (s.extract a b) = str (((bl s).drop a).take (b - a)) := by
  have h := Lib.extract_data s a b
  show _ = Value.string ⟨((s.data.toList.drop a).take (b - a)).toArray⟩
  rw [← h]
theorem str_of (x : ByteArray) (l : List UInt8) (h : bl x = l) : Value.string x = str l := by subst h; rfl
end Go.Proofs.YtghpohiinnallaaGreatDoor.Nets

/-
  What text begins with: nets.Take and what it calls, walked.
-/
namespace Go.Proofs.YtghpohiinnallaaGreatDoor.Nets
open Go.RowKit

def cd (l : List UInt8) : Nat := min (digs l).length 10

theorem cd_end (s : ByteArray) (k : Nat) (h10 : k ≤ 10) (hk : k ≤ (digs (bl s)).length) (h : ¬ (k < s.size ∧ k ≤ 9) ∨ ∃ h : k < s.size, isD s[k] = false) : k = cd (bl s) := by
  unfold cd
  rcases h with h | ⟨h, hd⟩
  · have := digs_le (bl s)
    have e : (bl s).length = s.size := by simp
    omega
  · have := digs_stop (bl s) k hk (by simpa using h) hd
    omega

set_option maxHeartbeats 400000 in
theorem count_any (s : ByteArray) (w : World) (_hs : s.size ≤ 100000) :
    Calls Tryz.prog 157 #[.string s] w fun e w' => e = .returned (.int .i64 (cd (bl s))) ∧ w = w' := by
  go_enter Tryz.func157, Tryz.ntmps157
  go_wp2
  go_loop [3] (fun n => ∃ k : Nat, k ≤ 10 ∧ k ≤ (digs (bl s)).length ∧ n = .int .i64 k) (fun n => 10 - (intOf n).toNat)
  case atStart => exact ⟨0, by omega, Nat.zero_le _, rfl⟩
  case round =>
    obtain ⟨k, hk, hkd, rfl⟩ := hrel
    by_cases hlt : k < s.size ∧ k ≤ 9
    · obtain ⟨h1, h2⟩ := hlt
      go_wp2
      · go_round
        case rel => exact ⟨k + 1, by omega, digs_step (bl s) k hkd (by simpa using h1) (isD_of (c := s[k]) (by omega) (by omega)), by go_num⟩
        case measure => simp [intOf]; omega
      · go_ret
        exact ⟨ret_int (congrArg _ (cd_end s k hk hkd (.inr ⟨h1, isD_not (.inr (by omega))⟩))), rfl⟩
      · go_ret
        exact ⟨ret_int (congrArg _ (cd_end s k hk hkd (.inr ⟨h1, isD_not (.inl (by omega))⟩))), rfl⟩
    · by_cases h1 : k < s.size
      all_goals
        go_wp2
        go_ret
        exact ⟨ret_int (congrArg _ (cd_end s k hk hkd (.inl hlt))), rfl⟩

set_option maxHeartbeats 400000 in
theorem number_any (s : ByteArray) (w : World) (hs : s.size ≤ 9) (hd : ∀ c ∈ bl s, isD c = true) :
    Calls Tryz.prog 159 #[.string s] w fun e w' => e = .returned (.int .i64 (val (bl s))) ∧ w = w' := by
  have hv : ∀ k, k ≤ s.size → val ((bl s).take k) < 1000000000 := by
    intro k hk
    have h1 := val_lt _ ((bl s).take k) rfl (fun c hc => hd c (List.mem_of_mem_take hc))
    have h2 : ((bl s).take k).length ≤ 9 := by simp; omega
    have h3 : (10:Nat) ^ ((bl s).take k).length ≤ 10 ^ 9 := Nat.pow_le_pow_right (by decide) h2
    omega
  have hdk : ∀ k (h : k < s.size), 48 ≤ s[k].toNat ∧ s[k].toNat ≤ 57 := fun k h => isD_bounds (hd _ (List.getElem_mem (l := bl s) (by simpa using h)))
  have HV := Lib.hid hv
  have HD := Lib.hid hdk
  clear hv hdk hd
  go_enter Tryz.func159, Tryz.ntmps159
  go_wp2
  go_loop [3, 4, 7] (fun n _ i => ∃ k : Nat, k ≤ s.size ∧ i = .int .i64 k ∧ n = .int .i64 (val ((bl s).take k))) (fun _ _ i => s.size - (intOf i).toNat)
  case atStart => exact ⟨0, Nat.zero_le _, rfl, rfl⟩
  case round =>
    obtain ⟨k, hk, rfl, rfl⟩ := hrel
    have h0 := HV.out k hk
    by_cases hlt : k < s.size
    · obtain ⟨h1, h2⟩ := HD.out k hlt
      have HS : Hid (val ((bl s).take (k + 1)) = 10 * val ((bl s).take k) + (s[k].toNat - 48)) := by
        show val ((bl s).take (k + 1)) = 10 * val ((bl s).take k) + (s[k].toNat - 48)
        rw [take_snoc s k hlt, val_snoc]
      go_wp2
      go_round
      case rel => exact ⟨k + 1, by omega, by go_num, by rw [HS.out]; go_num⟩
      case measure => simp [intOf]; omega
    · go_wp2
      go_ret
      exact ⟨ret_int (by rw [List.take_of_length_le (by simp; omega)]), rfl⟩

/-- The code of a length, of d digits, and its colon. -/
def chk (l : List UInt8) (d : Nat) : Nat :=
  if l = [] then 9 else if d = 0 then 3 else if 9 < d then 2 else if d = l.length then 9 else if l[d]? ≠ some 58 then 3 else if 1 < d ∧ l[0]? = some 48 then 3 else 0

theorem chk_of (s : ByteArray) (d : Nat) (h0 : 0 < s.size) (h : d < s.size) : chk (bl s) d = if d = 0 then 3 else if 9 < d then 2 else if s[d].toNat ≠ 58 then 3 else if 1 < d ∧ s[0].toNat = 48 then 3 else 0 := by
  unfold chk
  have e : (bl s).length = s.size := by simp
  rw [if_neg (bl_ne s h0), bl_get? s d h, bl_get? s 0 h0, e]
  have e1 : (some s[d] = some 58) ↔ s[d].toNat = 58 := some_u8 _ _
  have e2 : (some s[0] = some 48) ↔ s[0].toNat = 48 := some_u8 _ _
  have e3 : ¬ d = s.size := by omega
  simp only [e1, e2, e3, ne_eq, if_false]

set_option maxHeartbeats 400000 in
theorem check_any (s : ByteArray) (d : Nat) (w : World) (hs : s.size ≤ 100000) (hd : d ≤ s.size) :
    Calls Tryz.prog 158 #[.string s, .int .i64 d] w fun e w' => e = .returned (.int .i64 (chk (bl s) d)) ∧ w = w' := by
  by_cases h0 : s.size = 0
  · have hE := emp_of s h0
    have hn : chk (bl s) d = 9 := by unfold chk; rw [if_pos (emp_true s hE)]
    have HN := Lib.hid hn
    clear h0 hn
    go_enter Tryz.func158, Tryz.ntmps158
    go_wp2
    go_ret
    exact ⟨ret_int (by rw [HN.out]; rfl), rfl⟩
  · have hp : 0 < s.size := by omega
    have hE := emp_not s hp
    by_cases hds : d < s.size
    · have HN := Lib.hid (chk_of s d hp hds)
      go_enter Tryz.func158, Tryz.ntmps158
      go_wp2
      all_goals
        go_ret
        refine ⟨ret_int ?_, rfl⟩
        rw [HN.out]
        clear HN
        simp only [beq_iff_eq, beq_eq_false_iff_ne, bne_iff_ne, ne_eq, bne_eq_false_iff_eq] at *
        repeat' split
        all_goals omega
    · have hn : chk (bl s) d = if 9 < d then 2 else 9 := by
        unfold chk
        have e : (bl s).length = s.size := by simp
        rw [if_neg (bl_ne s hp), e, if_neg (by omega)]
        rw [if_pos (by omega : d = s.size)]
      have HN := Lib.hid hn
      have e1 : ((d : Int) == s.size) = true := by simp; omega
      have e2 : ((d : Int) == 0) = false := by simp; omega
      clear hn
      go_enter Tryz.func158, Tryz.ntmps158
      go_wp2
      all_goals
        go_ret
        refine ⟨ret_int ?_, rfl⟩
        rw [HN.out]
        clear HN
        split
        all_goals omega

abbrev tup (r : List UInt8 × List UInt8 × Nat) : Value := .tuple #[str r.1, str r.2.1, .int .i64 r.2.2]

theorem take_bad (l : List UInt8) (h : chk l (cd l) ≠ 0) : takeS l = ([], [], chk l (cd l)) := by
  unfold chk cd at h ⊢
  unfold takeS
  have hl := digs_le l
  by_cases c1 : l = []
  · rw [if_pos c1, if_pos c1]
  rw [if_neg c1] at h ⊢
  rw [if_neg c1]
  by_cases c2 : (digs l).length = 0
  · rw [if_pos c2, if_pos (by omega)]
  have m2 : ¬ min (digs l).length 10 = 0 := by omega
  rw [if_neg m2] at h ⊢
  rw [if_neg c2]
  by_cases c3 : 9 < (digs l).length
  · rw [if_pos c3, if_pos (by omega)]
  have m3 : ¬ 9 < min (digs l).length 10 := by omega
  have e : min (digs l).length 10 = (digs l).length := by omega
  rw [if_neg m3, e] at h
  rw [if_neg m3, e, if_neg c3]
  by_cases c4 : l.length ≤ (digs l).length
  · rw [if_pos c4, if_pos (by omega)]
  have m4 : ¬ (digs l).length = l.length := by omega
  rw [if_neg m4] at h ⊢
  rw [if_neg c4]
  by_cases c5 : l[(digs l).length]? ≠ some 58
  · rw [if_pos c5, if_pos c5]
  rw [if_neg c5] at h ⊢
  rw [if_neg c5]
  by_cases c6 : 1 < (digs l).length ∧ l[0]? = some 48
  · rw [if_pos c6, if_pos c6]
  rw [if_neg c6] at h
  exact absurd rfl h

theorem take_good (l : List UInt8) (h : chk l (cd l) = 0) : cd l = (digs l).length ∧ 1 ≤ (digs l).length ∧ (digs l).length ≤ 9 ∧ (digs l).length < l.length ∧
    takeS l = if l.length < (digs l).length + 1 + val (digs l) + 1 then ([], [], 9) else
      if l[(digs l).length + 1 + val (digs l)]? ≠ some 44 then ([], [], 3) else
      ((l.drop ((digs l).length + 1)).take (val (digs l)), l.drop ((digs l).length + 1 + val (digs l) + 1), 0) := by
  unfold chk cd at h
  unfold takeS cd
  have hl := digs_le l
  by_cases c1 : l = []
  · rw [if_pos c1] at h; cases h
  rw [if_neg c1] at h ⊢
  by_cases c2 : (digs l).length = 0
  · rw [if_pos (by omega)] at h; cases h
  rw [if_neg (by omega)] at h
  rw [if_neg c2]
  by_cases c3 : 9 < (digs l).length
  · rw [if_pos (by omega)] at h; cases h
  rw [if_neg (by omega)] at h
  rw [if_neg c3]
  have e : min (digs l).length 10 = (digs l).length := by omega
  rw [e] at h ⊢
  by_cases c4 : l.length ≤ (digs l).length
  · rw [if_pos (by omega)] at h; cases h
  rw [if_neg (by omega)] at h
  rw [if_neg c4]
  by_cases c5 : l[(digs l).length]? ≠ some 58
  · rw [if_pos c5] at h; cases h
  rw [if_neg c5] at h ⊢
  by_cases c6 : 1 < (digs l).length ∧ l[0]? = some 48
  · rw [if_pos c6] at h; cases h
  rw [if_neg c6]
  exact ⟨rfl, by omega, by omega, by omega, rfl⟩

theorem count_d (s : ByteArray) (d : Nat) (w : World) (hs : s.size ≤ 100000) (H : Hid (cd (bl s) = d)) :
    Calls Tryz.prog 157 #[.string s] w fun e w' => e = .returned (.int .i64 d) ∧ w = w' := by
  have h := H.out
  subst h
  exact count_any s w hs
theorem check_d (s : ByteArray) (d : Nat) (w : World) (hs : s.size ≤ 100000) (hd : d ≤ s.size) (H : Hid (chk (bl s) d = 0)) :
    Calls Tryz.prog 158 #[.string s, .int .i64 d] w fun e w' => e = .returned (.int .i64 0) ∧ w = w' := by
  have h := check_any s d w hs hd
  rw [H.out] at h
  exact h
theorem number_d (s : ByteArray) (d v : Nat) (w : World) (hd : d ≤ 9) (H : Hid ((bl s).take d = digs (bl s) ∧ val (digs (bl s)) = v)) :
    Calls Tryz.prog 159 #[.string (s.extract 0 d)] w fun e w' => e = .returned (.int .i64 v) ∧ w = w' := by
  obtain ⟨h1, h2⟩ := H.out
  have e : bl (s.extract 0 d) = digs (bl s) := by
    have := Lib.extract_data s 0 d
    simp only [List.drop_zero, Nat.sub_zero] at this
    rw [h1] at this
    exact this
  have hz : (s.extract 0 d).size ≤ 9 := by simp [ByteArray.size_extract]; omega
  have := number_any (s.extract 0 d) w hz (by rw [e]; exact digs_all _)
  rw [e, h2] at this
  exact this

theorem tail_get (s : ByteArray) (a v : Nat) (h : v < (s.extract a s.size).size) : (bl s)[a + v]? = some (s.extract a s.size)[v] := by
  have e := bl_get? (s.extract a s.size) v h
  rw [← e]
  have e2 : bl (s.extract a s.size) = (bl s).drop a := Lib.extract_to_end s a
  rw [e2, List.getElem?_drop]
theorem tail_head (s : ByteArray) (a v : Nat) : Value.string ((s.extract a s.size).extract 0 v) = str (((bl s).drop a).take v) := by
  apply str_of
  have e2 : bl (s.extract a s.size) = (bl s).drop a := Lib.extract_to_end s a
  refine (Lib.extract_data (s.extract a s.size) 0 v).trans ?_
  simp only [List.drop_zero, Nat.sub_zero]
  exact congrArg (List.take v) e2
theorem tail_rest (s : ByteArray) (a v : Nat) : Value.string ((s.extract a s.size).extract (v + 1) (s.size - a)) = str ((bl s).drop (a + v + 1)) := by
  apply str_of
  have e2 : bl (s.extract a s.size) = (bl s).drop a := Lib.extract_to_end s a
  refine (Lib.extract_data (s.extract a s.size) (v + 1) (s.size - a)).trans ?_
  have e3 : (s.extract a s.size).data.toList = (bl s).drop a := e2
  rw [e3, List.drop_drop, List.take_of_length_le (by simp; omega), show a + (v + 1) = a + v + 1 by omega]
theorem take_form (s : ByteArray) (d v : Nat) (h : v < (s.extract (d + 1) s.size).size) (c : ((((s.extract (d + 1) s.size)[v].toNat : Nat) : Int) != 44) = true)
    (g : ¬ s.size < d + 1 + v + 1) (T : takeS (bl s) = if s.size < d + 1 + v + 1 then ([], [], 9) else if (bl s)[d + 1 + v]? ≠ some 44 then ([], [], 3) else (((bl s).drop (d + 1)).take v, (bl s).drop (d + 1 + v + 1), 0)) :
    takeS (bl s) = ([], [], 3) := by
  rw [T, if_neg g, if_pos]
  rw [tail_get s (d + 1) v h, ne_eq, some_u8]
  intro e
  rw [e] at c
  exact absurd c (by decide)
theorem take_fine (s : ByteArray) (d v : Nat) (h : v < (s.extract (d + 1) s.size).size) (c : ((((s.extract (d + 1) s.size)[v].toNat : Nat) : Int) != 44) = false)
    (g : ¬ s.size < d + 1 + v + 1) (T : takeS (bl s) = if s.size < d + 1 + v + 1 then ([], [], 9) else if (bl s)[d + 1 + v]? ≠ some 44 then ([], [], 3) else (((bl s).drop (d + 1)).take v, (bl s).drop (d + 1 + v + 1), 0)) :
    takeS (bl s) = (((bl s).drop (d + 1)).take v, (bl s).drop (d + 1 + v + 1), 0) := by
  rw [T, if_neg g, if_neg]
  rw [tail_get s (d + 1) v h, ne_eq, some_u8, Classical.not_not]
  have : ((s.extract (d + 1) s.size)[v].toNat : Int) = 44 := by simpa using c
  have e : (44 : UInt8).toNat = 44 := rfl
  omega

theorem take_fine_ret (s : ByteArray) (d v : Nat) (h : v < (s.extract (d + 1) s.size).size) (c : ((((s.extract (d + 1) s.size)[v].toNat : Nat) : Int) != 44) = false)
    (g : ¬ s.size < d + 1 + v + 1) (T : takeS (bl s) = if s.size < d + 1 + v + 1 then ([], [], 9) else if (bl s)[d + 1 + v]? ≠ some 44 then ([], [], 3) else (((bl s).drop (d + 1)).take v, (bl s).drop (d + 1 + v + 1), 0)) :
    tup (takeS (bl s)) = .tuple #[.string ((s.extract (d + 1) s.size).extract 0 v), .string ((s.extract (d + 1) s.size).extract (v + 1) (s.size - (d + 1))), .int .i64 0] := by
  rw [take_fine s d v h c g T, tail_head, tail_rest]
  rfl

set_option maxHeartbeats 400000 in
theorem take_any (s : ByteArray) (w : World) (hs : s.size ≤ 100000) :
    Calls Tryz.prog 147 #[.string s] w fun e w' => e = .returned (tup (takeS (bl s))) ∧ Below w.heap.size w w' := by
  have hcd : cd (bl s) ≤ s.size := by
    have := digs_le (bl s)
    have e : (bl s).length = s.size := by simp
    unfold cd; omega
  by_cases hc : chk (bl s) (cd (bl s)) = 0
  · obtain ⟨g1, g2, g3, g4, g5⟩ := take_good (bl s) hc
    have HC : Hid (cd (bl s) = (digs (bl s)).length) := g1
    have HK : Hid (chk (bl s) (digs (bl s)).length = 0) := by rw [g1] at hc; exact hc
    have hv : val (digs (bl s)) < 1000000000 := by
      have h1 := val_lt _ (digs (bl s)) rfl (digs_all _)
      have h3 : (10:Nat) ^ (digs (bl s)).length ≤ 10 ^ 9 := Nat.pow_le_pow_right (by decide) g3
      omega
    have e : (bl s).length = s.size := by simp
    rw [e] at g4
    have g6 := digs_take (bl s)
    obtain ⟨d, hd⟩ : ∃ d, (digs (bl s)).length = d := ⟨_, rfl⟩
    obtain ⟨v, hV⟩ : ∃ v, val (digs (bl s)) = v := ⟨_, rfl⟩
    rw [hd] at HC HK g2 g3 g4 g5 g6
    rw [hV] at hv g5
    have HN : Hid ((bl s).take d = digs (bl s) ∧ val (digs (bl s)) = v) := ⟨g6, hV⟩
    rw [e] at g5
    have HT := Lib.hid g5
    clear hc hcd g1 g5 e g6 hd hV
    by_cases c1 : s.size < d + 1 + v + 1
    · go_enter Tryz.func147, Tryz.ntmps147
      go_wp2_with (first | (go_at_call 157; refine (count_d _ _ _ (by omega) HC).mono ?_; rintro e w' ⟨rfl, rfl⟩) | (go_at_call 158; refine (check_d _ _ _ (by omega) (by omega) HK).mono ?_; rintro e w' ⟨rfl, rfl⟩) | (go_at_call 159; refine (number_d _ _ _ _ (by omega) HN).mono ?_; rintro e w' ⟨rfl, rfl⟩))
      go_ret3
      exact ⟨by rw [HT.out, if_pos c1]; rfl, Below.refl _ _⟩
    · have hx : v < (s.extract (d + 1) s.size).size := by simp [ByteArray.size_extract]; omega
      have HX : Hid (v < (s.extract (d + 1) s.size).size) := hx
      by_cases c2 : ((((s.extract (d + 1) s.size)[v].toNat : Nat) : Int) != 44) = true
      · go_enter Tryz.func147, Tryz.ntmps147
        go_wp2_with (first | (go_at_call 157; refine (count_d _ _ _ (by omega) HC).mono ?_; rintro e w' ⟨rfl, rfl⟩) | (go_at_call 158; refine (check_d _ _ _ (by omega) (by omega) HK).mono ?_; rintro e w' ⟨rfl, rfl⟩) | (go_at_call 159; refine (number_d _ _ _ _ (by omega) HN).mono ?_; rintro e w' ⟨rfl, rfl⟩))
        go_ret3
        exact ⟨by rw [take_form s d v HX.out c2 c1 HT.out]; rfl, Below.refl _ _⟩
      · have c3 : ((((s.extract (d + 1) s.size)[v].toNat : Nat) : Int) != 44) = false := by simpa using c2
        clear c2
        go_enter Tryz.func147, Tryz.ntmps147
        go_wp2_with (first | (go_at_call 157; refine (count_d _ _ _ (by omega) HC).mono ?_; rintro e w' ⟨rfl, rfl⟩) | (go_at_call 158; refine (check_d _ _ _ (by omega) (by omega) HK).mono ?_; rintro e w' ⟨rfl, rfl⟩) | (go_at_call 159; refine (number_d _ _ _ _ (by omega) HN).mono ?_; rintro e w' ⟨rfl, rfl⟩))
        go_quiet (fail)
        go_wp2
        go_ret3
        refine ⟨?_, below_drewN (Below.refl _ _) _⟩
        rw [take_fine_ret s d v HX.out c3 c1 HT.out]
        rfl
  · have hne : (((chk (bl s) (cd (bl s)) : Nat) : Int) != 0) = true := by simp; omega
    have HT := Lib.hid (take_bad _ hc)
    clear hc
    go_enter Tryz.func147, Tryz.ntmps147
    go_wp2_with (first | (go_at_call 157; refine (count_any _ _ (by omega)).mono ?_; rintro e w' ⟨rfl, rfl⟩) | (go_at_call 158; refine (check_any _ _ _ (by omega) (by omega)).mono ?_; rintro e w' ⟨rfl, rfl⟩))
    go_ret3
    exact ⟨by rw [HT.out]; rfl, Below.refl _ _⟩
end Go.Proofs.YtghpohiinnallaaGreatDoor.Nets

/-
  Walks of the document's answer: Digits (of any int from nought on), Put.
-/
namespace Go.Proofs.YtghpohiinnallaaGreatDoor.Nets
open Go.RowKit

def digRel (N i n : Nat) (acc : List UInt8) : Prop :=
  i ≤ 20 ∧ n < 10 ^ (20 - i) ∧ n ≤ N ∧ ((i = 0 ∧ n = N ∧ acc = []) ∨ (0 < i ∧ Lib.decDigits N = (if n = 0 then [] else Lib.decDigits n) ++ acc))
theorem dig_step (N i n : Nat) (acc : List UInt8) (h : digRel N i n acc) (hc : i = 0 ∨ 0 < n) : digRel N (i + 1) (n / 10) (UInt8.ofNat (48 + n % 10) :: acc) := by
  obtain ⟨h1, h2, h4, h3⟩ := h
  have h10 : i < 20 := by
    rcases Nat.lt_or_ge i 20 with h | h
    · exact h
    · have : i = 20 := by omega
      subst this
      simp at h2
      omega
  refine ⟨by omega, ?_, by omega, .inr ⟨by omega, ?_⟩⟩
  · rw [show 20 - i = (20 - (i + 1)) + 1 by omega, Nat.pow_succ] at h2
    omega
  · have e : Lib.decDigits n = (if n / 10 = 0 then [] else Lib.decDigits (n / 10)) ++ [UInt8.ofNat (48 + n % 10)] := by
      by_cases hn : n < 10
      · rw [Lib.decDigits_one hn, if_pos (by omega), show n % 10 = n by omega]; rfl
      · rw [if_neg (by omega), Lib.decDigits, dif_neg hn]
    rcases h3 with ⟨_, rfl, rfl⟩ | ⟨hi, hd⟩
    · exact e
    · rw [hd, if_neg (by omega), e]; simp
theorem dig_end (N i n : Nat) (acc : List UInt8) (h : digRel N i n acc) (hc : ¬ (i = 0 ∨ 0 < n)) : acc = Lib.decDigits N := by
  obtain ⟨h1, h2, h4, h3⟩ := h
  rcases h3 with ⟨h0, _, _⟩ | ⟨hi, hd⟩
  · exact absurd (.inl h0) hc
  · rw [hd, if_pos (by omega)]; rfl
def oneB (n : Int) : ByteArray := ⟨#[UInt8.ofNat n.toNat]⟩
theorem oneB_size (n : Int) : (oneB n).size = 1 := rfl
/-- The text of one byte that was just laid. -/
theorem one_byte (w : World) (n : Int) : (convert 181 9 (.slice (some ⟨w.heap.size, 0, none⟩) 1 1)).run Tryz.prog (w.alloc (.cells #[.int .u8 n] 5)) = .ok (.string (oneB n)) (w.alloc (.cells #[.int .u8 n] 5)) := by
  have h := run_convert_bytes_arg (P := Tryz.prog) (w.alloc (.cells #[.int .u8 n] 5)) 181 5 Tryz.underlying181 Tryz.underlying5 w.heap.size 0 1 1 [n] rfl (fun i hi => by
    obtain rfl : i = 0 := by omega
    have hh : (w.alloc (.cells #[.int .u8 n] 5)).heap[w.heap.size]? = some (.cells #[.int .u8 n] 5) := by
      show (w.heap.push (.cells #[.int .u8 n] 5))[w.heap.size]? = _
      simp
    simp only [World.cell?, hh]
    rfl) 9 Tryz.underlying9
  exact h
def DigAt (N : Nat) (w : World) (n s i : Value) (wr : World) : Prop :=
  ∃ (k m : Nat) (acc : ByteArray), digRel N k m (bl acc) ∧ acc.size ≤ k ∧ n = .int .i64 m ∧ s = .string acc ∧ i = .int .i64 k ∧ Below w.heap.size w wr
theorem DigAt_step (N : Nat) (w wr : World) (k m : Nat) (acc : ByteArray) (hr : digRel N k m (bl acc)) (ha : acc.size ≤ k) (hb : Below w.heap.size w wr) (hc : k = 0 ∨ 0 < m) (o : Obj) :
    DigAt N w (.int .i64 ((m : Int) / 10)) (.string (oneB (48 + (m : Int) % 10) ++ acc)) (.int .i64 ((k : Int) + 1)) (wr.alloc o) := by
  refine ⟨k + 1, m / 10, oneB (48 + (m : Int) % 10) ++ acc, ?_, ?_, by simp, rfl, by simp, hb.alloc hb.size _⟩
  · have e : bl (oneB (48 + (m : Int) % 10) ++ acc) = UInt8.ofNat (48 + m % 10) :: bl acc := by
      have e1 : (48 + (m : Int) % 10).toNat = 48 + m % 10 := by omega
      unfold oneB
      rw [e1]
      simp
    rw [e]
    exact dig_step N k m (bl acc) hr hc
  · rw [ByteArray.size_append, oneB_size]; omega
set_option maxHeartbeats 400000 in
theorem digits_any (N : Nat) (w : World) (hN : N < 9223372036854775808) :
    Calls Tryz.prog 163 #[.int .i64 N] w fun e w' => e = .returned (str (Lib.decDigits N)) ∧ Below w.heap.size w w' := by
  have hone := one_byte
  have hsz := oneB_size
  go_enter Tryz.func163, Tryz.ntmps163
  go_wp2
  go_loopw [0, 3, 4] (fun n s i wr => DigAt N w n s i wr) (fun _ _ i _ => 21 - (intOf i).toNat)
  case atStart => exact ⟨0, N, ⟨#[]⟩, ⟨by omega, by simp; omega, Nat.le_refl _, .inl ⟨rfl, rfl, rfl⟩⟩, Nat.le_refl _, rfl, rfl, rfl, Below.refl _ _⟩
  case round =>
    obtain ⟨k, m, acc, hr, ha, rfl, rfl, rfl, hb⟩ := hrel
    have hk := hr.1
    have hm : m ≤ N := hr.2.2.1
    have hk2 : 0 < m → k ≤ 19 := fun h => by
      have h0 := hr.2.1
      rcases Nat.lt_or_ge k 20 with h1 | h1
      · omega
      · rw [show 20 - k = 0 by omega] at h0; omega
    have HR := Lib.hid hr
    clear hr
    by_cases hc : k = 0 ∨ 0 < m
    · have hk3 : k ≤ 19 := by
        rcases hc with h | h
        · omega
        · exact hk2 h
      clear hk2
      have h1 : ((k : Int) == 0) = true ∨ (((k : Int) == 0) = false ∧ 0 < m) := by
        by_cases h : k = 0
        · exact .inl (by simp [h])
        · exact .inr ⟨by simpa using h, by omega⟩
      rcases h1 with h1 | ⟨h1, h2⟩
      all_goals
        go_wp2
        go_roundw
        case rel => exact DigAt_step N w wr k m acc HR.out ha hb hc _
        case measure => simp [intOf]; omega
    · clear hk2
      have h1 : ((k : Int) == 0) = false := by simp; omega
      have h2 : ¬ (0 : Int) < m := by omega
      go_wp2
      go_ret
      exact ⟨by rw [← dig_end N k m (bl acc) HR.out hc]; rfl, hb⟩
theorem str_bl (s : ByteArray) : str (bl s) = .string s := rfl
theorem put_str (s : ByteArray) (x : ByteArray) (hx : bl x = Lib.decDigits s.size) : Value.string (x ++ ⟨#[58]⟩ ++ s ++ ⟨#[44]⟩) = str (putS (bl s)) := by
  apply str_of
  have e : (bl s).length = s.size := by simp
  unfold putS
  rw [e, ← hx]
  simp [ByteArray.data_append]
theorem dec_len (n : Nat) (h : n ≤ 100000) : (Lib.decDigits n).length ≤ 9 := by rw [Lib.decDigits_length]; exact nDigits_le9 n (by omega)
set_option maxHeartbeats 400000 in
theorem refPut_any (s : ByteArray) (w : World) (hs : s.size ≤ 100000) :
    Calls Tryz.prog 153 #[.string s] w fun e w' => e = .returned (str (putS (bl s))) ∧ Below w.heap.size w w' := by
  have hdl := dec_len s.size hs
  go_enter Tryz.func153, Tryz.ntmps153
  go_wp2_with (go_at_call 163; refine (digits_any _ _ (by omega)).mono ?_; rintro e w' ⟨rfl, hb⟩)
  go_ret
  exact ⟨by rw [← put_str s ⟨(Lib.decDigits s.size).toArray⟩ rfl]; rfl, hb⟩
end Go.Proofs.YtghpohiinnallaaGreatDoor.Nets

/-
  Contracts of the library at this program, laid by the shelf's tool, each one application: Builder_String_any, strconv_Itoa.
-/
namespace Go.Proofs
open Go.Shelf
def Tryz.lays169_ren : Go.Shelf.Ren := ⟨fun | 169 => 117 | n => n, fun | 70 => 180 | 9 => 9 | 0 => 0 | 72 => 183 | 37 => 181 | 127 => 215 | 3 => 3 | 5 => 5 | n => n, fun | n => n⟩
theorem Tryz.lays169 : Go.Proofs.Lays.n169 Tryz.prog Tryz.lays169_ren := {
  mixed := by kernel_rfl
  f169 := Tryz.func117.trans (congrArg some (by kernel_rfl))
  t0 := Tryz.underlying0
  a0 := Tryz.isAgg0
  z0 := Tryz.sizeOf0
  v0 := Tryz.zeroValue0
  t3 := Tryz.underlying3
  a3 := Tryz.isAgg3
  z3 := Tryz.sizeOf3
  v3 := Tryz.zeroValue3
  t9 := Tryz.underlying9
  a9 := Tryz.isAgg9
  z9 := Tryz.sizeOf9
  v9 := Tryz.zeroValue9
  t37 := Tryz.underlying181
  a37 := Tryz.isAgg181
  z37 := Tryz.sizeOf181
  v37 := Tryz.zeroValue181
  t70 := Tryz.underlying180
  a70 := Tryz.isAgg180
  z70 := Tryz.sizeOf180
  v70 := Tryz.zeroValue180
  t72 := Tryz.underlying183
  a72 := Tryz.isAgg183
  z72 := Tryz.sizeOf183
  v72 := Tryz.zeroValue183
  t127 := Tryz.underlying215
  a127 := Tryz.isAgg215
  z127 := Tryz.sizeOf215
  v127 := Tryz.zeroValue215 }
theorem Tryz.Builder_Extra_169 : Builder.Extra Tryz.prog Tryz.lays169_ren := {
  sizeBuilder := by kernel_rfl
  liesBuilder := by kernel_rfl
  t5 := Tryz.underlying5
  a5 := Tryz.isAgg5
  z5 := Tryz.sizeOf5
  v5 := Tryz.zeroValue5
  infoByte := by kernel_rfl
  cellsByte := by kernel_rfl
  sizeByte := by kernel_rfl
  neB5 := by decide }
def Tryz.laysM171_ren : Go.Shelf.Ren := ⟨fun | 171 => 161 | 243 => 165 | 246 => 166 | 283 => 167 | 284 => 168 | 285 => 169 | 286 => 170 | 129 => 172 | 317 => 171 | 318 => 173 | 319 => 174 | 320 => 175 | 337 => 176 | 338 => 177 | n => n, fun | 3 => 3 | 9 => 9 | 2 => 2 | 4 => 4 | 171 => 232 | 0 => 0 | 53 => 212 | 37 => 181 | 5 => 5 | 173 => 235 | 212 => 238 | 51 => 201 | 20 => 20 | 213 => 239 | 46 => 177 | 232 => 242 | 233 => 243 | n => n, fun | 17 => 1 | 18 => 2 | 19 => 3 | n => n⟩
theorem Tryz.laysM171 : Go.Proofs.LaysM.n171 Tryz.prog Tryz.laysM171_ren := {
  mixed := by kernel_rfl
  f129 := Tryz.func172.trans (congrArg some (by kernel_rfl))
  f171 := Tryz.func161.trans (congrArg some (by kernel_rfl))
  f243 := Tryz.func165.trans (congrArg some (by kernel_rfl))
  f246 := Tryz.func166.trans (congrArg some (by kernel_rfl))
  f283 := Tryz.func167.trans (congrArg some (by kernel_rfl))
  f284 := Tryz.func168.trans (congrArg some (by kernel_rfl))
  f285 := Tryz.func169.trans (congrArg some (by kernel_rfl))
  f286 := Tryz.func170.trans (congrArg some (by kernel_rfl))
  f317 := Tryz.func171.trans (congrArg some (by kernel_rfl))
  f318 := Tryz.func173.trans (congrArg some (by kernel_rfl))
  f319 := Tryz.func174.trans (congrArg some (by kernel_rfl))
  f320 := Tryz.func175.trans (congrArg some (by kernel_rfl))
  f337 := Tryz.func176.trans (congrArg some (by kernel_rfl))
  f338 := Tryz.func177.trans (congrArg some (by kernel_rfl))
  t0 := Tryz.underlying0
  a0 := Tryz.isAgg0
  z0 := Tryz.sizeOf0
  v0 := Tryz.zeroValue0
  t2 := Tryz.underlying2
  a2 := Tryz.isAgg2
  z2 := Tryz.sizeOf2
  v2 := Tryz.zeroValue2
  t3 := Tryz.underlying3
  a3 := Tryz.isAgg3
  z3 := Tryz.sizeOf3
  v3 := Tryz.zeroValue3
  t4 := Tryz.underlying4
  a4 := Tryz.isAgg4
  z4 := Tryz.sizeOf4
  v4 := Tryz.zeroValue4
  t5 := Tryz.underlying5
  a5 := Tryz.isAgg5
  z5 := Tryz.sizeOf5
  v5 := Tryz.zeroValue5
  t9 := Tryz.underlying9
  a9 := Tryz.isAgg9
  z9 := Tryz.sizeOf9
  v9 := Tryz.zeroValue9
  t20 := Tryz.underlying20
  a20 := Tryz.isAgg20
  z20 := Tryz.sizeOf20
  v20 := Tryz.zeroValue20
  t37 := Tryz.underlying181
  a37 := Tryz.isAgg181
  z37 := Tryz.sizeOf181
  v37 := Tryz.zeroValue181
  t46 := Tryz.underlying177
  a46 := Tryz.isAgg177
  z46 := Tryz.sizeOf177
  v46 := Tryz.zeroValue177
  t51 := Tryz.underlying201
  a51 := Tryz.isAgg201
  z51 := Tryz.sizeOf201
  v51 := Tryz.zeroValue201
  t53 := Tryz.underlying212
  a53 := Tryz.isAgg212
  z53 := Tryz.sizeOf212
  v53 := Tryz.zeroValue212
  t171 := Tryz.underlying232
  a171 := Tryz.isAgg232
  z171 := Tryz.sizeOf232
  v171 := Tryz.zeroValue232
  t173 := Tryz.underlying235
  a173 := Tryz.isAgg235
  z173 := Tryz.sizeOf235
  v173 := Tryz.zeroValue235
  t212 := Tryz.underlying238
  a212 := Tryz.isAgg238
  z212 := Tryz.sizeOf238
  v212 := Tryz.zeroValue238
  t213 := Tryz.underlying239
  a213 := Tryz.isAgg239
  z213 := Tryz.sizeOf239
  t232 := Tryz.underlying242
  a232 := Tryz.isAgg242
  z232 := Tryz.sizeOf242
  v232 := Tryz.zeroValue242
  t233 := Tryz.underlying243
  a233 := Tryz.isAgg243
  z233 := Tryz.sizeOf243
  v233 := Tryz.zeroValue243
  g17 := by kernel_rfl
  g18 := by kernel_rfl
  g19 := by kernel_rfl
  i0 := by kernel_rfl
  i2 := by kernel_rfl
  i3 := by kernel_rfl
  i4 := by kernel_rfl
  i5 := by kernel_rfl
  i9 := by kernel_rfl
  i20 := by kernel_rfl
  i37 := by kernel_rfl
  i46 := by kernel_rfl
  i51 := by kernel_rfl
  i53 := by kernel_rfl
  i171 := by kernel_rfl
  i173 := by kernel_rfl
  i212 := by kernel_rfl
  i232 := by kernel_rfl
  i233 := by kernel_rfl
  m17 := by kernel_rfl
  m18 := by kernel_rfl
  m19 := by kernel_rfl }
open Go.RowKit in
theorem Tryz.Builder_String_any (B b : Nat) (l : List UInt8) (w : World) (h : Lib.IsBuilder 183 5 B b (Lib.byteCells l) w) (hBw : B ≤ w.heap.size) :
    Calls Tryz.prog 117 #[.pointer (some ⟨b, 0, none⟩)] w fun e w' => e = .returned (.string ⟨l.toArray⟩) ∧ Below B w w' := Any.Builder_String_any Tryz.lays169 Tryz.Builder_Extra_169 B b l w h hBw
open Go.RowKit Go.Sort Go.Lib in
theorem Tryz.strconv_Itoa (n : Int) (h0 : -9223372036854775808 ≤ n) (h1 : n ≤ 9223372036854775807) (w : World) (htab : Lib.TabIs Tryz.prog w "internal/strconv.uint64pow10" .u64 Lib.pow10Tab) :
    Calls Tryz.prog 161 #[.int .i64 n] w fun e w' => e = .returned (.string ⟨(Lib.itoa n).toArray⟩) ∧ ∃ k os, w' = grow (w.drewN k) os := Any.strconv_Itoa Tryz.laysM171 n h0 h1 w htab
end Go.Proofs

/-
  A strings.Builder that the call made itself is written: copyCheck and WriteString at this program.
-/
namespace Go.Proofs.YtghpohiinnallaaGreatDoor.Nets
open Go.RowKit

theorem infoBuilder : (Tryz.prog.info? 183).map (fun i => i.size) = some 2 := by kernel_rfl
theorem liesBuilder : liesAt Tryz.prog Tryz.prog.depth 183 (2 / Tryz.prog.cellsOf 183) 0 183 1 = true := by kernel_rfl
theorem infoByte : (Tryz.prog.info? 5).map (fun i => (i.zero, i.size, i.bytes)) = some (some (.int .u8 0), 1, 1) := by kernel_rfl

set_option maxHeartbeats 1000000 in
theorem bcheck_used (b : Nat) (w : World) (h0 : w.cell? ⟨b, 0, none⟩ = some (.pointer (some ⟨b, 0, none⟩))) :
    Calls Tryz.prog 142 #[.pointer (some ⟨b, 0, none⟩)] w fun e w' => e = .returned (.tuple #[]) ∧ w = w' := by
  obtain ⟨j, hj, _⟩ := Option.map_eq_some_iff.1 infoBuilder
  have r0 := Lib.run_neq_ptr_same (P := Tryz.prog) w ⟨b, 0, none⟩ Tryz.underlying180 hj
  go_enter Tryz.func142, Tryz.ntmps142
  go_wp2
  go_end0
  exact ⟨rfl, rfl⟩
set_option maxRecDepth 100000 in
set_option maxHeartbeats 1000000 in
theorem bcheck_fresh (b : Nat) (w : World) (h0 : w.cell? ⟨b, 0, none⟩ = some (.pointer none)) (hsh : w.shape? b = some (183, 2)) (hfz : w.frozen? ⟨b, 0, none⟩ = false) :
    Calls Tryz.prog 142 #[.pointer (some ⟨b, 0, none⟩)] w fun e w' => e = .returned (.tuple #[]) ∧ w' = w.setCell ⟨b, 0, none⟩ (.pointer (some ⟨b, 0, none⟩)) := by
  obtain ⟨j, hj, hjs⟩ := Option.map_eq_some_iff.1 infoBuilder
  have r0 := fun (W : World) => Lib.run_neq_ptr_same (P := Tryz.prog) W ⟨b, 0, none⟩ Tryz.underlying180 hj
  have r1 := Lib.run_to_unsafe (P := Tryz.prog) w ⟨b, 0, none⟩ Tryz.underlying180 Tryz.underlying224 hj (by rw [hjs]; decide) hsh (Nat.zero_lt_succ 1)
  have r2 := Lib.run_from_unsafe (P := Tryz.prog) w ⟨b, 0, none⟩ Tryz.underlying224 Tryz.underlying180 hj hsh liesBuilder
  clear hjs
  go_enter Tryz.func142, Tryz.ntmps142
  go_wp2
  rw [run_callFunc_extern Tryz.func154 (by kernel_rfl) (by kernel_rfl) (by kernel_rfl) (e := Extern.AbiNoEscape.same) (by kernel_rfl), Lib.run_noEscape]
  simp only [Result.andThen]
  rw [Oper.upon_value]
  go_wp2
  go_end0
  exact ⟨rfl, rfl⟩
theorem bcheck_any (B b : Nat) (bs : List Value) (w : World) (h : Lib.IsBuilder 183 5 B b bs w) :
    Calls Tryz.prog 142 #[.pointer (some ⟨b, 0, none⟩)] w fun e w' => e = .returned (.tuple #[]) ∧ Lib.BuilderAt 183 5 B b (.pointer (some ⟨b, 0, none⟩)) bs w' ∧ Below B w w' ∧ Lib.OthersKept 5 (some b) w w' := by
  rcases h with h | h
  · refine (bcheck_fresh b w h.cell0 h.shape h.frozen0).mono fun e w' he => ?_
    obtain ⟨rfl, rfl⟩ := he
    exact ⟨rfl, h.used _, (Below.refl B w).setCell (p := ⟨b, 0, none⟩) h.1 _, (Lib.OthersKept.refl _ _ w).setCell ⟨b, 0, none⟩ rfl _⟩
  · refine (bcheck_used b w h.cell0).mono fun e w' he => ?_
    obtain ⟨rfl, rfl⟩ := he
    exact ⟨rfl, h, Below.refl B _, Lib.OthersKept.refl _ _ _⟩

theorem owned_kind {w : World} {B : Nat} {e : TypeId} {z : Nat} {v : Value} {n : Nat} {xs : List Value} (h : w.ownsRow B e z v n xs) : ∀ g, v.ownBlock = some g → ∃ c fz, w.heap[g]? = some (.cells c e fz) := by
  intro g hg
  rcases h.2 with ⟨rfl, _⟩ | ⟨g', cap, cur, rfl, _, h2, _⟩
  · simp [Value.ownBlock] at hg
  · obtain rfl : g' = g := by simpa [Value.ownBlock] using hg
    exact ⟨_, _, h2⟩

set_option maxHeartbeats 2000000 in
theorem bwriteK_any (B b : Nat) (bs : List Value) (s : ByteArray) (w : World) (h : Lib.IsBuilder 183 5 B b bs w) (hlen : bs.length + s.size ≤ 140737488355328) (hBw : B ≤ w.heap.size) :
    Calls Tryz.prog 115 #[.pointer (some ⟨b, 0, none⟩), .string s] w fun e w' => e = .returned (.tuple #[.int .i64 s.size, .nilIface]) ∧ Lib.BuilderAt 183 5 B b (.pointer (some ⟨b, 0, none⟩)) (bs ++ Lib.strCells s) w' ∧ Below B w w' ∧ Lib.OthersKept 5 (some b) w w' := by
  obtain ⟨i0, hi, hz0, hz1, hz2⟩ := info_parts infoByte
  go_enter Tryz.func115, Tryz.ntmps115
  go_wp2_with (go_at_call 142; refine (bcheck_any B b bs _ h).mono ?_)
  rintro e w1 ⟨rfl, h1, hb1, hk1⟩
  have hlt := h1.lt
  obtain ⟨hB, v, hbk, hown, hne⟩ := h1
  have c0 : w1.cell? ⟨b, 0, none⟩ = some (.pointer (some ⟨b, 0, none⟩)) := by rw [Lib.cell_of_heap hbk]; rfl
  have c1 : w1.cell? ⟨b, 1, none⟩ = some v := by rw [Lib.cell_of_heap hbk]; rfl
  have hs1 := hb1.size
  go_wp2_with (at_builtin; refine Lib.wpList_append_own_string _ rfl _ _ 181 9 rfl B 5 i0 Tryz.underlying181 Tryz.underlying9 hi hz0 hz1 hz2 _ _ _ rfl hown s rfl ?c3 ?c4 ?c5 ?_)
  case c3 => unfold maxLen; omega
  case c4 => omega
  case c5 => omega
  intro v' w2 hown' hgrow _
  have hb2 : w2.heap[b]? = some (.cells #[.pointer (some ⟨b, 0, none⟩), v] 183 (0, 0)) := (hgrow.block b hlt (fun e => hne e.symm)).trans hbk
  have d0 : w2.cell? ⟨b, 0, none⟩ = some (.pointer (some ⟨b, 0, none⟩)) := by rw [Lib.cell_of_heap hb2]; rfl
  have d1 : w2.cell? ⟨b, 1, none⟩ = some v := by rw [Lib.cell_of_heap hb2]; rfl
  have f1 : w2.frozen? ⟨b, 1, none⟩ = false := Lib.frozen_of_heap hb2 1
  obtain ⟨ao, n', cap, rfl⟩ : ∃ ao n' cap, v' = .slice ao n' cap := by
    rcases hown'.2 with ⟨hv, _⟩ | ⟨g, cap, cur, hv, _⟩
    · exact ⟨_, _, _, hv⟩
    · exact ⟨_, _, _, hv⟩
  go_wp2
  go_ret2
  refine ⟨rfl, ?_, ?_, (hk1.grown hgrow (owned_kind hown)).setCell ⟨b, 1, none⟩ rfl _⟩
  · exact Lib.BuilderAt.put (T := 183) (e := 5) hB hb2 (bs' := bs ++ Lib.strCells s) (by simpa [Lib.strCells_length] using hown') (by decide)
  · exact (hb1.grown hgrow (by omega) (fun k hk => (hown.lt k hk).1)).setCell (p := ⟨b, 1, none⟩) hB _
theorem bwrite_any (B b : Nat) (bs : List Value) (s : ByteArray) (w : World) (h : Lib.IsBuilder 183 5 B b bs w) (hlen : bs.length + s.size ≤ 140737488355328) (hBw : B ≤ w.heap.size) :
    Calls Tryz.prog 115 #[.pointer (some ⟨b, 0, none⟩), .string s] w fun e w' => e = .returned (.tuple #[.int .i64 s.size, .nilIface]) ∧ Lib.BuilderAt 183 5 B b (.pointer (some ⟨b, 0, none⟩)) (bs ++ Lib.strCells s) w' ∧ Below B w w' :=
  (bwriteK_any B b bs s w h hlen hBw).mono fun _ _ hh => ⟨hh.1, hh.2.1, hh.2.2.1⟩
end Go.Proofs.YtghpohiinnallaaGreatDoor.Nets

/-
  Walks over lists of texts: Put, Row (the program's and the document's), SameTexts.
-/
namespace Go.Proofs.YtghpohiinnallaaGreatDoor.Nets
open Go.RowKit

/-- The table of powers of ten, where the call finds it. -/
def Tab (w : World) : Prop := Lib.TabIs Tryz.prog w "internal/strconv.uint64pow10" .u64 Lib.pow10Tab ∧ 1 < w.heap.size
theorem gPow : Tryz.prog.globalNamed "internal/strconv.uint64pow10" = some 1 := by kernel_rfl
theorem Tab.below {w w' : World} (h : Tab w) (hb : Below w.heap.size w w') : Tab w' :=
  ⟨var?_below hb gPow h.2 h.1, by have := h.2; have := hb.size; omega⟩

set_option maxHeartbeats 400000 in
theorem put_any (s : ByteArray) (w : World) (hs : s.size ≤ 100000) (ht : Tab w) :
    Calls Tryz.prog 150 #[.string s] w fun e w' => e = .returned (str (putS (bl s))) ∧ Below w.heap.size w w' := by
  have hdl := dec_len s.size hs
  have hi : Lib.itoa (s.size : Int) = Lib.decDigits s.size := Lib.itoa_nonneg _
  have HT := Lib.hid ht
  clear ht
  go_enter Tryz.func150, Tryz.ntmps150
  go_wp2_with (go_at_call 161; refine (Tryz.strconv_Itoa _ (by omega) (by omega) _ HT.out.1).mono ?_; rintro e w' ⟨rfl, k, os, rfl⟩; have hb := Lib.below_grow w.heap.size w (Nat.le_refl _) k os)
  go_ret
  exact ⟨by rw [← put_str s ⟨(Lib.decDigits s.size).toArray⟩ rfl]; rfl, hb⟩

abbrev ba (l : List UInt8) : ByteArray := ⟨l.toArray⟩
theorem bl_ba (l : List UInt8) : bl (ba l) = l := by simp

/-- The value is a slice that reads as these texts. -/
def Reads (w : World) (v : Value) (ss : List ByteArray) : Prop :=
  (∃ a cap, v = .slice a 0 cap ∧ ss = []) ∨
  (0 < ss.length ∧ ∃ b off cap, v = .slice (some ⟨b, off, none⟩) ss.length cap ∧ ss.length ≤ cap ∧ cap ≤ maxLen ∧ b < w.heap.size ∧ ∀ i, i < ss.length → w.cell? ⟨b, off + i, none⟩ = some (.string (ss.getD i ByteArray.empty)))
theorem Reads.below {w w' : World} {v : Value} {ss : List ByteArray} (h : Reads w v ss) (hb : Below w.heap.size w w') : Reads w' v ss := by
  rcases h with h | ⟨h0, b, off, cap, rfl, h1, h2, h3, h4⟩
  · exact .inl h
  · refine .inr ⟨h0, b, off, cap, rfl, h1, h2, by have := hb.size; omega, fun i hi => ?_⟩
    rw [hb.cell (p := ⟨b, off + i, none⟩) h3]
    exact h4 i hi

def Small (ss : List ByteArray) : Prop := ss.length ≤ 1000 ∧ ∀ s ∈ ss, s.size ≤ 100000
theorem Small.at {ss : List ByteArray} (h : Small ss) (i : Nat) (hi : i < ss.length) : (ss.getD i ByteArray.empty).size ≤ 100000 := by
  rw [List.getD_eq_getElem?_getD, List.getElem?_eq_getElem hi]
  exact h.2 _ (List.getElem_mem hi)

theorem put_len (l : List UInt8) (h : l.length ≤ 100000) : (putS l).length ≤ 100011 := by
  have := dec_len l.length h
  unfold putS
  simp
  omega
theorem row_len (ls : List (List UInt8)) (h : ∀ l ∈ ls, l.length ≤ 100000) : (rowS ls).length ≤ ls.length * 100011 := by
  induction ls with
  | nil => simp [rowS]
  | cons l ls ih =>
    have h1 := put_len l (h l (List.mem_cons_self ..))
    have h2 := ih (fun x hx => h x (List.mem_cons_of_mem _ hx))
    have e : rowS (l :: ls) = putS l ++ rowS ls := by simp [rowS]
    rw [e, List.length_append, List.length_cons]
    omega
theorem row_snoc (ls : List (List UInt8)) (l : List UInt8) : rowS (ls ++ [l]) = rowS ls ++ putS l := by simp [rowS]
/-- The row of the first k texts. -/
def rowK (ss : List ByteArray) (k : Nat) : List UInt8 := rowS ((ss.take k).map bl)
theorem rowK_len (ss : List ByteArray) (k : Nat) (h : Small ss) : (rowK ss k).length ≤ 100011000 := by
  have h1 := row_len ((ss.take k).map bl) (by
    intro l hl
    obtain ⟨s, hs, rfl⟩ := List.mem_map.1 hl
    have := h.2 s (List.mem_of_mem_take hs)
    simpa using this)
  have h2 : ((ss.take k).map bl).length ≤ 1000 := by
    have := h.1
    simp
    omega
  unfold rowK
  omega
theorem rowK_succ (ss : List ByteArray) (k : Nat) (hk : k < ss.length) : rowK ss (k + 1) = rowK ss k ++ putS (bl (ss.getD k ByteArray.empty)) := by
  unfold rowK
  rw [List.take_succ_eq_append_getElem hk, List.map_append, List.map_singleton, row_snoc, List.getD_eq_getElem?_getD, List.getElem?_eq_getElem hk]
  rfl
theorem rowK_all (ss : List ByteArray) : rowK ss ss.length = rowS (ss.map bl) := by unfold rowK; rw [List.take_length]
theorem rowK_zero (ss : List ByteArray) : rowK ss 0 = [] := rfl
theorem cells_put (x l : List UInt8) : Lib.byteCells x ++ Lib.strCells (ba l) = Lib.byteCells (x ++ l) := by simp [Lib.byteCells, Lib.strCells]

def RowAt (ss : List ByteArray) (w : World) (i : Value) (wr : World) : Prop :=
  ∃ k : Nat, k ≤ ss.length ∧ i = .int .i64 k ∧ Lib.IsBuilder 183 5 w.heap.size w.heap.size (Lib.byteCells (rowK ss k)) wr ∧ Below w.heap.size w wr

theorem fresh (w : World) : Lib.IsBuilder 183 5 w.heap.size w.heap.size (Lib.byteCells []) (w.alloc (.cells #[.pointer none, .slice none 0 0] 183)) :=
  .inl ⟨Nat.le_refl _, .slice none 0 0, by
    show (w.heap.push _)[w.heap.size]? = _
    simp, World.ownsRow_nil _ _ _ _, by simp [Value.ownBlock]⟩

theorem grown_of_below {w w' : World} (h : Below w.heap.size w w') : w.grownBy w' none :=
  ⟨h.os, h.tape, h.output, h.size, fun k hk _ => h.block k hk⟩
theorem owns_below {w w' : World} {B : Nat} {e : TypeId} {z : Nat} {v : Value} {n : Nat} {xs : List Value} (h : w.ownsRow B e z v n xs) (hb : Below w.heap.size w w') : w'.ownsRow B e z v n xs :=
  h.kept (grown_of_below hb) (by cases hv : v.ownBlock <;> simp)
theorem at_below {T e : TypeId} {B b : Nat} {p : Value} {bs : List Value} {w w' : World} (h : Lib.BuilderAt T e B b p bs w) (hb : Below w.heap.size w w') : Lib.BuilderAt T e B b p bs w' := by
  have hl := h.lt
  obtain ⟨h1, v, h2, h3, h4⟩ := h
  exact ⟨h1, v, (hb.block b hl).trans h2, owns_below h3 hb, h4⟩
theorem is_below {T e : TypeId} {B b : Nat} {bs : List Value} {w w' : World} (h : Lib.IsBuilder T e B b bs w) (hb : Below w.heap.size w w') : Lib.IsBuilder T e B b bs w' := by
  rcases h with h | h
  · exact .inl (at_below h hb)
  · exact .inr (at_below h hb)

theorem RowAt_step (ss : List ByteArray) (w wr w1 w2 : World) (k : Nat) (hk : k < ss.length) (hb : Below w.heap.size w wr) (hb1 : Below wr.heap.size wr w1)
    (hB : Lib.BuilderAt 183 5 w.heap.size w.heap.size (.pointer (some ⟨w.heap.size, 0, none⟩)) (Lib.byteCells (rowK ss k) ++ Lib.strCells (ba (putS (bl (ss.getD k ByteArray.empty))))) w2)
    (hb2 : Below w.heap.size w1 w2) : RowAt ss w (.int .i64 ((k : Int) + 1)) w2 := by
  refine ⟨k + 1, by omega, by simp, .inr ?_, (hb.trans (hb1.mono hb.size)).trans hb2⟩
  rw [cells_put, ← rowK_succ ss k hk] at hB
  exact hB
theorem bytes_length (l : List UInt8) : (Lib.byteCells l).length = l.length := by simp [Lib.byteCells]

set_option maxHeartbeats 1000000 in
theorem row_any (v : Value) (ss : List ByteArray) (w : World) (hr : Reads w v ss) (hs : Small ss) (ht : Tab w) :
    Calls Tryz.prog 128 #[v] w fun e w' => e = .returned (str (rowS (ss.map bl))) ∧ Below w.heap.size w w' := by
  have hfr := fresh w
  rcases hr with ⟨a, cap, rfl, rfl⟩ | ⟨h0, b, off, cap, rfl, h1, h2, h3, h4⟩
  · go_enter Tryz.func128, Tryz.ntmps128
    go_wp2_with fail
    go_loopw [5, 8] (fun _ i wr => RowAt [] w i wr) (fun _ i _ => 0 - (intOf i).toNat)
    case atStart => exact ⟨0, Nat.le_refl _, rfl, hfr, (Below.refl _ _).alloc (Nat.le_refl _) _⟩
    case round =>
      obtain ⟨k, hk, rfl, hB, hb⟩ := hrel
      go_wp2_with (go_at_call 117; refine (Tryz.Builder_String_any _ _ _ _ hB hb.size).mono ?_; rintro e w1 ⟨rfl, hb1⟩)
      go_ret
      exact ⟨by simp [rowK], hb.trans hb1⟩
  · have hm := hs.1
    have HL := Lib.hid h4
    have HT := Lib.hid ht
    have HS := Lib.hid hs
    clear h4 ht hs h1 h2
    go_enter Tryz.func128, Tryz.ntmps128
    go_wp2_with fail
    go_loopw [5, 8] (fun _ i wr => RowAt ss w i wr) (fun _ i _ => ss.length - (intOf i).toNat)
    case atStart => exact ⟨0, Nat.zero_le _, rfl, hfr, (Below.refl _ _).alloc (Nat.le_refl _) _⟩
    case round =>
      obtain ⟨k, hk, rfl, hB, hb⟩ := hrel
      by_cases hlt : k < ss.length
      · have hc : wr.cell? ⟨b, off + k, none⟩ = some (.string (ss.getD k ByteArray.empty)) := by
          rw [hb.cell (p := ⟨b, off + k, none⟩) h3]; exact HL.out k hlt
        have hz := HS.out.at k hlt
        have HP := Lib.hid (put_len (bl (ss.getD k ByteArray.empty)) (by simpa using hz))
        have HR := Lib.hid (rowK_len ss k HS.out)
        have HG := Lib.hid (fun (w1 w2 : World) => RowAt_step ss w wr w1 w2 k hlt hb)
        generalize hx : ss.getD k ByteArray.empty = x at *
        clear hx
        go_wp2_with (go_at_call 150; refine (put_any _ _ (by omega) (HT.out.below hb)).mono ?_; rintro e w1 ⟨rfl, hb1⟩)
        refine (bwrite_any _ _ _ (ba (putS (bl x))) _ (is_below hB hb1) ?c1 ?c2).mono ?_
        case c1 =>
          have e1 : (ba (putS (bl x))).size = (putS (bl x)).length := by simp [ByteArray.size]
          have := HP.out
          have := HR.out
          rw [bytes_length, e1]
          omega
        case c2 =>
          have := hb.size
          have := hb1.size
          omega
        rintro e w2 ⟨rfl, hB2, hb2⟩
        go_wp2_with fail
        go_roundw
        case rel => exact HG.out w1 w2 hb1 hB2 hb2
        case measure => simp [intOf]; omega
      · go_wp2_with (go_at_call 117; refine (Tryz.Builder_String_any _ _ _ _ hB hb.size).mono ?_; rintro e w1 ⟨rfl, hb1⟩)
        go_ret
        exact ⟨by rw [← rowK_all, show ss.length = k by omega]; rfl, hb.trans hb1⟩
end Go.Proofs.YtghpohiinnallaaGreatDoor.Nets

/-
  Walks over lists of texts, second part: the document's Row, SameTexts.
-/
namespace Go.Proofs.YtghpohiinnallaaGreatDoor.Nets
open Go.RowKit

def RefRowAt (ss : List ByteArray) (w : World) (s i : Value) (wr : World) : Prop :=
  ∃ (k : Nat) (x : ByteArray), k ≤ ss.length ∧ i = .int .i64 k ∧ s = .string x ∧ bl x = rowK ss k ∧ Below w.heap.size w wr

set_option maxHeartbeats 1000000 in
theorem refRow_any (v : Value) (ss : List ByteArray) (w : World) (hr : Reads w v ss) (hs : Small ss) :
    Calls Tryz.prog 136 #[v] w fun e w' => e = .returned (str (rowS (ss.map bl))) ∧ Below w.heap.size w w' := by
  rcases hr with ⟨a, cap, rfl, rfl⟩ | ⟨h0, b, off, cap, rfl, h1, h2, h3, h4⟩
  · go_enter Tryz.func136, Tryz.ntmps136
    go_wp2_with fail
    go_loopw [3, 4] (fun s i wr => RefRowAt [] w s i wr) (fun _ i _ => 0 - (intOf i).toNat)
    case atStart => exact ⟨0, ⟨#[]⟩, Nat.le_refl _, rfl, rfl, rfl, Below.refl _ _⟩
    case round =>
      obtain ⟨k, x, hk, rfl, rfl, hx, hb⟩ := hrel
      have HX := Lib.hid hx
      clear hx
      go_wp2_with fail
      go_ret
      refine ⟨?_, hb⟩
      have e : rowS (([] : List ByteArray).map bl) = bl x := by rw [HX.out]; simp [rowK]
      rw [e]
      rfl
  · have hm := hs.1
    have HL := Lib.hid h4
    have HS := Lib.hid hs
    clear h4 hs h1 h2
    go_enter Tryz.func136, Tryz.ntmps136
    go_wp2_with fail
    go_loopw [3, 4] (fun s i wr => RefRowAt ss w s i wr) (fun _ i _ => ss.length - (intOf i).toNat)
    case atStart => exact ⟨0, ⟨#[]⟩, Nat.zero_le _, rfl, rfl, rfl, Below.refl _ _⟩
    case round =>
      obtain ⟨k, x, hk, rfl, rfl, hx, hb⟩ := hrel
      have HX := Lib.hid hx
      have hxz : x.size ≤ 100011000 := by
        have h := rowK_len ss k HS.out
        rw [← hx] at h
        simpa using h
      clear hx
      by_cases hlt : k < ss.length
      · have hc : wr.cell? ⟨b, off + k, none⟩ = some (.string (ss.getD k ByteArray.empty)) := by
          rw [hb.cell (p := ⟨b, off + k, none⟩) h3]; exact HL.out k hlt
        have hz := HS.out.at k hlt
        have HP := put_len (bl (ss.getD k ByteArray.empty)) (by simpa using hz)
        have HG := Lib.hid (rowK_succ ss k hlt)
        generalize hy : ss.getD k ByteArray.empty = y at *
        clear hy
        go_wp2_with (go_at_call 153; refine (refPut_any _ _ (by omega)).mono ?_; rintro e w1 ⟨rfl, hb1⟩)
        go_roundw
        case rel =>
          refine ⟨k + 1, x ++ ba (putS (bl y)), by omega, by simp, rfl, ?_, hb.trans (hb1.mono hb.size)⟩
          rw [HG.out, ← HX.out]
          simp
        case measure => simp [intOf]; omega
      · go_wp2_with fail
        go_ret
        refine ⟨?_, hb⟩
        have e : rowS (ss.map bl) = bl x := by rw [HX.out, ← rowK_all, show ss.length = k by omega]
        rw [e]
        rfl

theorem beq_texts (x y : ByteArray) : (x.toList == y.toList) = decide (x = y) := by
  rw [Bool.eq_iff_iff]
  simp only [beq_iff_eq, decide_eq_true_eq]
  rw [Lib.toList_data, Lib.toList_data]
  constructor
  · intro h
    exact ByteArray.ext (Array.toList_inj.1 h)
  · intro h; rw [h]
theorem same_step (xs ys : List ByteArray) (k : Nat) (hx : k < xs.length) (hy : k < ys.length) (h : xs.take k = ys.take k) :
    decide (xs.take (k + 1) = ys.take (k + 1)) = ((xs.getD k ByteArray.empty).toList == (ys.getD k ByteArray.empty).toList) := by
  rw [beq_texts, List.take_succ_eq_append_getElem hx, List.take_succ_eq_append_getElem hy, h]
  rw [List.getD_eq_getElem?_getD, List.getElem?_eq_getElem hx, List.getD_eq_getElem?_getD, List.getElem?_eq_getElem hy]
  rw [Bool.eq_iff_iff, decide_eq_true_eq, decide_eq_true_eq, ← List.take_succ_eq_append_getElem hy, List.take_succ_eq_append_getElem hy]
  constructor
  · intro e
    have := List.append_cancel_left e
    simpa using this
  · intro e
    simp only [Option.getD_some] at e
    rw [e]
def SameAt (xs ys : List ByteArray) (w : World) (s i : Value) (wr : World) : Prop :=
  ∃ k : Nat, k ≤ xs.length ∧ i = .int .i64 k ∧ s = .bool (decide (xs.take k = ys.take k)) ∧ Below w.heap.size w wr
theorem same_stop (xs ys : List ByteArray) (k : Nat) (h : ¬ xs.take k = ys.take k) : decide (xs = ys) = false := by
  rw [decide_eq_false_iff_not]
  intro e
  exact h (by rw [e])
theorem same_all (xs ys : List ByteArray) (k : Nat) (h1 : k = xs.length) (h2 : k = ys.length) (h : xs.take k = ys.take k) : decide (xs = ys) = true := by
  rw [decide_eq_true_eq]
  rw [List.take_of_length_le (by omega), List.take_of_length_le (by omega)] at h
  exact h

def StillAt (w : World) (s i : Value) (wr : World) : Prop := s = .bool false ∧ i = .int .i64 0 ∧ wr = w

end Go.Proofs.YtghpohiinnallaaGreatDoor.Nets

/-
  All texts of any bytes: nets.Texts walked.
-/
namespace Go.Proofs.YtghpohiinnallaaGreatDoor.Nets
open Go.RowKit

theorem infoString : (Tryz.prog.info? 9).map (fun i => (i.zero, i.size, i.bytes)) = some (some (.string ⟨#[]⟩), 1, 16) := by kernel_rfl
def szOf : Value → Nat
  | .string s => s.size
  | _ => 0

theorem szOf_ba (u : List UInt8) : szOf (.string (ba u)) = u.length := by simp [szOf, ByteArray.size]

theorem reads_owns {w : World} {B : Nat} {v : Value} {acc : List ByteArray} (h : w.ownsRow B 9 1 v acc.length (acc.map Value.string)) : Reads w v acc := by
  have hc := fun g hg => h.cells (g := g) hg
  have hlt := h.lt
  rcases h.2 with ⟨rfl, hn⟩ | ⟨g, cap, cur, rfl, hb, hg, h1, h2, _, _⟩
  · exact .inl ⟨none, 0, rfl, List.length_eq_zero_iff.1 hn⟩
  · by_cases h0 : acc.length = 0
    · exact .inl ⟨some ⟨g, 0, none⟩, cap, by rw [h0], List.length_eq_zero_iff.1 h0⟩
    · refine .inr ⟨by omega, g, 0, cap, rfl, h1, h2, (hlt g rfl).2, fun i hi => ?_⟩
      have e := hc g rfl i (.string (acc.getD i ByteArray.empty)) (by
        rw [List.getElem?_map, List.getD_eq_getElem?_getD, List.getElem?_eq_getElem hi]; rfl)
      have hp : (⟨g, 0, none⟩ : Addr).add i = ⟨g, 0 + i, none⟩ := by unfold Addr.add; split <;> simp_all
      rw [hp] at e
      exact e

def TextsPost (l : List UInt8) (w : World) (e : Ending) (w' : World) : Prop :=
  ∃ v, e = .returned (.tuple #[v, .int .i64 ((textsS l).2 : Nat)]) ∧ Reads w' v ((textsS l).1.map ba) ∧ Below w.heap.size w w'

def TextsAt (l : List UInt8) (w : World) (s v : Value) (wr : World) : Prop :=
  ∃ (rest : ByteArray) (acc : List ByteArray), s = .string rest ∧ wr.ownsRow w.heap.size 9 1 v acc.length (acc.map Value.string) ∧ Below w.heap.size w wr ∧ acc.length * 3 + rest.size ≤ l.length ∧
    textsS l = (if (textsS (bl rest)).2 ≠ 0 then ([], (textsS (bl rest)).2) else (acc.map bl ++ (textsS (bl rest)).1, 0))

theorem take_ok (s : ByteArray) (t u : List UInt8) (w : World) (hs : s.size ≤ 100000) (H : Hid (takeS (bl s) = (t, u, 0))) :
    Calls Tryz.prog 147 #[.string s] w fun e w' => e = .returned (.tuple #[.string (ba t), .string (ba u), .int .i64 0]) ∧ Below w.heap.size w w' := by
  have h := take_any s w hs
  rw [H.out] at h
  exact h
theorem take_err (s : ByteArray) (c : Nat) (w : World) (hs : s.size ≤ 100000) (H : Hid (takeS (bl s) = ([], [], c))) :
    Calls Tryz.prog 147 #[.string s] w fun e w' => e = .returned (.tuple #[.string ⟨#[]⟩, .string ⟨#[]⟩, .int .i64 c]) ∧ Below w.heap.size w w' := by
  have h := take_any s w hs
  rw [H.out] at h
  exact h
/-- The two ways of a taking. -/
theorem take_two (s : ByteArray) : (∃ t u, takeS (bl s) = (t, u, 0) ∧ u.length + 3 ≤ s.size ∧ t.length ≤ s.size) ∨ (∃ c, takeS (bl s) = ([], [], c) ∧ c ≠ 0 ∧ c ≤ 9) := by
  rcases put_take (bl s) with ⟨h1, h2, h3⟩ | ⟨h1, h2, h3⟩
  · refine .inl ⟨(takeS (bl s)).1, (takeS (bl s)).2.1, by rw [← h1], ?_, ?_⟩
    all_goals
      have h4 := congrArg List.length h2
      have e : (bl s).length = s.size := by simp
      have h5 : 1 ≤ (Lib.decDigits (takeS (bl s)).1.length).length := List.length_pos_iff.2 (dec_ne _)
      unfold putS at h4
      simp only [List.length_append, List.length_cons, List.length_nil] at h4
      omega
  · refine .inr ⟨(takeS (bl s)).2.2, ?_, h1, ?_⟩
    · generalize takeS (bl s) = r at *
      obtain ⟨a, b, c⟩ := r
      simp at h2 h3 ⊢
      exact ⟨h2, h3⟩
    · unfold takeS
      repeat' split
      all_goals simp

theorem TextsAt_step (l : List UInt8) (w wr w1 w2 : World) (rest : ByteArray) (acc : List ByteArray) (t u : List UInt8) (v : Value) (T : takeS (bl rest) = (t, u, 0)) (h0 : 0 < rest.size) (hu : u.length + 3 ≤ rest.size)
    (hb : Below w.heap.size w wr) (hb1 : Below wr.heap.size wr w1) (hb2 : Below w.heap.size w1 w2) (hz : acc.length * 3 + rest.size ≤ l.length)
    (hx : textsS l = (if (textsS (bl rest)).2 ≠ 0 then ([], (textsS (bl rest)).2) else (acc.map bl ++ (textsS (bl rest)).1, 0)))
    (hown : w2.ownsRow w.heap.size 9 1 v (acc.length + 1) (acc.map Value.string ++ [.string (ba t)])) : TextsAt l w (.string (ba u)) v w2 := by
  refine ⟨ba u, acc ++ [ba t], rfl, by simpa using hown, (hb.trans (hb1.mono hb.size)).trans hb2, ?_, ?_⟩
  · have e : (ba u).size = u.length := by simp [ByteArray.size]
    rw [e]
    simp
    omega
  · rw [hx, texts_step _ (bl_ne rest h0), T, bl_ba]
    simp only [ne_eq, not_true_eq_false, if_false]
    by_cases c : (textsS u).2 = 0
    · simp [c]
    · simp [c]
theorem TextsAt_end (l : List UInt8) (rest : ByteArray) (acc : List ByteArray) (h0 : rest.size = 0)
    (hx : textsS l = (if (textsS (bl rest)).2 ≠ 0 then ([], (textsS (bl rest)).2) else (acc.map bl ++ (textsS (bl rest)).1, 0))) : textsS l = (acc.map bl, 0) := by
  have e : bl rest = [] := emp_true rest (emp_of rest h0)
  rw [hx, e, texts_nil]
  simp
theorem TextsAt_err (l : List UInt8) (rest : ByteArray) (acc : List ByteArray) (c : Nat) (T : takeS (bl rest) = ([], [], c)) (hc : c ≠ 0) (h0 : 0 < rest.size)
    (hx : textsS l = (if (textsS (bl rest)).2 ≠ 0 then ([], (textsS (bl rest)).2) else (acc.map bl ++ (textsS (bl rest)).1, 0))) : textsS l = ([], c) := by
  have e : textsS (bl rest) = ([], c) := by rw [texts_step _ (bl_ne rest h0), T]; simp [hc]
  rw [hx, e]
  simp [hc]
theorem map_ba_bl (acc : List ByteArray) : (acc.map bl).map ba = acc := by
  rw [List.map_map]
  conv => rhs; rw [← List.map_id acc]
  rfl

theorem new_cell (w : World) (x : Value) : ∀ (j : Nat) (u : Value), [x][j]? = some u → (w.alloc (Obj.cells #[x] 9)).cell? ((⟨w.heap.size, 0, none⟩ : Addr).add j) = some u := by
  intro j u hu
  obtain rfl : j = 0 := by
    have := (List.getElem?_eq_some_iff.1 hu).1
    simpa using this
  have hp : (⟨w.heap.size, 0, none⟩ : Addr).add 0 = ⟨w.heap.size, 0, none⟩ := by unfold Addr.add; split <;> simp_all
  have hh : (w.alloc (.cells #[x] 9)).heap[w.heap.size]? = some (.cells #[x] 9) := by
    show (w.heap.push (.cells #[x] 9))[w.heap.size]? = _
    simp
  rw [hp, Lib.cell_of_heap hh]
  simpa using hu

set_option maxHeartbeats 1000000 in
theorem texts_any (s : ByteArray) (w : World) (hs : s.size ≤ 100000) : Calls Tryz.prog 124 #[.string s] w (TextsPost (bl s) w) := by
  obtain ⟨i0, hi, hz0, hz1, hz2⟩ := info_parts infoString
  have hl : (bl s).length ≤ 100000 := by simpa using hs
  have HS : Hid (TextsAt (bl s) w (.string s) (.slice none 0 0) w) := by
    refine ⟨s, [], rfl, World.ownsRow_nil _ _ _ _, Below.refl _ _, by simp, ?_⟩
    by_cases c : (textsS (bl s)).2 = 0
    · simp only [c, ne_eq, not_true_eq_false, if_false, List.map_nil, List.nil_append]
      exact Prod.ext rfl c
    · simp only [c, ne_eq, not_false_eq_true, if_true]
      exact Prod.ext (texts_bad _ _ (Nat.le_refl _) c) rfl
  generalize bl s = l at *
  go_enter Tryz.func124, Tryz.ntmps124
  go_wp2_with fail
  go_loopw [0, 4] (fun x v wr => TextsAt l w x v wr) (fun x _ _ => szOf x)
  case atStart => exact HS.out
  case round =>
    obtain ⟨rest, acc, rfl, hown, hb, hz, hx⟩ := hrel
    have HX := Lib.hid hx
    clear hx
    by_cases h0 : rest.size = 0
    · have hE := emp_of rest h0
      have HD := Lib.hid (TextsAt_end l rest acc h0 HX.out)
      clear h0
      go_wp2_with fail
      go_ret2
      refine ⟨_, by rw [HD.out]; rfl, ?_, hb⟩
      rw [HD.out, map_ba_bl]
      exact reads_owns hown
    · have hE := emp_not rest (by omega)
      rcases take_two rest with ⟨t, u, T, hu, ht⟩ | ⟨c, T, hc, hc9⟩
      · have HT := Lib.hid T
        clear T
        go_wp2_with (first | (go_at_call 147; refine (take_ok _ _ _ _ (by omega) HT).mono ?_; rintro e w1 ⟨rfl, hb1⟩; have hown1 := owns_below hown hb1; have hz1' := hb1.size; have hz2' := hb.size) | (at_builtin; refine wpList_append_own _ rfl _ _ 28 rfl w.heap.size 9 i0 (.string ⟨#[]⟩) 1 16 Tryz.underlying28 hi hz0 hz1 hz2 rfl (by decide) _ _ _ rfl (hown1.alloc _) ⟨w1.heap.size, 0, none⟩ 1 1 [.string (ba t)] rfl rfl ?c1 ?c2 ?c3 ?c4 ?c5 ?_))
        case c1 => exact new_cell w1 _
        case c2 => intro u hu; simp at hu; subst hu; rfl
        case c3 => unfold maxLen; omega
        case c4 => omega
        case c5 => simp; omega
        intro v' w2 hown2 hgrow _
        have HG : Hid (TextsAt l w (.string (ba u)) v' w2) := TextsAt_step l w wr w1 w2 rest acc t u v' HT.out (by omega) hu hb hb1 ((((Below.refl w.heap.size w1).alloc (by omega) _)).grown hgrow (by simp; omega) (fun k hk => (hown.lt k hk).1)) hz HX.out hown2
        go_wp2_with fail
        go_roundw
        case rel => exact HG.out
        case measure =>
          rw [szOf_ba]
          show u.length < rest.size
          omega
      · have HT := Lib.hid T
        have hne : ((c : Int) != 0) = true := by simpa using hc
        clear T hc
        go_wp2_with (go_at_call 147; refine (take_err _ _ _ (by omega) HT).mono ?_; rintro e w1 ⟨rfl, hb1⟩)
        go_ret2
        have HD := TextsAt_err l rest acc c HT.out (by simpa using hne) (by omega) HX.out
        refine ⟨_, by rw [HD]; rfl, ?_, hb.trans (hb1.mono hb.size)⟩
        rw [HD]
        exact .inl ⟨none, 0, rfl, rfl⟩

theorem Reads.form {w : World} {v : Value} {ss : List ByteArray} (h : Reads w v ss) : ∃ a cap, v = .slice a ss.length cap := by
  rcases h with ⟨a, cap, rfl, rfl⟩ | ⟨h0, b, off, cap, rfl, _⟩
  · exact ⟨a, cap, rfl⟩
  · exact ⟨_, cap, rfl⟩
end Go.Proofs.YtghpohiinnallaaGreatDoor.Nets

/-
  What text begins with, and all texts of any bytes: the document's Take and Texts walked.
-/
namespace Go.Proofs.YtghpohiinnallaaGreatDoor.Nets
open Go.RowKit

theorem dec_digs (l : List UInt8) (h0 : (digs l).length ≠ 0) : (decide (digs l = Lib.decDigits (val (digs l)))) = !decide (1 < (digs l).length ∧ l[0]? = some 48) := by
  have hne : digs l ≠ [] := by intro e; rw [e] at h0; exact h0 rfl
  have e0 : l[0]? = (digs l)[0]? := by
    rw [← digs_take l, List.getElem?_take, if_pos (by omega)]
  by_cases hz : 1 < (digs l).length ∧ l[0]? = some 48
  · rw [decide_eq_true hz]
    simp only [Bool.not_true, decide_eq_false_iff_not]
    intro e
    obtain ⟨h1, h2⟩ := hz
    rw [e0, e] at h2
    rw [e] at h1
    by_cases hv : 1 ≤ val (digs l)
    · exact dec_head _ hv h2
    · have : val (digs l) = 0 := by omega
      rw [this, Lib.decDigits_one (by decide)] at h1
      simp at h1
  · rw [decide_eq_false hz]
    simp only [Bool.not_false, decide_eq_true_eq]
    exact (dec_val _ (digs l) rfl hne (digs_all l) (by rw [← e0]; exact hz)).symm

theorem val_lt9 (l : List UInt8) (k : Nat) (hk : k ≤ 9) : val ((digs l).take k) < 1000000000 := by
  have h1 := val_lt _ ((digs l).take k) rfl (fun c hc => digs_all l c (List.mem_of_mem_take hc))
  have h2 : ((digs l).take k).length ≤ 9 := by simp; omega
  have h3 : (10:Nat) ^ ((digs l).take k).length ≤ 10 ^ 9 := Nat.pow_le_pow_right (by decide) h2
  omega
theorem val_digs_snoc (s : ByteArray) (j : Nat) (h : j < s.size) (hd : j + 1 ≤ (digs (bl s)).length) : val ((digs (bl s)).take (j + 1)) = 10 * val ((digs (bl s)).take j) + (s[j].toNat - 48) := by
  have e1 : (digs (bl s)).take (j + 1) = (bl s).take (j + 1) := by rw [← digs_take (bl s), List.take_take, Nat.min_eq_left hd]
  have e2 : (digs (bl s)).take j = (bl s).take j := by rw [← digs_take (bl s), List.take_take, Nat.min_eq_left (by omega)]
  rw [e1, e2, take_snoc s j h, val_snoc]
theorem digs_end (s : ByteArray) (j : Nat) (hj : j ≤ (digs (bl s)).length) (hjs : j ≤ s.size) (hD : ¬ ∃ h : j < s.size, isD s[j] = true) : (digs (bl s)).length = j := by
  have hl := digs_le (bl s)
  have e : (bl s).length = s.size := by simp
  by_cases h : j < s.size
  · refine digs_stop (bl s) j hj (by simpa using h) ?_
    rcases hb : isD (bl s)[j] with _ | _
    · rfl
    · exact absurd ⟨h, hb⟩ hD
  · omega

theorem take3 (s : ByteArray) (h0 : 0 < s.size) (hl : (digs (bl s)).length = 0) : takeS (bl s) = ([], [], 3) := by
  unfold takeS; rw [if_neg (bl_ne s h0), if_pos hl]
theorem take2 (s : ByteArray) (h0 : 0 < s.size) (hl : 9 < (digs (bl s)).length) : takeS (bl s) = ([], [], 2) := by
  unfold takeS; rw [if_neg (bl_ne s h0), if_neg (by omega), if_pos hl]
theorem take9 (s : ByteArray) (h0 : 0 < s.size) (h1 : (digs (bl s)).length = s.size) (hl : s.size ≤ 9) : takeS (bl s) = ([], [], 9) := by
  have e : (bl s).length = s.size := by simp
  unfold takeS; rw [if_neg (bl_ne s h0), if_neg (by omega), if_neg (by omega), if_pos (by omega)]
theorem take3b (s : ByteArray) (d : Nat) (h0 : 0 < s.size) (h1 : (digs (bl s)).length = d) (g1 : 1 ≤ d) (g9 : d ≤ 9) (hl : d < s.size) (h : ((s[d].toNat : Int) != 58) = true ∨ (1 < d ∧ (bl s)[0]? = some 48)) : takeS (bl s) = ([], [], 3) := by
  have e : (bl s).length = s.size := by simp
  unfold takeS; rw [if_neg (bl_ne s h0), if_neg (by omega), if_neg (by omega), if_neg (by omega), h1]
  rcases h with h | h
  · rw [if_pos]
    rw [bl_get? s d hl, ne_eq, some_u8]
    intro e
    rw [e] at h
    exact absurd h (by decide)
  · rw [if_pos h]
    split <;> rfl

theorem cmp_digs (s : ByteArray) (d v : Nat) (h1 : (digs (bl s)).length = d) (hv : v = val (digs (bl s))) (g1 : 1 ≤ d) : ((s.extract 0 d).toList == Lib.decDigits v) = !decide (1 < d ∧ (bl s)[0]? = some 48) := by
  have e : (s.extract 0 d).toList = digs (bl s) := by
    rw [Lib.toList_data, Lib.extract_data]
    simp only [List.drop_zero, Nat.sub_zero]
    rw [← h1]
    exact digs_take (bl s)
  have h := dec_digs (bl s) (by omega)
  rw [h1] at h
  rw [e, hv, ← h]
  rw [Bool.eq_iff_iff]
  simp
theorem take3c (s : ByteArray) (d v : Nat) (h0 : 0 < s.size) (h1 : (digs (bl s)).length = d) (hv : v = val (digs (bl s))) (g1 : 1 ≤ d) (g9 : d ≤ 9) (hl : d < s.size)
    (h : (!(s.extract 0 d).toList == Lib.decDigits v) = true) : takeS (bl s) = ([], [], 3) := by
  rw [cmp_digs s d v h1 hv g1] at h
  exact take3b s d h0 h1 g1 g9 hl (.inr (by simpa using h))
theorem takeT (s : ByteArray) (d v : Nat) (h0 : 0 < s.size) (h1 : (digs (bl s)).length = d) (hv : v = val (digs (bl s))) (g1 : 1 ≤ d) (g9 : d ≤ 9) (hl : d < s.size) (h58 : ((s[d].toNat : Int) != 58) = false)
    (h : (!(s.extract 0 d).toList == Lib.decDigits v) = false) : takeS (bl s) = if s.size < d + 1 + v + 1 then ([], [], 9) else if (bl s)[d + 1 + v]? ≠ some 44 then ([], [], 3) else (((bl s).drop (d + 1)).take v, (bl s).drop (d + 1 + v + 1), 0) := by
  rw [cmp_digs s d v h1 hv g1] at h
  have hz : ¬ (1 < d ∧ (bl s)[0]? = some 48) := by
    intro hc
    rw [decide_eq_true hc] at h
    cases h
  have e : (bl s).length = s.size := by simp
  have e58 : (bl s)[d]? = some 58 := by
    rw [bl_get? s d hl, some_u8]
    have : (s[d].toNat : Int) = 58 := by simpa using h58
    have e : (58 : UInt8).toNat = 58 := rfl
    omega
  unfold takeS
  rw [if_neg (bl_ne s h0), if_neg (by omega), if_neg (by omega), if_neg (by omega), h1, if_neg (by rw [e58]; simp), if_neg hz, ← hv, e]

def TextsAtI (l : List UInt8) (w : World) (s v i : Value) (wr : World) : Prop :=
  ∃ (rest : ByteArray) (acc : List ByteArray), s = .string rest ∧ wr.ownsRow w.heap.size 9 1 v acc.length (acc.map Value.string) ∧ Below w.heap.size w wr ∧ acc.length * 3 + rest.size ≤ l.length ∧
    textsS l = (if (textsS (bl rest)).2 ≠ 0 then ([], (textsS (bl rest)).2) else (acc.map bl ++ (textsS (bl rest)).1, 0)) ∧ i = .int .i64 acc.length
theorem TextsAtI_step (l : List UInt8) (w wr w1 w2 : World) (rest : ByteArray) (acc : List ByteArray) (t u : List UInt8) (v : Value) (T : takeS (bl rest) = (t, u, 0)) (h0 : 0 < rest.size) (hu : u.length + 3 ≤ rest.size)
    (hb : Below w.heap.size w wr) (hb1 : Below wr.heap.size wr w1) (hb2 : Below w.heap.size w1 w2) (hz : acc.length * 3 + rest.size ≤ l.length)
    (hx : textsS l = (if (textsS (bl rest)).2 ≠ 0 then ([], (textsS (bl rest)).2) else (acc.map bl ++ (textsS (bl rest)).1, 0)))
    (hown : w2.ownsRow w.heap.size 9 1 v (acc.length + 1) (acc.map Value.string ++ [.string (ba t)])) : TextsAtI l w (.string (ba u)) v (.int .i64 ((acc.length : Int) + 1)) w2 := by
  refine ⟨ba u, acc ++ [ba t], rfl, by simpa using hown, (hb.trans (hb1.mono hb.size)).trans hb2, ?_, ?_, by simp⟩
  · have e : (ba u).size = u.length := by simp [ByteArray.size]
    rw [e]
    simp
    omega
  · rw [hx, texts_step _ (bl_ne rest h0), T, bl_ba]
    simp only [ne_eq, not_true_eq_false, if_false]
    by_cases c : (textsS u).2 = 0
    · simp [c]
    · simp [c]
end Go.Proofs.YtghpohiinnallaaGreatDoor.Nets
