/-
  Pairs in plain words and in memory; the latest changes.
-/
import Derived.Test.YtghpohiinnallaaGreatDoorKgSortA
import Derived.Test.YtghpohiinnallaaGreatDoorKgSortC
import Derived.Lib.SliceRun
import Derived.Test.YtghpohiinnallaaGreatDoorKgBatchB

/-
  Plain facts on a store: pairs sorted by key, changed by changes; what an application in one pass makes, what is the latest change of each key, what the log has to have. No program is named here.
-/
namespace Go.Proofs.YtghpohiinnallaaGreatDoor.Kv
open Go
open Go.Proofs.YtghpohiinnallaaGreatDoor.Batch

structure Pr where
  key : ByteArray
  val : ByteArray
deriving DecidableEq
def prOf (c : Chg) : Pr := ⟨c.key, c.val⟩
/-- Pairs with a change done. -/
def one (l : List Pr) (c : Chg) : List Pr := sets Pr.key (!c.gone) (prOf c) l
def done (l : List Pr) (b : List Chg) : List Pr := b.foldl one l
theorem done_cons (l : List Pr) (c : Chg) (b : List Chg) : done l (c :: b) = done (one l c) b := rfl
theorem done_snoc (l : List Pr) (b : List Chg) (c : Chg) : done l (b ++ [c]) = one (done l b) c := by unfold done; rw [List.foldl_append]; rfl
theorem done_append (l : List Pr) (a b : List Chg) : done l (a ++ b) = done (done l a) b := by unfold done; rw [List.foldl_append]
theorem one_rising {l : List Pr} (h : Rising Pr.key l) (c : Chg) : Rising Pr.key (one l c) := sets_rising Pr.key _ _ l h
theorem done_rising {l : List Pr} (h : Rising Pr.key l) (b : List Chg) : Rising Pr.key (done l b) := by
  induction b generalizing l with
  | nil => exact h
  | cons c b ih => exact ih (one_rising h c)
theorem rising_nil : Rising Pr.key [] := List.Pairwise.nil

/-! What stands under a key tells the list. -/
theorem rising_head {α : Type} {nm : α → ByteArray} {x : α} {l : List α} (_h : Rising nm (x :: l)) : at? nm (nm x) (x :: l) = some x := by unfold at?; simp
theorem rising_ext {l r : List Pr} (hl : Rising Pr.key l) (hr : Rising Pr.key r) (h : ∀ n, at? Pr.key n l = at? Pr.key n r) : l = r := by
  have hm : ∀ x, x ∈ l ↔ x ∈ r := fun x => by
    have h1 := at_iff Pr.key hl (n := x.key) x
    have h2 := at_iff Pr.key hr (n := x.key) x
    rw [h] at h1
    constructor
    · intro hx; exact (h2.1 (h1.2 ⟨hx, rfl⟩)).1
    · intro hx; exact (h1.1 (h2.2 ⟨hx, rfl⟩)).1
  clear h
  induction l generalizing r with
  | nil =>
    cases r with
    | nil => rfl
    | cons y r => exact absurd ((hm y).2 (by simp)) (by simp)
  | cons x l ih =>
    cases r with
    | nil => exact absurd ((hm x).1 (by simp)) (by simp)
    | cons y r =>
      obtain ⟨hx1, hx2⟩ := List.pairwise_cons.1 hl
      obtain ⟨hy1, hy2⟩ := List.pairwise_cons.1 hr
      have e : x = y := by
        rcases List.mem_cons.1 ((hm x).1 (by simp)) with e | hx
        · exact e
        · rcases List.mem_cons.1 ((hm y).2 (by simp)) with e | hy
          · exact e.symm
          · have h1 := less_asymm (hx1 y hy)
            rw [hy1 x hx] at h1
            cases h1
      subst e
      congr 1
      refine ih hx2 hy2 fun z => ?_
      have hz := hm z
      constructor
      · intro h
        rcases List.mem_cons.1 (hz.1 (by simp [h])) with rfl | h'
        · have := hx1 z h; rw [less_irrefl] at this; cases this
        · exact h'
      · intro h
        rcases List.mem_cons.1 (hz.2 (by simp [h])) with rfl | h'
        · have := hy1 z h; rw [less_irrefl] at this; cases this
        · exact h'
theorem at_del {l : List Pr} (n m : ByteArray) : at? Pr.key n (del Pr.key m l) = if n = m then none else at? Pr.key n l := by
  induction l with
  | nil => simp [at?, del]
  | cons x l ih =>
    unfold at? del at ih ⊢
    by_cases h : x.key = m
    · rw [List.filter_cons_of_neg (by simpa using h), ih]
      by_cases hn : n = m
      · rw [if_pos hn, if_pos hn]
      · rw [if_neg hn, if_neg hn, List.find?_cons_of_neg (by simp; rw [h]; exact fun e => hn e.symm)]
    · rw [List.filter_cons_of_pos (by simpa using h)]
      by_cases hx : x.key = n
      · have hn : n ≠ m := fun e => h (hx.trans e)
        rw [List.find?_cons_of_pos (by simpa using hx), if_neg hn, List.find?_cons_of_pos (by simpa using hx)]
      · rw [List.find?_cons_of_neg (by simpa using hx), List.find?_cons_of_neg (by simpa using hx), ih]
def eff (c : Chg) : Option Pr := if c.gone then none else some (prOf c)
theorem at_one {l : List Pr} (h : Rising Pr.key l) (c : Chg) (n : ByteArray) : at? Pr.key n (one l c) = if n = c.key then eff c else at? Pr.key n l := by
  unfold one sets eff
  cases hg : c.gone
  · simp only [Bool.not_false, if_true, Bool.false_eq_true, if_false]
    by_cases e : n = c.key
    · rw [if_pos e, e]
      exact at_put_same Pr.key (prOf c) h
    · rw [if_neg e]
      exact at_put_other Pr.key (prOf c) h e
  · simp only [Bool.not_true, Bool.false_eq_true, if_false, if_true]
    exact at_del n c.key
/-- The latest change of a key. -/
def last (n : ByteArray) (b : List Chg) : Option Chg := at? Chg.key n b.reverse
theorem last_snoc (n : ByteArray) (b : List Chg) (c : Chg) : last n (b ++ [c]) = if c.key = n then some c else last n b := by
  unfold last at?
  rw [List.reverse_append, List.reverse_singleton, List.singleton_append]
  by_cases h : c.key = n
  · rw [if_pos h, List.find?_cons_of_pos (by simpa using h)]
  · rw [if_neg h, List.find?_cons_of_neg (by simpa using h)]
theorem snoc_ind {α : Type} {p : List α → Prop} (h0 : p []) (h1 : ∀ l x, p l → p (l ++ [x])) (l : List α) : p l := by
  rw [← List.reverse_reverse l]
  induction l.reverse with
  | nil => exact h0
  | cons x r ih => rw [List.reverse_cons]; exact h1 _ x ih
theorem at_done {l : List Pr} (h : Rising Pr.key l) (b : List Chg) (n : ByteArray) : at? Pr.key n (done l b) = match last n b with | some c => eff c | none => at? Pr.key n l := by
  refine snoc_ind (p := fun b => at? Pr.key n (done l b) = match last n b with | some c => eff c | none => at? Pr.key n l) rfl (fun b c ih => ?_) b
  rw [done_snoc, at_one (done_rising h b), last_snoc]
  by_cases e : c.key = n
  · rw [if_pos e, if_pos e.symm]
  · rw [if_neg e, if_neg fun e' => e e'.symm, ih]
/-- Two lists of changes with the same latest ones do the same. -/
theorem done_same {l : List Pr} (h : Rising Pr.key l) {a b : List Chg} (e : ∀ n, (last n a).map eff = (last n b).map eff) : done l a = done l b := by
  refine rising_ext (done_rising h a) (done_rising h b) fun n => ?_
  rw [at_done h, at_done h]
  have := e n
  cases ha : last n a <;> cases hb : last n b <;> rw [ha, hb] at this <;> simp at this
  · exact this
theorem last_rising {b : List Chg} (h : Rising Chg.key b) (n : ByteArray) : last n b = at? Chg.key n b := by
  unfold last
  cases hl : at? Chg.key n b.reverse with
  | some c =>
    obtain ⟨h1, h2⟩ := at_some Chg.key hl
    exact ((at_iff Chg.key h c).2 ⟨by simpa using h1, h2⟩).symm
  | none =>
    cases hr : at? Chg.key n b with
    | none => rfl
    | some c =>
      obtain ⟨h1, h2⟩ := at_some Chg.key hr
      exact absurd h2 (at_none Chg.key hl c (by simpa using h1))

/-! One pass over both. -/
def atN (R : List Pr) (n : ByteArray) : Nat := if (at? Pr.key n R).isSome then 1 else 0
def newL (c : Chg) : List Pr := if c.gone then [] else [prOf c]
theorem del_old {α : Type} (nm : α → ByteArray) {n : ByteArray} : ∀ {l : List α}, Rising nm l → ∀ {y : α}, at? nm n l = some y → del nm n l = l.take (lo nm n l) ++ l.drop (lo nm n l + 1)
  | [], _, y, h => by cases h
  | z :: r, hr, y, h => by
    obtain ⟨h1, h2⟩ := List.pairwise_cons.1 hr
    by_cases hn : nm z = n
    · have hz : less (nm z) n = false := by rw [hn]; exact less_irrefl _
      have hd : del nm n r = r := by
        unfold del
        rw [List.filter_eq_self]
        intro q hq
        have := h1 q hq
        simp only [Bool.not_eq_true', decide_eq_false_iff_not]
        intro e
        rw [hn, e, less_irrefl] at this; cases this
      rw [lo_cons, if_neg (by rw [hz]; simp)]
      unfold del at hd ⊢
      rw [List.filter_cons_of_neg (by simpa using hn), hd]
      rfl
    · have hr0 : at? nm n r = some y := by
        unfold at? at h ⊢
        rwa [List.find?_cons_of_neg (by simpa using hn)] at h
      have hlt : less (nm z) n = true := by
        obtain ⟨hm, he⟩ := at_some nm hr0
        rw [← he]
        exact h1 y hm
      have ih := del_old nm h2 hr0
      rw [lo_cons, if_pos hlt]
      unfold del at ih ⊢
      rw [List.filter_cons_of_pos (by simpa using hn), ih]
      rfl
theorem one_split {R : List Pr} (h : Rising Pr.key R) (c : Chg) : one R c = R.take (lo Pr.key c.key R) ++ newL c ++ R.drop (lo Pr.key c.key R + atN R c.key) := by
  unfold one sets newL atN
  cases hg : c.gone
  · simp only [Bool.not_false, if_true, Bool.false_eq_true, if_false]
    cases ha : at? Pr.key c.key R with
    | none =>
      rw [put_new Pr.key (prOf c) h ha]
      simp [prOf]
    | some y =>
      have hlt := (at_there Pr.key h ha).1
      rw [put_old Pr.key (prOf c) h ha]
      simp only [Option.isSome_some, if_true]
      rw [List.set_eq_take_append_cons_drop, if_pos (show lo Pr.key (prOf c).key R < R.length from hlt)]
      simp [prOf]
  · simp only [Bool.not_true, Bool.false_eq_true, if_false, if_true, List.append_nil]
    cases ha : at? Pr.key c.key R with
    | none =>
      rw [show (prOf c).key = c.key from rfl, del_none Pr.key ha]
      simp
    | some y =>
      simp only [Option.isSome_some, if_true]
      exact del_old Pr.key h ha
theorem one_ahead {A R : List Pr} {c : Chg} (h : ∀ a ∈ A, less a.key c.key = true) : one (A ++ R) c = A ++ one R c := by
  have hd : del Pr.key c.key A = A := by
    unfold del
    rw [List.filter_eq_self]
    intro a ha
    have := h a ha
    simp only [Bool.not_eq_true', decide_eq_false_iff_not]
    intro e
    rw [e, less_irrefl] at this; cases this
  have hda : del Pr.key c.key (A ++ R) = A ++ del Pr.key c.key R := by
    unfold del at hd ⊢
    rw [List.filter_append, hd]
  have hi : ∀ (A : List Pr), (∀ a ∈ A, less a.key c.key = true) → ∀ S, ins Pr.key (prOf c) (A ++ S) = A ++ ins Pr.key (prOf c) S := by
    intro A hA S
    induction A with
    | nil => rfl
    | cons a A ih =>
      rw [List.cons_append, ins, if_neg (by rw [show less (prOf c).key a.key = false from less_asymm (hA a (by simp))]; simp), ih fun x hx => hA x (by simp [hx])]
      rfl
  unfold one sets
  cases c.gone
  · simp only [Bool.not_false, if_true]
    unfold put
    rw [show (prOf c).key = c.key from rfl, hda, hi A h]
  · simp only [Bool.not_true, Bool.false_eq_true, if_false]
    exact hda
/-- What the pass has behind it, and what is left. -/
structure Pass (P : List Pr) (b : List Chg) (k : Nat) (A R : List Pr) : Prop where
  eq : A ++ R = done P (b.take k)
  rise : Rising Pr.key (A ++ R)
  ahead : ∀ a ∈ A, ∀ c ∈ b.drop k, less a.key c.key = true
theorem Pass.start {P : List Pr} (h : Rising Pr.key P) (b : List Chg) : Pass P b 0 [] P := ⟨rfl, h, fun a ha => by cases ha⟩
theorem Pass.next {P : List Pr} {b : List Chg} {k : Nat} {A R : List Pr} (h : Pass P b k A R) (hb : Rising Chg.key b) {c : Chg} (hc : b[k]? = some c) :
    Pass P b (k + 1) (A ++ R.take (lo Pr.key c.key R) ++ newL c) (R.drop (lo Pr.key c.key R + atN R c.key)) := by
  have hRr : Rising Pr.key R := (List.pairwise_append.1 h.rise).2.1
  obtain ⟨hk, hce⟩ := List.getElem?_eq_some_iff.1 hc
  have hd : b.drop k = c :: b.drop (k + 1) := by rw [List.drop_eq_getElem_cons hk, hce]
  have ha : ∀ a ∈ A, less a.key c.key = true := fun a ha => h.ahead a ha c (by rw [hd]; simp)
  have ht : b.take (k + 1) = b.take k ++ [c] := by rw [List.take_add_one, hc]; rfl
  have e : A ++ R.take (lo Pr.key c.key R) ++ newL c ++ R.drop (lo Pr.key c.key R + atN R c.key) = one (A ++ R) c := by
    rw [one_ahead ha, one_split hRr c]
    simp
  have hlater : ∀ c' ∈ b.drop (k + 1), less c.key c'.key = true := by
    have : Rising Chg.key (b.drop k) := List.Pairwise.sublist (List.drop_sublist _ _) hb
    rw [hd] at this
    exact (List.pairwise_cons.1 this).1
  refine ⟨?_, ?_, fun a haA c' hc' => ?_⟩
  · rw [e, ht, done_snoc, h.eq]
  · rw [e]; exact one_rising h.rise c
  · rcases List.mem_append.1 haA with haA | haA
    · refine less_trans ?_ (hlater c' hc')
      rcases List.mem_append.1 haA with haA | haA
      · exact ha a haA
      · obtain ⟨i, hi, rfl⟩ := List.getElem_of_mem haA
        rw [List.length_take] at hi
        have := lo_below Pr.key hRr (n := c.key) (i := i) (by omega)
        rw [List.getElem_take, this]
        simp
        omega
    · unfold newL at haA
      split at haA
      · cases haA
      · obtain rfl := List.mem_singleton.1 haA
        exact hlater c' hc'
theorem Pass.ends {P : List Pr} {b : List Chg} {A R : List Pr} (h : Pass P b b.length A R) : A ++ R = done P b := by
  have := h.eq
  rwa [List.take_length] at this

/-! The latest change of each key, in order. -/
def compGo : ByteArray → List Chg → List Chg
  | _, [] => []
  | k, y :: r => if y.key = k then compGo y.key r else y :: compGo y.key r
def comp : List Chg → List Chg
  | [] => []
  | x :: r => x :: compGo x.key r
theorem compGo_snoc : ∀ (k : ByteArray) (l : List Chg) (y : Chg), compGo k (l ++ [y]) = compGo k l ++ (if y.key = (match l.getLast? with | some z => z.key | none => k) then [] else [y])
  | k, [], y => by
    by_cases h : y.key = k <;> simp [compGo, h]
  | k, z :: r, y => by
    have ih := compGo_snoc z.key r y
    have e : (match (z :: r).getLast? with | some z => z.key | none => k) = (match r.getLast? with | some z => z.key | none => z.key) := by
      cases r with
      | nil => rfl
      | cons a r => rw [List.getLast?_cons_cons]; cases h : (a :: r).getLast? with
        | none => simp at h
        | some q => rfl
    rw [e, List.cons_append]
    unfold compGo
    split
    · exact ih
    · rw [ih]; rfl
theorem comp_snoc {l : List Chg} {z : Chg} (y : Chg) : comp ((l ++ [z]) ++ [y]) = comp (l ++ [z]) ++ (if y.key = z.key then [] else [y]) := by
  cases l with
  | nil =>
    show z :: compGo z.key ([] ++ [y]) = (z :: compGo z.key []) ++ _
    rw [compGo_snoc]
    rfl
  | cons a l =>
    show a :: compGo a.key ((l ++ [z]) ++ [y]) = (a :: compGo a.key (l ++ [z])) ++ _
    rw [compGo_snoc, List.getLast?_append]
    rfl
theorem comp_length : ∀ l : List Chg, (comp l).length ≤ l.length
  | [] => by simp [comp]
  | x :: r => by
    have : ∀ (k : ByteArray) (l : List Chg), (compGo k l).length ≤ l.length := by
      intro k l
      induction l generalizing k with
      | nil => simp [compGo]
      | cons y l ih => unfold compGo; split <;> have := ih y.key <;> simp <;> omega
    have := this x.key r
    simp [comp]
    omega
theorem compGo_up : ∀ (k : ByteArray) (l : List Chg), Up Chg.key l → (∀ y ∈ l, less y.key k = false) → Rising Chg.key (compGo k l) ∧ ∀ y ∈ compGo k l, less k y.key = true ∧ y ∈ l
  | _, [], _, _ => ⟨List.Pairwise.nil, fun y hy => by cases hy⟩
  | k, z :: r, hu, hk => by
    obtain ⟨h1, h2⟩ := List.pairwise_cons.1 hu
    obtain ⟨i1, i2⟩ := compGo_up z.key r h2 h1
    unfold compGo
    by_cases e : z.key = k
    · rw [if_pos e]
      rw [e] at i1 i2 ⊢
      exact ⟨i1, fun y hy => ⟨(i2 y hy).1, by simp [(i2 y hy).2]⟩⟩
    · rw [if_neg e]
      have hz : less k z.key = true := less_total (hk z (by simp)) (fun e' => e e'.symm)
      refine ⟨List.pairwise_cons.2 ⟨fun y hy => (i2 y hy).1, i1⟩, fun y hy => ?_⟩
      rcases List.mem_cons.1 hy with rfl | hy
      · exact ⟨hz, by simp⟩
      · exact ⟨less_trans hz (i2 y hy).1, by simp [(i2 y hy).2]⟩
theorem comp_rising {l : List Chg} (h : Up Chg.key l) : Rising Chg.key (comp l) ∧ ∀ y ∈ comp l, y ∈ l := by
  cases l with
  | nil => exact ⟨List.Pairwise.nil, fun y hy => hy⟩
  | cons x r =>
    obtain ⟨h1, h2⟩ := List.pairwise_cons.1 h
    obtain ⟨i1, i2⟩ := compGo_up x.key r h2 h1
    refine ⟨List.pairwise_cons.2 ⟨fun y hy => (i2 y hy).1, i1⟩, fun y hy => ?_⟩
    rcases List.mem_cons.1 hy with rfl | hy
    · simp
    · simp [(i2 y hy).2]
theorem compGo_at : ∀ (k n : ByteArray) (l : List Chg), k ≠ n → at? Chg.key n (compGo k l) = at? Chg.key n l
  | _, _, [], _ => rfl
  | k, n, z :: r, hk => by
    unfold compGo
    by_cases e : z.key = k
    · have hz : z.key ≠ n := fun h => hk (e.symm.trans h)
      rw [if_pos e, compGo_at z.key n r hz]
      unfold at?
      rw [List.find?_cons_of_neg (by simpa using hz)]
    · rw [if_neg e]
      unfold at?
      by_cases hz : z.key = n
      · rw [List.find?_cons_of_pos (by simpa using hz), List.find?_cons_of_pos (by simpa using hz)]
      · rw [List.find?_cons_of_neg (by simpa using hz), List.find?_cons_of_neg (by simpa using hz)]
        exact compGo_at z.key n r hz
theorem comp_at (n : ByteArray) (l : List Chg) : at? Chg.key n (comp l) = at? Chg.key n l := by
  cases l with
  | nil => rfl
  | cons x r =>
    show at? Chg.key n (x :: compGo x.key r) = _
    unfold at?
    by_cases hx : x.key = n
    · rw [List.find?_cons_of_pos (by simpa using hx), List.find?_cons_of_pos (by simpa using hx)]
    · rw [List.find?_cons_of_neg (by simpa using hx), List.find?_cons_of_neg (by simpa using hx)]
      exact compGo_at x.key n r hx
theorem alike_at {l r : List Chg} (h : Alike Chg.key l r) (n : ByteArray) : at? Chg.key n l = at? Chg.key n r := by
  unfold at?
  rw [← List.head?_filter, ← List.head?_filter, h n]
/-- Reversed, sorted, and of each key the first: that does what they all do. -/
theorem latest_done {l s : List Chg} (h : Up Chg.key s) (ha : Alike Chg.key l.reverse s) : Rising Chg.key (comp s) ∧ (∀ y ∈ comp s, y ∈ l) ∧ done [] (comp s) = done [] l := by
  obtain ⟨h1, h2⟩ := comp_rising h
  refine ⟨h1, fun y hy => by simpa using ha.mem (h2 y hy), done_same rising_nil fun n => ?_⟩
  rw [last_rising h1, comp_at, ← alike_at ha]
  rfl

/-! What is used; the texts that the log has. -/
def used (l : List Pr) : Nat := (l.map fun p => p.key.size + p.val.size).sum
theorem used_snoc (l : List Pr) (p : Pr) : used (l ++ [p]) = used l + (p.key.size + p.val.size) := by simp [used]
theorem used_le {l : List Pr} {p : Pr} (h : p ∈ l) : p.key.size + p.val.size ≤ used l := by
  induction l with
  | nil => cases h
  | cons x l ih =>
    have e : used (x :: l) = x.key.size + x.val.size + used l := by simp [used]
    rcases List.mem_cons.1 h with rfl | h
    · omega
    · have := ih h; omega
def putC (p : Pr) : Chg := ⟨p.key, p.val, false⟩
def texB (c : Chg) : ByteArray := ba (writeS c)
/-- A change that a text tells, and a log may have. -/
def Told (c : Chg) : Prop := c.norm = c ∧ chk c = 0
theorem last_puts (n : ByteArray) (l : List Pr) (h : Rising Pr.key l) : last n (l.map putC) = (at? Pr.key n l).map putC := by
  have hr : Rising Chg.key (l.map putC) := List.pairwise_map.2 h
  rw [last_rising hr]
  unfold at?
  rw [List.find?_map]
  rfl
/-- Put one behind the other they are what they are. -/
theorem done_puts {l : List Pr} (h : Rising Pr.key l) : done [] (l.map putC) = l := by
  refine rising_ext (done_rising rising_nil _) h fun n => ?_
  rw [at_done rising_nil, last_puts n l h]
  cases at? Pr.key n l with
  | none => rfl
  | some p => rfl
theorem one_mem {l : List Pr} {c : Chg} {p : Pr} (h : p ∈ one l c) : (c.gone = false ∧ p = prOf c) ∨ p ∈ l := by
  rcases sets_mem Pr.key h with ⟨h1, h2⟩ | h
  · exact .inl ⟨by simpa using h1, h2⟩
  · exact .inr h
theorem done_mem {l : List Pr} {b : List Chg} {p : Pr} (h : p ∈ done l b) : (∃ c ∈ b, c.gone = false ∧ p = prOf c) ∨ p ∈ l := by
  revert h
  refine snoc_ind (p := fun b => p ∈ done l b → (∃ c ∈ b, c.gone = false ∧ p = prOf c) ∨ p ∈ l) (fun h => .inr h) (fun b c ih h => ?_) b
  rw [done_snoc] at h
  rcases one_mem h with h | h
  · exact .inl ⟨c, by simp, h⟩
  · rcases ih h with ⟨c', h1, h2⟩ | h
    · exact .inl ⟨c', by simp [h1], h2⟩
    · exact .inr h
theorem one_length (l : List Pr) (c : Chg) : (one l c).length ≤ l.length + 1 := sets_length Pr.key _ _ _
theorem done_length (l : List Pr) (b : List Chg) : (done l b).length ≤ l.length + b.length := by
  refine snoc_ind (p := fun b => (done l b).length ≤ l.length + b.length) (by simp [done]) (fun b c ih => ?_) b
  rw [done_snoc, List.length_append]
  have := one_length (done l b) c
  simp
  omega
/-- What a store may have. -/
structure Fits (l : List Pr) : Prop where
  rise : Rising Pr.key l
  told : ∀ p ∈ l, Told (putC p)
theorem fits_nil : Fits [] := ⟨rising_nil, fun p hp => by cases hp⟩
theorem Fits.done {l : List Pr} (h : Fits l) {b : List Chg} (hb : ∀ c ∈ b, Told c) : Fits (done l b) := by
  refine ⟨done_rising h.rise b, fun p hp => ?_⟩
  rcases done_mem hp with ⟨c, h1, h2, rfl⟩ | hp
  · have : putC (prOf c) = c := by cases c; simp_all [putC, prOf]
    rw [this]
    exact hb c h1
  · exact h.told p hp
theorem Fits.size {l : List Pr} (h : Fits l) {p : Pr} (hp : p ∈ l) : 0 < p.key.size ∧ p.key.size ≤ 200 ∧ p.val.size ≤ 1048576 := fits_size (h.told p hp).2
theorem Fits.length {l : List Pr} (h : Fits l) : l.length ≤ used l := by
  have h2 := fun p hp => (h.size (p := p) hp).1
  clear h
  induction l with
  | nil => simp
  | cons x l ih =>
    have e : used (x :: l) = x.key.size + x.val.size + used l := by simp [used]
    have h1 := h2 x (by simp)
    have h3 := ih fun p hp => h2 p (by simp [hp])
    rw [List.length_cons]
    omega
end Go.Proofs.YtghpohiinnallaaGreatDoor.Kv

/-
  Walk of CompactFunc: of neighbours with the same key the first one.
-/
namespace Go.Proofs.YtghpohiinnallaaGreatDoor.Kv
open Go Go.RowKit
open Go.Proofs.YtghpohiinnallaaGreatDoor.Batch
open Go.Proofs.YtghpohiinnallaaGreatDoor.Sha (Kept wp_region_kept wp_region_kept_tail quiet_load_row)

theorem zero_cells (n : Nat) : ∃ l : List Value, (Builtin.zeroCells (Value.agg #[.string ⟨#[]⟩, .string ⟨#[]⟩, .bool false]).cells n).toList = l ∧ l.length = n * 3 ∧ ∀ v ∈ l, v.oneCell' = true := by
  refine ⟨_, rfl, by simp [Builtin.zeroCells, Value.cells], fun v hv => ?_⟩
  simp only [Builtin.zeroCells, Value.cells] at hv
  obtain ⟨i, hi, rfl⟩ := List.getElem_of_mem hv
  have h3 : i % 3 = 0 ∨ i % 3 = 1 ∨ i % 3 = 2 := by omega
  rcases h3 with h | h | h <;> simp [h, Value.oneCell']
/-- The end of a row cleared. -/
theorem clear_tail {w : World} {g cap : Nat} {L : List Chg} (h : Arr w g cap L) {k n c : Nat} (hn : k + n = L.length) (h0 : 0 < n) :
    ∃ w', (∀ ty, (Builtin.clear_ #[chsT] ty #[.slice (some ⟨g, k * 3, none⟩) n c]).run Tryz.prog w = .ok (.tuple #[]) w') ∧ Arr w' g cap (L.take k) ∧ Fr (fun k => k = g) w w' := by
  obtain ⟨cur, h1, h2, h3⟩ := h.lies
  obtain ⟨l, e1, e2, e3⟩ := zero_cells n
  have hcap := h.len
  have hst := run_storeCells_at Tryz.prog g (k * 3) chgT l 0 cur w h1 (by simp; omega) e3
  obtain ⟨i0, hi, hz0, hz1, hz2⟩ := info_parts infoC
  refine ⟨w.setRow g (cur.toList.take (k * 3) ++ l ++ cur.toList.drop (k * 3 + l.length)).toArray, fun ty => ?_, ⟨⟨_, setRow_heap _ _ _ _ _ _ h1, ?_, ?_⟩, ?_, h.cap⟩, ?_⟩
  · obtain ⟨m, rfl⟩ : ∃ m, n = m + 1 := ⟨n - 1, by omega⟩
    have hz : ∀ W, (zeroValue chgT).run Tryz.prog W = .ok (.agg #[.string ⟨#[]⟩, .string ⟨#[]⟩, .bool false]) W := fun W => by
      simp [zeroValue, typeInfo, hi, hz0]
    simp [Builtin.clear_, run_underlying Tryz.underlying103, hz, e1, hst]
  · simp only [List.size_toArray, List.length_append, List.length_take, List.length_drop, Array.length_toList, h2, e2]
    omega
  · have e4 : (L.take k).length = k := by rw [List.length_take]; omega
    rw [e4, flat_take, ← h3, List.take_take]
    simp only [List.append_assoc]
    rw [List.take_append_of_le_length (by rw [List.length_take, Array.length_toList, h2]; omega), List.take_take]
    rw [Nat.min_self, Nat.min_eq_left (by omega)]
  · rw [List.length_take]; omega
  · refine ⟨rfl, rfl, rfl, by simp, fun j _ hj => setRow_other _ _ _ _ hj⟩
/-- What CompactFunc hands back. -/
def Compacted (w : World) (g cap : Nat) (L : List Chg) (e : Ending) (w' : World) : Prop :=
  e = .returned (.slice (some ⟨g, 0, none⟩) (comp L).length cap) ∧ Arr w' g cap (comp L) ∧ Fr (fun k => k = g) w w'
theorem comp_one (L : List Chg) (h : L.length < 2) : comp L = L := by
  match L, h with
  | [], _ => rfl
  | [x], _ => rfl
theorem comp_take {L : List Chg} {k : Nat} {x z : Chg} (hz : L[k]? = some z) (hx : L[k + 1]? = some x) : comp (L.take (k + 2)) = comp (L.take (k + 1)) ++ (if x.key = z.key then [] else [x]) := by
  have e1 : L.take (k + 1) = L.take k ++ [z] := by rw [List.take_add_one, hz]; rfl
  have e2 : L.take (k + 2) = L.take (k + 1) ++ [x] := by rw [List.take_add_one, hx]; rfl
  rw [e2, e1]
  exact comp_snoc x

set_option maxRecDepth 100000 in
set_option maxHeartbeats 4000000 in
theorem compact_any (w : World) (g cap n : Nat) (L : List Chg) (h : Arr w g cap L) (hn : L.length = n) (hl : n ≤ 100000) :
    Calls Tryz.prog 90 #[.slice (some ⟨g, 0, none⟩) n cap, eqV] w (Compacted w g cap L) := by
  have hcap := h.cap
  have hnc : n ≤ cap := by rw [← hn]; exact h.len
  have HL := Lib.hid (And.intro h hn)
  clear h hn
  by_cases h2 : n < 2
  · go_enter Tryz.func90, Tryz.ntmps90
    go_wp2_with fail
    go_ret
    obtain ⟨h, hn⟩ := HL.out
    have e := comp_one L (by omega)
    exact ⟨by rw [e, hn]; rfl, by rw [e]; exact h, Fr.refl _ _⟩
  · go_enter Tryz.func90, Tryz.ntmps90
    go_wp2_with fail
    go_loopw [5] (fun kv wr => ∃ k : Nat, kv = .int .i64 ((k : Int) + 1) ∧ k + 1 ≤ n ∧ comp (L.take (k + 1)) = L.take (k + 1) ∧ Below w.heap.size w wr) (fun k _ => n - (intOf k).toNat)
    case atStart => exact ⟨0, rfl, by omega, comp_one _ (by rw [List.length_take]; omega), Below.refl _ _⟩
    case round =>
      obtain ⟨k, rfl, hk, hcm, hB⟩ := hrel
      obtain ⟨h, hn⟩ := HL.out
      by_cases hlt : k + 1 < n
      · obtain ⟨z, hz⟩ : ∃ z, L[k]? = some z := ⟨L[k]'(by omega), List.getElem?_eq_getElem (by omega)⟩
        obtain ⟨x, hx⟩ : ∃ x, L[k + 1]? = some x := ⟨L[k + 1]'(by omega), List.getElem?_eq_getElem (by omega)⟩
        have HR1 := Lib.hid (fun (W : World) (hk : Kept wr W) => h.range hz (Below.trans hB (Below.mono hk hB.size)))
        have HR2 := Lib.hid (fun (W : World) (hk : Kept wr W) => h.range hx (Below.trans hB (Below.mono hk hB.size)))
        have hct := comp_take hz hx
        rw [show k + 2 = (k + 1) + 1 by omega] at hct
        have hltz : (k : Int) + 1 < (n : Int) := by omega
        obtain ⟨K, hK⟩ : ∃ K, K = k + 1 := ⟨_, rfl⟩
        have eK : (k : Int) + 1 = (K : Int) := by omega
        have eK1 : (K : Int) - 1 = (k : Int) := by omega
        rw [eK]
        rw [← hK] at hx hcm HR2 hct hlt
        have HK := Lib.hid hK
        have hKn : K < n := hlt
        have hkn : k < n := by omega
        obtain ⟨bq, hbq⟩ : ∃ bq : Bool, decide (x.key = z.key) = bq := ⟨_, rfl⟩
        have HCM := Lib.hid (fun (W : World) => eq_any x z W bq hbq)
        have HS := Lib.hid (And.intro hct (And.intro hcm (And.intro hB (And.intro hbq (And.intro hx hz)))))
        clear hct hcm hB hbq hx hz hltz h hn hK eK hlt
        go_wp2_with fail
        refine wp_region_kept (by kernel_rfl) (by kernel_rfl) ?_
        repeat (first
          | (go_big_quiet_want
             first
               | refine quiet_load_row chgT (.tmp 21) rfl g (K * 3) (by simp [Act.eval]) (chC x) _ (fun w' hk => HR2.out w' hk) Tryz.underlying123 rfl size3 ?_
               | refine quiet_load_row chgT (.tmp 26) rfl g (k * 3) (by simp [Act.eval]) (chC z) _ (fun w' hk => HR1.out w' hk) Tryz.underlying123 rfl size3 ?_
             go_simp
             go_big_quiet_on)
          | (go_big_quiet_step ((first | (exact fun _ => rfl) | (intro hk; go_at_call 91; exact hk.call (HCM.out _))))))
        refine wpQuiet_nil ?_
        intro W hk
        have HW := Lib.hid (Below.trans HS.out.2.2.1 (Below.mono hk HS.out.2.2.1.size))
        clear hk
        cases bq
        · go_wp2_with fail
          go_roundw
          case rel =>
            obtain ⟨hct, hcm, hB, hbq, hx, hz⟩ := HS.out
            have hK := HK.out
            refine ⟨K, by simp, hKn, ?_, HW.out⟩
            rw [hct, if_neg (by simpa using hbq), hcm, List.take_add_one, hx]
            rfl
          case measure => simp [intOf]; omega
        · have h0 : Hid (comp (L.take (K + 1)) = L.take K) := by
            obtain ⟨hct, hcm, hB, hbq, hx, hz⟩ := HS.out
            rw [hct, if_pos (by simpa using hbq), hcm, List.append_nil]
            exact rfl
          go_wp2_with fail
          have HW0 : Hid (Below w.heap.size w W) := HW
          clear HS HR1 HR2 HCM HW
          go_loopw [5, 7] (fun kv tv wx => ∃ (c t : Nat) (M : List Chg), kv = .int .i64 c ∧ tv = .int .i64 ((t : Int) + 1) ∧ K + t + 1 ≤ n ∧ c ≤ K + t ∧ M.length = n ∧ M.take c = comp (L.take (K + t + 1)) ∧ M.drop (K + t) = L.drop (K + t) ∧ Arr wx g cap M ∧ Fr (fun k => k = g) w wx) (fun _ t _ => n - (intOf t).toNat)
          case atStart =>
            obtain ⟨h, hn⟩ := HL.out
            exact ⟨K, 0, L, rfl, rfl, by omega, by omega, hn, h0.out.symm, rfl, h.below HW0.out, Fr.of_below HW0.out⟩
          case round =>
            obtain ⟨c, t, M, rfl, rfl, ht, hc, hM, hT, hD, ha, hf⟩ := hrel
            by_cases hlt : K + t + 1 < n
            · obtain ⟨y, hy⟩ : ∃ y, M[K + t]? = some y := ⟨M[K + t]'(by omega), List.getElem?_eq_getElem (by omega)⟩
              obtain ⟨q, hq⟩ : ∃ q, M[K + t + 1]? = some q := ⟨M[K + t + 1]'(by omega), List.getElem?_eq_getElem (by omega)⟩
              have hyL : L[K + t]? = some y := by
                have := congrArg (fun l => l[0]?) hD
                simp only [List.getElem?_drop, Nat.add_zero] at this
                rw [← this]; exact hy
              have hqL : L[K + t + 1]? = some q := by
                have := congrArg (fun l => l[1]?) hD
                simp only [List.getElem?_drop] at this
                rw [← this]; exact hq
              have hct := comp_take hyL hqL
              obtain ⟨J, hJ⟩ : ∃ J, J = (K + t) * 3 := ⟨_, rfl⟩
              have HR1 := Lib.hid (fun (W : World) (hk : Kept wr W) => (by have := ha.range hy hk; rw [Nat.add_mul] at this; exact this : W.rangeAt g (K * 3 + t * 3) (chC y)))
              have HR2 := Lib.hid (fun (W : World) (hk : Kept wr W) => (by have := ha.range hq hk; rw [show (K + t + 1) * 3 = K * 3 + (t + 1) * 3 by omega] at this; exact this : W.rangeAt g (K * 3 + (t + 1) * 3) (chC q)))
              obtain ⟨bq, hbq⟩ : ∃ bq : Bool, decide (q.key = y.key) = bq := ⟨_, rfl⟩
              have HCM := Lib.hid (fun (W : World) => eq_any q y W bq hbq)
              have HS := Lib.hid (And.intro hct (And.intro hT (And.intro hD (And.intro hbq (And.intro ha (And.intro hf (And.intro hM (And.intro hc (And.intro hq hqL)))))))))
              have e1 : (t : Int) + 1 - 1 = (t : Int) := by omega
              obtain ⟨T, hT1⟩ : ∃ T, T = t + 1 := ⟨_, rfl⟩
              have eT : (t : Int) + 1 = (T : Int) := by omega
              rw [eT]
              have eT1 : (T : Int) - 1 = (t : Int) := by omega
              rw [← hT1] at HR2
              have HTT := Lib.hid hT1
              have hTn : T < n - K := by omega
              have htn : t < n - K := by omega
              clear hct hT hD hbq ha hf hM hy hq hyL hqL hc hT1 eT e1 hJ
              go_wp2_with fail
              refine wp_region_kept (by kernel_rfl) (by kernel_rfl) ?_
              repeat (first
                | (go_big_quiet_want
                   first
                     | refine quiet_load_row chgT (.tmp 41) rfl g (K * 3 + T * 3) (by simp [Act.eval]) (chC q) _ (fun w' hk => HR2.out w' hk) Tryz.underlying123 rfl size3 ?_
                     | refine quiet_load_row chgT (.tmp 46) rfl g (K * 3 + t * 3) (by simp [Act.eval]) (chC y) _ (fun w' hk => HR1.out w' hk) Tryz.underlying123 rfl size3 ?_
                   go_simp
                   go_big_quiet_on)
                | (go_big_quiet_step ((first | (exact fun _ => rfl) | (intro hk; go_at_call 91; exact hk.call (HCM.out _))))))
              refine wpQuiet_nil ?_
              intro W2 hk2
              cases bq
              · obtain ⟨hct, hT, hD, hbq, ha, hf, hM, hc, hq, hqL⟩ := HS.out
                have ha2 := ha.below hk2
                obtain ⟨x0, x1, x2⟩ := three (HR2.out W2 hk2)
                have f0 := ha2.free (c * 3)
                have f1 := ha2.free (c * 3 + 1)
                have f2 := ha2.free (c * 3 + 2)
                obtain ⟨y0, y1, y2⟩ : (∃ v, W2.cell? ⟨g, c * 3, none⟩ = some v) ∧ (∃ v, W2.cell? ⟨g, c * 3 + 1, none⟩ = some v) ∧ (∃ v, W2.cell? ⟨g, c * 3 + 2, none⟩ = some v) := by
                  have hcM : c < M.length := by omega
                  obtain ⟨z0, z1, z2⟩ := three (ha2.at (List.getElem?_eq_getElem hcM))
                  exact ⟨⟨_, z0⟩, ⟨_, z1⟩, ⟨_, z2⟩⟩
                obtain ⟨v0, y0⟩ := y0
                obtain ⟨v1, y1⟩ := y1
                obtain ⟨v2, y2⟩ := y2
                have hset := ha2.set (i := c) (by omega) q
                have hfr := (hf.trans (Fr.of_below (F := fun k => k = g) hk2) fun _ _ e => e).trans (Arr.setFr W2 g (c * 3) (.string q.key) (.string q.val) (.bool q.gone)) fun _ _ e => e
                have HSET := Lib.hid (And.intro hset hfr)
                have hcn : c < n := by omega
                clear hct hT hD hbq ha hf hM hc hq hqL ha2 hset hfr hk2
                go_wp2_with fail
                go_roundw
                case rel =>
                  obtain ⟨hct, hT, hD, hbq, ha, hf, hM, hc, hq, hqL⟩ := HS.out
                  have hTT := HTT.out
                  refine ⟨c + 1, T, M.set c q, by simp, by simp, by omega, by omega, by rw [List.length_set]; exact hM, ?_, ?_, HSET.out.1, HSET.out.2⟩
                  · rw [show K + T + 1 = K + t + 2 by omega, hct, if_neg (by simpa using hbq), ← hT, List.take_add_one, List.take_set_of_le (by omega), List.getElem?_set_self (by omega)]
                    rfl
                  · rw [List.drop_set_of_lt (by omega), show K + T = K + t + 1 by omega, ← List.drop_drop, hD, List.drop_drop]
                case measure => have := HTT.out; simp [intOf]; omega
              · have HK2 := Lib.hid hk2
                clear hk2
                go_wp2_with fail
                go_roundw
                case rel =>
                  obtain ⟨hct, hT, hD, hbq, ha, hf, hM, hc, hq, hqL⟩ := HS.out
                  have hTT := HTT.out
                  refine ⟨c, T, M, rfl, by simp, by omega, by omega, hM, ?_, ?_, ha.below HK2.out, hf.trans (Fr.of_below (F := fun k => k = g) HK2.out) fun _ _ e => e⟩
                  · rw [show K + T + 1 = K + t + 2 by omega, hct, if_pos (by simpa using hbq), List.append_nil, hT]
                  · rw [show K + T = K + t + 1 by omega, ← List.drop_drop, hD, List.drop_drop]
                case measure => have := HTT.out; simp [intOf]; omega
            · obtain rfl : n = K + t + 1 := by omega
              obtain ⟨w2, hcl, ha2, hf2⟩ := clear_tail ha (k := c) (n := K + t + 1 - c) (c := cap - c) (by omega) (by omega)
              have hn := HL.out.2
              rw [← hn, List.take_length] at hT
              have hcl2 : c = (comp L).length := by rw [← hT, List.length_take]; omega
              rw [hT] at ha2
              have HS := Lib.hid (And.intro ha2 (And.intro (hf.trans hf2 fun _ _ e => e) hcl2))
              have hcn : c ≤ K + t + 1 := by omega
              have hcc : ¬ (cap = c) := by omega
              have hcc2 : c < cap := by omega
              clear ha hf hT hD hM hc ha2 hf2 hn hcl2
              go_wp2_with fail
              go_ret
              obtain ⟨ha2, hf, hcl2⟩ := HS.out
              exact ⟨by rw [← hcl2]; rfl, ha2, hf⟩
      · have HS := Lib.hid (And.intro hcm hB)
        obtain rfl : n = k + 1 := by omega
        clear hcm hB h
        go_wp2_with fail
        go_ret
        obtain ⟨h, hn⟩ := HL.out
        have e : comp L = L := by have := HS.out.1; rw [← hn, List.take_length] at this; exact this
        refine ⟨by rw [e, hn]; simp, by rw [e]; exact h.below HS.out.2, Fr.of_below HS.out.2⟩
end Go.Proofs.YtghpohiinnallaaGreatDoor.Kv

/-
  Lists of pairs in memory: two cells each; one appended to another one.
-/
namespace Go.Proofs.YtghpohiinnallaaGreatDoor.Kv
open Go Go.RowKit
open Go.Proofs.YtghpohiinnallaaGreatDoor.Batch
open Go.Proofs.YtghpohiinnallaaGreatDoor.Nets (Tab Reads Small str)

abbrev prT : TypeId := 86
abbrev prsT : TypeId := 44
abbrev rfT : TypeId := 87
abbrev rfsT : TypeId := 31
abbrev stT : TypeId := 92
def prC (p : Pr) : List Value := [.string p.key, .string p.val]
abbrev prV (p : Pr) : Value := .agg #[.string p.key, .string p.val]
abbrev boxP (t : TypeId) (p : Pr) : Obj := .cells #[.string p.key, .string p.val] t
theorem prC_length (p : Pr) : (prC p).length = 2 := rfl
theorem flat2_length (q : List Pr) : (q.flatMap prC).length = q.length * 2 := by
  induction q with
  | nil => rfl
  | cons e q ih => rw [List.flatMap_cons, List.length_append, ih, prC_length, List.length_cons]; omega
theorem flat2_get : ∀ (q : List Pr) (i : Nat) (e : Pr), q[i]? = some e → ∀ j, j < 2 → (q.flatMap prC)[i * 2 + j]? = (prC e)[j]?
  | [], _, _, h, _, _ => by simp at h
  | x :: q, 0, e, h, j, hj => by
    obtain rfl : x = e := by simpa using h
    rw [List.flatMap_cons, List.getElem?_append_left (by rw [prC_length]; omega)]
    simp
  | x :: q, i + 1, e, h, j, hj => by
    rw [List.flatMap_cons, List.getElem?_append_right (by rw [prC_length]; omega), prC_length, show (i + 1) * 2 + j - 2 = i * 2 + j by omega]
    exact flat2_get q i e (by simpa using h) j hj
theorem flat2_snoc (l : List Pr) (e : Pr) : (l ++ [e]).flatMap prC = l.flatMap prC ++ prC e := by simp
theorem one_cell2 (c : Pr) : ∀ u ∈ prC c, u.oneCell' = true := by
  intro u hu
  unfold prC at hu
  simp only [List.mem_cons, List.not_mem_nil, or_false] at hu
  rcases hu with rfl | rfl <;> rfl
theorem flat2_one (q : List Pr) : ∀ u ∈ q.flatMap prC, u.oneCell' = true := by
  intro u hu
  obtain ⟨c, _, hc⟩ := List.mem_flatMap.1 hu
  exact one_cell2 c u hc
theorem two {w : World} {b o : Nat} {e : Pr} (h : w.rangeAt b o (prC e)) : w.cell? ⟨b, o, none⟩ = some (.string e.key) ∧ w.cell? ⟨b, o + 1, none⟩ = some (.string e.val) := ⟨h 0 _ rfl, h 1 _ rfl⟩

/-- The value is a slice that reads as these pairs. -/
def ReadsP (w : World) (v : Value) (q : List Pr) : Prop :=
  (v = .slice none 0 0 ∧ q = []) ∨
  (∃ b off cap, v = .slice (some ⟨b, off, none⟩) q.length cap ∧ q.length ≤ cap ∧ cap ≤ 9223372036854775807 ∧ b < w.heap.size ∧ ∀ i e, q[i]? = some e → w.rangeAt b (off + i * 2) (prC e))
section
variable {w w' : World} {v : Value} {q : List Pr}
theorem ReadsP.below (h : ReadsP w v q) (hb : Below w.heap.size w w') : ReadsP w' v q := by
  rcases h with h | ⟨b, off, cap, rfl, h1, h2, h3, h4⟩
  · exact .inl h
  · exact .inr ⟨b, off, cap, rfl, h1, h2, by have := hb.size; omega, fun i e hi => range_below (h4 i e hi) h3 hb⟩
theorem ReadsP.frame {F : Nat → Prop} (h : ReadsP w v q) (hf : Fr F w w') (hn : ∀ k, v.ownBlock = some k → ¬ F k) : ReadsP w' v q := by
  rcases h with h | ⟨b, off, cap, rfl, h1, h2, h3, h4⟩
  · exact .inl h
  · refine .inr ⟨b, off, cap, rfl, h1, h2, by have := hf.size; omega, fun i e hi j x hx => ?_⟩
    have hb := hf.block b h3 (hn b rfl)
    rw [World.cell?_of_block (a := ⟨b, off + i * 2 + j, none⟩) hb]
    exact h4 i e hi j x hx
theorem ReadsP.shape (h : ReadsP w v q) : ∃ a cap, v = .slice a q.length cap := by
  rcases h with ⟨rfl, rfl⟩ | ⟨b, off, cap, rfl, _⟩
  · exact ⟨none, 0, rfl⟩
  · exact ⟨_, cap, rfl⟩
theorem ReadsP.lt (h : ReadsP w v q) : ∀ k, v.ownBlock = some k → k < w.heap.size := by
  rcases h with ⟨rfl, rfl⟩ | ⟨b, off, cap, rfl, _, _, h3, _⟩
  · intro k hk; cases hk
  · intro k hk; obtain rfl : b = k := by simpa [Value.ownBlock] using hk
    exact h3
theorem nil_readsP (w : World) : ReadsP w (.slice none 0 0) [] := .inl ⟨rfl, rfl⟩
end
theorem owns_readsP {w : World} {B : Nat} {t : TypeId} {v : Value} {q : List Pr} (h : w.ownsRow B t 2 v q.length (q.flatMap prC)) : ReadsP w v q := by
  have hc := fun g hg => h.cells (g := g) hg
  have hlt := h.lt
  rcases h.2 with ⟨rfl, hn⟩ | ⟨g, cap, cur, rfl, hb, hg, h1, h2, _, _⟩
  · exact .inl ⟨rfl, List.length_eq_zero_iff.1 hn⟩
  · refine .inr ⟨g, 0, cap, rfl, h1, by unfold maxLen at h2; omega, (hlt g rfl).2, fun i e hi j v hv => ?_⟩
    have hj : j < 2 := by
      have := (List.getElem?_eq_some_iff.1 hv).1
      rw [prC_length] at this
      exact this
    have e1 := hc g rfl (i * 2 + j) v (by rw [flat2_get q i e hi j hj]; exact hv)
    rw [addr_add] at e1
    rw [← e1]
    congr 2
    omega
theorem size2 : (Tryz.prog.info? prT).map (·.size) = some 2 := by kernel_rfl
theorem sizeF : (Tryz.prog.info? rfT).map (·.size) = some 2 := by kernel_rfl
theorem infoP : (Tryz.prog.info? prT).map (fun i => (i.zero, i.size, i.bytes)) = some (some (.agg #[.string ⟨#[]⟩, .string ⟨#[]⟩]), 2, 32) := by kernel_rfl
theorem infoF : (Tryz.prog.info? rfT).map (fun i => (i.zero, i.size, i.bytes)) = some (some (.agg #[.string ⟨#[]⟩, .string ⟨#[]⟩]), 2, 32) := by kernel_rfl
theorem new_boxP (w : World) (t : TypeId) (c : Pr) : (w.alloc (boxP t c)).rangeAt w.heap.size 0 (prC c) := by
  intro j u h
  have hb := heap_alloc_new w (boxP t c)
  simp only [World.cell?, hb, Nat.zero_add]
  unfold prC at h
  match j, h with
  | 0, h => simpa using h
  | 1, h => simpa using h
  | j + 2, h => simp at h
theorem append_no {w : World} {B : Nat} {v : Value} {n cap : Nat} {a : Option Addr} {xs : List Value} (ho : w.ownsRow B prT 2 v n xs) : a = none → (Builtin.append_ #[prsT, prsT] prsT #[v, .slice a 0 cap]).run Tryz.prog w = .ok v w := by
  rintro rfl
  obtain ⟨i, hi, _, hz1, _⟩ := info_parts infoP
  rcases ho.2 with ⟨rfl, rfl⟩ | ⟨g, c, cur, rfl, _, _, hnc, _⟩
  · simp [Builtin.append_, run_underlying Tryz.underlying44, sizeOf, typeInfo, hi, Builtin.lenOf, Builtin.firstCells]
  · simp [Builtin.append_, run_underlying Tryz.underlying44, sizeOf, typeInfo, hi, Builtin.lenOf, Builtin.firstCells, hnc, storeCells]
/-- Pairs appended to an owned list. -/
theorem append_pairs (w : World) (B : Nat) (u v : Value) (us ps : List Pr) (ho : w.ownsRow B prT 2 u us.length (us.flatMap prC)) (hr : ReadsP w v ps) (hl : us.length ≤ 1000000) (hm : ps.length ≤ 1000000) (hB : B ≤ w.heap.size) :
    ∃ v' w', (Builtin.append_ #[prsT, prsT] prsT #[u, v]).run Tryz.prog w = .ok v' w' ∧
      Hid (w'.ownsRow B prT 2 v' (us ++ ps).length ((us ++ ps).flatMap prC) ∧ Fr (fun k => u.ownBlock = some k) w w' ∧ (∀ k, v'.ownBlock = some k → u.ownBlock = some k ∨ w.heap.size ≤ k)) := by
  obtain ⟨i0, hi, hz0, hz1, hz2⟩ := info_parts infoP
  rcases hr with ⟨rfl, rfl⟩ | ⟨b, off, cap, rfl, h1, h2, h3, h4⟩
  · exact ⟨u, w, append_no ho rfl, Lib.hid ⟨by simpa using ho, Fr.refl _ _, fun k hk => .inl hk⟩⟩
  · obtain ⟨v', w', hr, h5, h6, _, h7⟩ := run_append_own_at (P := Tryz.prog) w B prsT prsT prT i0 _ 2 32 Tryz.underlying44 hi hz0 hz1 hz2 rfl (by decide) u us.length _ ho ⟨b, off, none⟩ ps.length cap (ps.flatMap prC) (flat2_length ps) (fun j x hx => by
      have hj := (List.getElem?_eq_some_iff.1 hx).1
      rw [flat2_length] at hj
      have hk : j / 2 < ps.length := by omega
      have e := flat2_get ps (j / 2) ps[j / 2] (List.getElem?_eq_getElem hk) (j % 2) (by omega)
      rw [show j / 2 * 2 + j % 2 = j by omega, hx] at e
      have := h4 (j / 2) _ (List.getElem?_eq_getElem hk) (j % 2) x e.symm
      rw [addr_add]
      rwa [show off + j / 2 * 2 + j % 2 = off + j by omega] at this) (flat2_one ps) (by unfold maxLen; omega) (by omega) hB
    refine ⟨v', w', hr, Lib.hid ⟨?_, (Fr.refl _ w).grown h6 fun k hk _ => hk, fun k hk => ?_⟩⟩
    · rw [List.length_append, List.flatMap_append]
      exact h5
    · rcases h7 with h7 | h7
      · exact .inl (h7 ▸ hk)
      · rw [h7] at hk
        have := Option.some.inj hk
        exact .inr (by omega)
theorem reads_oneP {w : World} {g : Nat} {p : Pr} (hg : Lies w g #[.string p.key, .string p.val] prT) : ReadsP w (.slice (some ⟨g, 0, none⟩) 1 1) [p] := by
  refine .inr ⟨g, 0, 1, rfl, by simp, by decide, hg.lt, fun i e hi => ?_⟩
  match i, hi with
  | 0, hi =>
    obtain rfl : p = e := by simpa using hi
    intro j u hu
    simp only [Nat.zero_mul, Nat.zero_add, Nat.add_zero]
    rw [hg.cell]
    simpa [prC] using hu
  | i + 1, hi => simp at hi
/-- A part of a list that is read, as slicing gives it. -/
structure RowP (w : World) (b off cap : Nat) (q : List Pr) : Prop where
  len : q.length ≤ cap
  cap : cap ≤ 9223372036854775807
  lt : b < w.heap.size
  at_ : ∀ i e, q[i]? = some e → w.rangeAt b (off + i * 2) (prC e)
theorem RowP.reads {w : World} {b off cap n : Nat} {q : List Pr} (h : RowP w b off cap q) (hn : n = q.length) : ReadsP w (.slice (some ⟨b, off, none⟩) n cap) q := by
  subst hn
  exact .inr ⟨b, off, cap, rfl, h.len, h.cap, h.lt, h.at_⟩
theorem ReadsP.cases {w : World} {v : Value} {q : List Pr} (h : ReadsP w v q) : (v = .slice none 0 0 ∧ q = []) ∨ ∃ b off cap, v = .slice (some ⟨b, off, none⟩) q.length cap ∧ RowP w b off cap q := by
  rcases h with h | ⟨b, off, cap, rfl, h1, h2, h3, h4⟩
  · exact .inl h
  · exact .inr ⟨b, off, cap, rfl, h1, h2, h3, h4⟩
theorem RowP.below {w w' : World} {b off cap : Nat} {q : List Pr} (h : RowP w b off cap q) (hb : Below w.heap.size w w') : RowP w' b off cap q :=
  ⟨h.len, h.cap, by have := hb.size; have := h.lt; omega, fun i e hi => range_below (h.at_ i e hi) h.lt hb⟩
theorem RowP.take {w : World} {b off cap n : Nat} {q : List Pr} (h : RowP w b off cap q) (hn : n ≤ q.length) : ReadsP w (.slice (some ⟨b, off, none⟩) n cap) (q.take n) := by
  have hl : (q.take n).length = n := by rw [List.length_take]; omega
  refine .inr ⟨b, off, cap, by rw [hl], by have := h.len; omega, h.cap, h.lt, fun i e hi => ?_⟩
  rw [List.getElem?_take] at hi
  split at hi
  · exact h.at_ i e hi
  · cases hi
theorem RowP.drop {w : World} {b off cap n : Nat} {q : List Pr} (h : RowP w b off cap q) (hn : n ≤ q.length) : ReadsP w (.slice (some ⟨b, off + n * 2, none⟩) (q.length - n) (cap - n)) (q.drop n) := by
  have hl : (q.drop n).length = q.length - n := List.length_drop
  have := h.len
  have := h.cap
  refine .inr ⟨b, off + n * 2, cap - n, by rw [hl], by omega, by omega, h.lt, fun i e hi => ?_⟩
  rw [List.getElem?_drop] at hi
  have := h.at_ (n + i) e hi
  rwa [show off + (n + i) * 2 = off + n * 2 + i * 2 by omega] at this
theorem RowP.none {w : World} {b off cap n m : Nat} {q : List Pr} (h : RowP w b off cap q) (hn : q.length ≤ n) : ReadsP w (.slice (some ⟨b, off, none⟩) 0 m) (q.drop n) ∨ 9223372036854775807 < m := by
  by_cases hm : m ≤ 9223372036854775807
  · rw [List.drop_eq_nil_of_le hn]
    exact .inl (.inr ⟨b, off, m, rfl, by simp, hm, h.lt, fun i e hi => by simp at hi⟩)
  · exact .inr (by omega)
end Go.Proofs.YtghpohiinnallaaGreatDoor.Kv

/-
  Walks of the store: the search for a key, what pairs use, their texts.
-/
namespace Go.Proofs.YtghpohiinnallaaGreatDoor.Kv
open Go Go.RowKit
open Go.Proofs.YtghpohiinnallaaGreatDoor.Batch
open Go.Proofs.YtghpohiinnallaaGreatDoor.Nets (Tab Reads Small str)

set_option maxHeartbeats 1000000 in
theorem fnP_any (p : Pr) (k : ByteArray) (w : World) (n : Int) (hn : Lib.compareBytes (Batch.bl p.key) (Batch.bl k) = n) :
    Calls Tryz.prog 74 #[prV p, .string k] w fun e w' => e = .returned (.int .i64 n) ∧ Below w.heap.size w w' := by
  subst hn
  go_enter Tryz.func74, Tryz.ntmps74
  go_wp2_with (go_at_call 75; refine (compare_any _ _ _).mono ?_; rintro e w' ⟨rfl, rfl⟩)
  go_ret
  exact ⟨rfl, (Below.refl _ _).alloc (Nat.le_refl _) _⟩
abbrev fnPV : Value := .func (.func 74) #[] #[]
/-- What the comparison tells of the pair at a place. -/
def signP (k : ByteArray) (q : List Pr) (i : Nat) : Int := if i < lo Pr.key k q then -1 else if i = lo Pr.key k q ∧ (at? Pr.key k q).isSome = true then 0 else 1
theorem signP_of {q : List Pr} (hr : Rising Pr.key q) (k : ByteArray) {i : Nat} {x : Pr} (h : q[i]? = some x) : Lib.compareBytes (Batch.bl x.key) (Batch.bl k) = signP k q i := by
  obtain ⟨hi, rfl⟩ := List.getElem?_eq_some_iff.1 h
  have hb := lo_below Pr.key hr (n := k) hi
  unfold signP
  by_cases h1 : i < lo Pr.key k q
  · rw [if_pos h1]
    exact cmp_lt (by rw [← decide_eq_true h1, ← hb]; rfl)
  · rw [if_neg h1]
    have hb' : less q[i].key k = false := by rw [hb]; exact decide_eq_false h1
    by_cases h2 : q[i].key = k
    · have ha := at_mem Pr.key hr q[i] (List.getElem_mem hi)
      rw [h2] at ha
      have h3 := at_there Pr.key hr ha
      have h4 : i = lo Pr.key k q := by
        rcases Nat.lt_or_ge (lo Pr.key k q) i with h5 | h5
        · exfalso
          have h6 : q[lo Pr.key k q]'h3.1 = q[i] := by
            have := h3.2
            rw [List.getElem?_eq_getElem h3.1] at this
            exact Option.some.inj this
          have h7 := List.pairwise_iff_getElem.1 hr _ _ h3.1 hi h5
          rw [h6, less_irrefl] at h7
          cases h7
        · omega
      rw [if_pos ⟨h4, by rw [ha]; rfl⟩, h2]
      exact cmp_same _
    · rw [if_neg]
      · exact cmp_gt (less_total hb' (fun e => h2 e.symm))
      · rintro ⟨rfl, h3⟩
        cases ha : at? Pr.key k q with
        | none => rw [ha] at h3; cases h3
        | some y =>
          have h4 := (at_there Pr.key hr ha).2
          rw [List.getElem?_eq_getElem hi] at h4
          have h5 := (at_some Pr.key ha).2
          rw [← Option.some.inj h4] at h5
          exact h2 h5
theorem signP_cases (k : ByteArray) (q : List Pr) (i : Nat) : (i < lo Pr.key k q ∧ signP k q i = -1) ∨ (lo Pr.key k q ≤ i ∧ (signP k q i = 0 ∨ signP k q i = 1)) := by
  unfold signP
  by_cases h1 : i < lo Pr.key k q
  · exact .inl ⟨h1, by rw [if_pos h1]⟩
  · refine .inr ⟨by omega, ?_⟩
    rw [if_neg h1]
    split
    · exact .inl rfl
    · exact .inr rfl

def SearchP (w : World) (L : Nat) (q : List Pr) (i j : Value) (wr : World) : Prop :=
  ∃ a b : Nat, i = .int .i64 a ∧ j = .int .i64 b ∧ a ≤ L ∧ L ≤ b ∧ b ≤ q.length ∧ Below w.heap.size w wr
set_option maxHeartbeats 2000000 in
theorem searchP_any (v : Value) (q : List Pr) (k : ByteArray) (w : World) (h : ReadsP w v q) (hr : Rising Pr.key q) (hl : q.length ≤ 1000000) :
    Calls Tryz.prog 73 #[v, .string k, fnPV] w fun e w' => e = .returned (.tuple #[.int .i64 (lo Pr.key k q), .bool (at? Pr.key k q).isSome]) ∧ Below w.heap.size w w' := by
  have hlo := lo_le Pr.key k q
  rcases h with ⟨rfl, rfl⟩ | ⟨b, off, cap, rfl, _, _, h3, h4⟩
  · go_enter Tryz.func73, Tryz.ntmps73
    go_wp2_with fail
    go_loopw [9, 10] (fun i j wr => i = .int .i64 0 ∧ j = .int .i64 0 ∧ wr = w) (fun _ _ _ => 0)
    case atStart => exact ⟨rfl, rfl, rfl⟩
    case round =>
      obtain ⟨rfl, rfl, rfl⟩ := hrel
      go_wp2_with fail
      go_ret2
      exact ⟨rfl, Below.refl _ _⟩
  · have HC := Lib.hid (fun (W : World) (hW : Below w.heap.size w W) (i : Nat) (x : Pr) (hx : q[i]? = some x) => two (range_below (h4 i x hx) h3 hW))
    have HS := Lib.hid (fun (i : Nat) (x : Pr) (hx : q[i]? = some x) => signP_of hr k hx)
    have HQ := Lib.hid (signP_cases k q)
    clear h4
    have HA : Hid ((at? Pr.key k q).isSome = decide (lo Pr.key k q < q.length ∧ signP k q (lo Pr.key k q) = 0)) := by
      refine Lib.hid ?_
      unfold signP
      rw [if_neg (Nat.lt_irrefl _)]
      cases ha : at? Pr.key k q with
      | none => simp
      | some y => simp [(at_there Pr.key hr ha).1]
    generalize signP k q = S at *
    generalize lo Pr.key k q = L at *
    generalize (at? Pr.key k q).isSome = A at *
    clear hr
    go_enter Tryz.func73, Tryz.ntmps73
    go_wp2_with fail
    go_loopw [9, 10] (fun i j wr => SearchP w L q i j wr) (fun i j _ => (intOf j - intOf i).toNat)
    case atStart => exact ⟨0, q.length, rfl, rfl, Nat.zero_le _, hlo, Nat.le_refl _, Below.refl _ _⟩
    case round =>
      obtain ⟨a, b', rfl, rfl, ha, hb, hbl, hB⟩ := hrel
      have HB := Lib.hid hB
      clear hB
      by_cases hlt : a < b'
      · obtain ⟨m, hm1, hm2, hm3⟩ : ∃ m : Nat, ((a : Int) + b') / 2 = m ∧ a ≤ m ∧ m < b' := ⟨(a + b') / 2, by omega, by omega, by omega⟩
        obtain ⟨x, hx⟩ : ∃ x, q[m]? = some x := ⟨q[m]'(by omega), List.getElem?_eq_getElem (by omega)⟩
        obtain ⟨c0, c1⟩ := HC.out wr HB.out m x hx
        have hX := HS.out m x hx
        have hQm := HQ.out m
        clear hx
        rcases hQm with ⟨hml, hS⟩ | ⟨hml, hS | hS⟩
        all_goals
          rw [hS] at hX
          have HX := Lib.hid hX
          clear hX hS
          go_wp2_with fail
          refine (fnP_any x k _ _ HX.out).mono ?_
          rintro e w1 ⟨rfl, hb1⟩
          have HB1 := Lib.hid (HB.out.trans (hb1.mono HB.out.size))
          clear hb1
          go_wp2_with fail
          go_roundw
          case rel => first | exact ⟨m + 1, b', by simp, rfl, by omega, by omega, by omega, HB1.out⟩ | exact ⟨a, m, rfl, rfl, by omega, by omega, by omega, HB1.out⟩
          case measure => simp [intOf]; omega
      · obtain rfl : a = b' := by omega
        obtain rfl : a = L := by omega
        by_cases hq : a < q.length
        · obtain ⟨x, hx⟩ : ∃ x, q[a]? = some x := ⟨q[a], List.getElem?_eq_getElem hq⟩
          obtain ⟨c0, c1⟩ := HC.out wr HB.out a x hx
          have hX := HS.out a x hx
          have hQm := HQ.out a
          clear hx
          have hS : S a = 0 ∨ S a = 1 := by rcases hQm with ⟨h, _⟩ | ⟨_, h⟩; exact absurd h (by omega); exact h
          clear hQm
          rcases hS with hS | hS
          all_goals
            have HAA := Lib.hid (HA.out.trans (by rw [hS]; simp [hq] : _ = decide (S a = 0)))
            rw [hS] at hX HAA
            have HX := Lib.hid hX
            clear hX hS
            go_wp2_with fail
            refine (fnP_any x k _ _ HX.out).mono ?_
            rintro e w1 ⟨rfl, hb1⟩
            have HB1 := Lib.hid (HB.out.trans (hb1.mono HB.out.size))
            clear hb1
            go_wp2_with fail
            go_ret2
            exact ⟨by rw [HAA.out]; rfl, HB1.out⟩
        · have HAA := Lib.hid (HA.out.trans (decide_eq_false (fun e => hq e.1)))
          go_wp2_with fail
          go_ret2
          exact ⟨by rw [HAA.out]; rfl, HB.out⟩
theorem findP_any (v : Value) (q : List Pr) (k : ByteArray) (w : World) (h : ReadsP w v q) (hr : Rising Pr.key q) (hl : q.length ≤ 1000000) :
    Calls Tryz.prog 42 #[v, .string k] w fun e w' => e = .returned (.tuple #[.int .i64 (lo Pr.key k q), .bool (at? Pr.key k q).isSome]) ∧ Below w.heap.size w w' := by
  have HR := Lib.hid (searchP_any v q k w h hr hl)
  clear h hr
  go_enter Tryz.func42, Tryz.ntmps42
  go_wp2_with fail
  refine HR.out.mono ?_
  rintro e w1 ⟨rfl, hb1⟩
  have HB1 := Lib.hid hb1
  clear hb1
  go_wp2_with fail
  go_ret2
  exact ⟨rfl, HB1.out⟩

theorem used_take {q : List Pr} {i : Nat} {p : Pr} (h : q[i]? = some p) : used (q.take (i + 1)) = used (q.take i) + (p.key.size + p.val.size) := by
  have e : q.take (i + 1) = q.take i ++ [p] := by rw [List.take_add_one, h]; rfl
  rw [e, used_snoc]
theorem used_take_le (q : List Pr) (i : Nat) : used (q.take i) ≤ used q := by
  conv => rhs; rw [← List.take_append_drop i q]
  unfold used
  rw [List.map_append, List.sum_append]
  omega
set_option maxHeartbeats 1000000 in
theorem space_any (v : Value) (q : List Pr) (w : World) (h : ReadsP w v q) (hl : q.length ≤ 1000000) (hu : used q ≤ 1000000000000) :
    Calls Tryz.prog 52 #[v] w fun e w' => e = .returned (.int .i64 (used q)) ∧ Below w.heap.size w w' := by
  rcases h with ⟨rfl, rfl⟩ | ⟨b, off, cap, rfl, _, _, h3, h4⟩
  · go_enter Tryz.func52, Tryz.ntmps52
    go_wp2_with fail
    go_loopw [3, 8] (fun n i wr => n = .int .i64 0 ∧ i = .int .i64 0 ∧ wr = w) (fun _ _ _ => 0)
    case atStart => exact ⟨rfl, rfl, rfl⟩
    case round =>
      obtain ⟨rfl, rfl, rfl⟩ := hrel
      go_wp2_with fail
      go_ret
      exact ⟨rfl, Below.refl _ _⟩
  · have HC := Lib.hid (fun (W : World) (hW : Below w.heap.size w W) (i : Nat) (x : Pr) (hx : q[i]? = some x) => two (range_below (h4 i x hx) h3 hW))
    have HU := Lib.hid (fun (i : Nat) (p : Pr) (hp : q[i]? = some p) => used_take hp)
    have HT := Lib.hid (used_take_le q)
    obtain ⟨N, hN⟩ : ∃ N, N = q.length := ⟨_, rfl⟩
    have HN := Lib.hid hN
    rw [← hN] at hl ⊢
    clear h4 hN
    go_enter Tryz.func52, Tryz.ntmps52
    go_wp2_with fail
    go_loopw [3, 8] (fun nv iv wr => ∃ i n : Nat, nv = .int .i64 n ∧ iv = .int .i64 i ∧ i ≤ N ∧ n = used (q.take i) ∧ Below w.heap.size w wr) (fun _ i _ => N - (intOf i).toNat)
    case atStart => exact ⟨0, 0, rfl, rfl, Nat.zero_le _, rfl, Below.refl _ _⟩
    case round =>
      obtain ⟨i, n, rfl, rfl, hi, hn, hB⟩ := hrel
      by_cases hlt : i < N
      · obtain ⟨p, hp⟩ : ∃ p, q[i]? = some p := ⟨q[i]'(by rw [← HN.out]; exact hlt), List.getElem?_eq_getElem _⟩
        obtain ⟨c0, c1⟩ := HC.out wr hB i p hp
        have hu1 := HU.out i p hp
        have hu2 := HT.out (i + 1)
        have hb1 : n + (p.key.size + p.val.size) ≤ 1000000000000 := by omega
        have HS := Lib.hid (And.intro hu1 (And.intro hn hB))
        obtain ⟨k1, hk1⟩ : ∃ k1, k1 = p.key.size := ⟨_, rfl⟩
        obtain ⟨k2, hk2⟩ : ∃ k2, k2 = p.val.size := ⟨_, rfl⟩
        clear hp hu1 hu2 hn hB hk1 hk2
        go_wp2_with fail
        go_roundw
        case rel =>
          obtain ⟨hu1, hn, hB⟩ := HS.out
          exact ⟨i + 1, n + (p.key.size + p.val.size), by simp, by simp, hlt, by rw [hu1, hn], hB.alloc hB.size _⟩
        case measure => simp [intOf]; omega
      · obtain rfl : i = N := by omega
        have HS := Lib.hid (And.intro hn hB)
        clear hn hB
        go_wp2_with fail
        go_ret
        obtain ⟨hn, hB⟩ := HS.out
        refine ⟨?_, hB⟩
        rw [hn, HN.out, List.take_length]
        rfl
end Go.Proofs.YtghpohiinnallaaGreatDoor.Kv

/-
  Walks of the store: the latest change of each key, the changes that texts tell.
-/
namespace Go.Proofs.YtghpohiinnallaaGreatDoor.Kv
open Go Go.RowKit
open Go.Proofs.YtghpohiinnallaaGreatDoor.Batch
open Go.Proofs.YtghpohiinnallaaGreatDoor.Nets (Tab Reads Small str)

set_option maxHeartbeats 1000000 in
theorem reverse_nil (w : World) : Calls Tryz.prog 87 #[.slice none 0 0] w fun e w' => e = .returned (.tuple #[]) ∧ w' = w := by
  go_enter Tryz.func87, Tryz.ntmps87
  go_wp2_with fail
  go_loopw [2, 3] (fun i j wr => i = .int .i64 0 ∧ j = .int .i64 (-1) ∧ wr = w) (fun _ _ _ => 0)
  case atStart => exact ⟨rfl, rfl, rfl⟩
  case round =>
    obtain ⟨rfl, rfl, rfl⟩ := hrel
    go_wp2_with fail
    go_end0
    exact ⟨rfl, rfl⟩
set_option maxHeartbeats 1000000 in
theorem insertion_nil (w : World) : Calls Tryz.prog 148 #[.slice none 0 0, .int .i64 0, .int .i64 0, cmpV] w fun e w' => e = .returned (.tuple #[]) ∧ w' = w := by
  go_enter Tryz.func148, Tryz.ntmps148
  go_wp2_with fail
  go_loopw [8] (fun i wr => i = .int .i64 1 ∧ wr = w) (fun _ _ => 0)
  case atStart => exact ⟨rfl, rfl⟩
  case round =>
    obtain ⟨rfl, rfl⟩ := hrel
    go_wp2_with fail
    go_end0
    exact ⟨rfl, rfl⟩
set_option maxHeartbeats 1000000 in
theorem stable_nil (w : World) : Calls Tryz.prog 126 #[.slice none 0 0, .int .i64 0, cmpV] w fun e w' => e = .returned (.tuple #[]) ∧ w' = w := by
  go_enter Tryz.func126, Tryz.ntmps126
  go_wp2_with fail
  go_loopw [7, 8] (fun a b wr => a = .int .i64 0 ∧ b = .int .i64 20 ∧ wr = w) (fun _ _ _ => 0)
  case atStart => exact ⟨rfl, rfl, rfl⟩
  case round =>
    obtain ⟨rfl, rfl, rfl⟩ := hrel
    go_wp2_with fail
    refine (insertion_nil _).mono ?_
    rintro e w1 ⟨rfl, rfl⟩
    go_wp2_with fail
    go_loopw [6, 7, 8, 9] (fun s _ _ _ wx => s = .int .i64 20 ∧ wx = w1) (fun _ _ _ _ _ => 0)
    case atStart => exact ⟨rfl, rfl⟩
    case round =>
      obtain ⟨rfl, rfl⟩ := hrel
      go_wp2_with fail
      go_end0
      exact ⟨rfl, rfl⟩
theorem sort_nil (w : World) : Calls Tryz.prog 88 #[.slice none 0 0, cmpV] w fun e w' => e = .returned (.tuple #[]) ∧ w' = w := by
  go_enter Tryz.func88, Tryz.ntmps88
  go_wp2_with fail
  refine (stable_nil _).mono ?_
  rintro e w1 ⟨rfl, rfl⟩
  go_wp2_with fail
  go_end0
  exact ⟨rfl, rfl⟩
theorem compact_nil (w : World) : Calls Tryz.prog 90 #[.slice none 0 0, eqV] w fun e w' => e = .returned (.slice none 0 0) ∧ w' = w := by
  go_enter Tryz.func90, Tryz.ntmps90
  go_wp2_with fail
  go_ret
  exact ⟨rfl, rfl⟩
/-- What is told of each key at last, and in order. -/
def Latest (w : World) (B : Nat) (cs : List Chg) (e : Ending) (w' : World) : Prop :=
  ∃ v' t, e = .returned v' ∧ ReadsC w' v' t ∧ Rising Chg.key t ∧ t.length ≤ cs.length ∧ (∀ y ∈ t, y ∈ cs) ∧ done [] t = done [] cs ∧ Below B w w'
theorem Arr.reads {w : World} {g cap : Nat} {L : List Chg} (h : Arr w g cap L) : ReadsC w (.slice (some ⟨g, 0, none⟩) L.length cap) L := by
  by_cases h0 : L.length = 0
  · rw [h0]
    exact .inl ⟨_, _, rfl, List.length_eq_zero_iff.1 h0⟩
  · exact .inr ⟨by omega, g, 0, cap, rfl, h.lt, fun i e hi => by rw [Nat.zero_add]; exact h.at hi⟩
theorem owns_arr {w : World} {B : Nat} {v : Value} {q : List Chg} (h : w.ownsRow B chgT 3 v q.length (q.flatMap chC)) : (v = .slice none 0 0 ∧ q = []) ∨ ∃ g cap, v = .slice (some ⟨g, 0, none⟩) q.length cap ∧ B ≤ g ∧ Arr w g cap q := by
  rcases h.2 with ⟨rfl, hn⟩ | ⟨g, cap, cur, rfl, hb, hg, h1, h2, h3, h4⟩
  · exact .inl ⟨rfl, List.length_eq_zero_iff.1 hn⟩
  · exact .inr ⟨g, cap, rfl, hb, ⟨⟨cur, hg, h3, h4⟩, h1, by unfold maxLen at h2; omega⟩⟩
theorem latest_any (w : World) (B : Nat) (v : Value) (cs : List Chg) (h : w.ownsRow B chgT 3 v cs.length (cs.flatMap chC)) (hB : B ≤ w.heap.size) (hl : cs.length ≤ 100000) :
    Calls Tryz.prog 51 #[v] w (Latest w B cs) := by
  rcases owns_arr h with ⟨rfl, rfl⟩ | ⟨g, cap, rfl, hg, ha⟩
  · clear h
    go_enter Tryz.func51, Tryz.ntmps51
    go_wp2_with fail
    refine (reverse_nil _).mono ?_
    rintro e w1 ⟨rfl, rfl⟩
    go_wp2_with fail
    refine (sort_nil _).mono ?_
    rintro e w2 ⟨rfl, rfl⟩
    go_wp2_with fail
    refine (compact_nil _).mono ?_
    rintro e w3 ⟨rfl, rfl⟩
    go_wp2_with fail
    go_ret
    exact ⟨_, [], rfl, nil_reads _, List.Pairwise.nil, Nat.le_refl _, fun y hy => hy, rfl, Below.refl _ _⟩
  · have HR := Lib.hid (reverse_any w g cap cs ha hl)
    obtain ⟨n, hn⟩ : ∃ n, n = cs.length := ⟨_, rfl⟩
    rw [← hn] at hl HR ⊢
    have HN := Lib.hid hn
    clear h ha hn
    go_enter Tryz.func51, Tryz.ntmps51
    go_wp2_with fail
    refine HR.out.mono ?_
    rintro e w1 ⟨rfl, ha1, hf1⟩
    have HS := Lib.hid (sort_any w1 g cap n cs.reverse ha1 (by rw [List.length_reverse]; exact HN.out.symm) hl)
    have HF1 := Lib.hid hf1
    clear ha1 hf1
    go_wp2_with fail
    refine HS.out.mono ?_
    rintro e w2 ⟨s, ⟨rfl, ha2, hf2⟩, hup, hal, hsl⟩
    have HC := Lib.hid (compact_any w2 g cap n s ha2 (by rw [hsl, List.length_reverse]; exact HN.out.symm) hl)
    have HL := Lib.hid (And.intro (latest_done hup hal) hsl)
    have HF2 := Lib.hid (HF1.out.trans hf2 fun _ _ e => e)
    clear ha2 hf2 hup hal hsl
    go_wp2_with fail
    refine HC.out.mono ?_
    rintro e w3 ⟨rfl, ha3, hf3⟩
    have HA := Lib.hid (And.intro ha3 (HF2.out.trans hf3 fun _ _ e => e))
    clear ha3 hf3
    go_wp2_with fail
    go_ret
    obtain ⟨⟨h1, h2, h3⟩, h4⟩ := HL.out
    refine ⟨_, comp s, rfl, HA.out.1.reads, h1, ?_, h2, h3, HA.out.2.below hB fun k hk => by rw [hk]; exact hg⟩
    have := comp_length s
    rw [List.length_reverse] at h4
    omega

/-- Texts that tell changes. -/
structure Tells (ss : List ByteArray) (cs : List Chg) : Prop where
  eq : ss = cs.map texB
  told : ∀ c ∈ cs, Told c
theorem tell_read {c : Chg} (h : Told c) : readS (Batch.bl (texB c)) = (c, 0) := by
  show readS (Batch.bl (ba (writeS c))) = _
  rw [bl_ba]
  exact read_write c h.1 h.2
/-- A list of changes with one appended, its length by a name. -/
theorem append_n (n : Nat) {q : List Chg} (hn : q.length = n) (w : World) (B : Nat) (v : Value) (x : Chg) (vb : Nat) (ho : w.ownsRow B chgT 3 v n (q.flatMap chC)) (hl : n ≤ 100000) (hB : B ≤ w.heap.size) (hx : w.rangeAt vb 0 (chC x)) :
    ∃ v' w', (Builtin.append_ #[chsT, chsT] chsT #[v, .slice (some ⟨vb, 0, none⟩) 1 1]).run Tryz.prog w = .ok v' w' ∧
      Hid (w'.ownsRow B chgT 3 v' (n + 1) ((q ++ [x]).flatMap chC) ∧ Fr (fun k => v.ownBlock = some k) w w' ∧ (∀ k, v'.ownBlock = some k → v.ownBlock = some k ∨ w.heap.size ≤ k)) := by
  subst hn
  exact append_chg w B v q x vb ho hl hB hx
set_option maxRecDepth 100000 in
set_option maxHeartbeats 2000000 in
theorem read_all (v : Value) (cs : List Chg) (w : World) (hr : Reads w v (cs.map texB)) (ht : ∀ c ∈ cs, Told c) (hs : ∀ c ∈ cs, (texB c).size ≤ 100000) (hl : cs.length ≤ 100000) :
    Calls Tryz.prog 49 #[v] w fun e w' => ∃ v', e = .returned (.tuple #[v', .int .i64 0]) ∧ w'.ownsRow w.heap.size chgT 3 v' cs.length (cs.flatMap chC) ∧ Below w.heap.size w w' := by
  rcases hr with ⟨a, cap, rfl, he⟩ | ⟨h0, b, off, cap, rfl, h1, h2, h3, h4⟩
  · obtain rfl : cs = [] := List.map_eq_nil_iff.1 he
    go_enter Tryz.func49, Tryz.ntmps49
    go_wp2_with fail
    go_loopw [4, 11] (fun u i wr => u = .slice none 0 0 ∧ i = .int .i64 0 ∧ wr = w) (fun _ _ _ => 0)
    case atStart => exact ⟨rfl, rfl, rfl⟩
    case round =>
      obtain ⟨rfl, rfl, rfl⟩ := hrel
      go_wp2_with fail
      go_ret2
      exact ⟨_, rfl, World.ownsRow_nil _ _ _ _, Below.refl _ _⟩
  · obtain ⟨n, hn⟩ : ∃ n, n = cs.length := ⟨_, rfl⟩
    rw [List.length_map, ← hn] at h0 h1 h4
    rw [List.length_map, ← hn]
    rw [← hn] at hl
    have HN := Lib.hid hn
    have HC := Lib.hid (fun (W : World) (hW : Below w.heap.size w W) (i : Nat) (c : Chg) (hc : cs[i]? = some c) => (by
      have hi := (List.getElem?_eq_some_iff.1 hc).1
      have := h4 i (by omega)
      rw [hW.cell (p := ⟨b, off + i, none⟩) h3, this, List.getD_eq_getElem?_getD, List.getElem?_map, hc]
      rfl : W.cell? ⟨b, off + i, none⟩ = some (.string (texB c))))
    have HK := Lib.hid (fun (c : Chg) (hc : c ∈ cs) (W : World) => (by
      have := read_any (texB c) W (hs c hc)
      rw [tell_read (ht c hc)] at this
      exact this : Calls Tryz.prog 86 #[.string (texB c)] W (ReadPost (c, 0) W)))
    clear h4 hn ht hs h1
    go_enter Tryz.func49, Tryz.ntmps49
    go_wp2_with fail
    go_loopw [4, 11] (fun u iv wr => ∃ i : Nat, iv = .int .i64 i ∧ i ≤ n ∧ wr.ownsRow w.heap.size chgT 3 u i ((cs.take i).flatMap chC) ∧ Below w.heap.size w wr) (fun _ i _ => n - (intOf i).toNat)
    case atStart => exact ⟨0, rfl, Nat.zero_le _, by simpa using World.ownsRow_nil _ _ _ _, Below.refl _ _⟩
    case round =>
      obtain ⟨i, rfl, hi, ho, hB⟩ := hrel
      obtain ⟨ua, uc, hu⟩ := owns_slice ho
      by_cases hlt' : i < n
      · obtain ⟨c, hc⟩ : ∃ c, cs[i]? = some c := ⟨cs[i]'(by have := HN.out; omega), List.getElem?_eq_getElem _⟩
        have c0 := HC.out wr hB i c hc
        have HR := Lib.hid (HK.out c (List.mem_of_getElem? hc) wr)
        have e1 : cs.take (i + 1) = cs.take i ++ [c] := by rw [List.take_add_one, hc]; rfl
        have hli : (cs.take i).length = i := by rw [List.length_take]; have := HN.out; omega
        have HS := Lib.hid (And.intro ho (And.intro hB (And.intro e1 (And.intro hli hu))))
        clear ho hB e1 hli hc
        subst hu
        go_wp2_with fail
        refine HR.out.mono ?_
        rintro e w1 ⟨rfl, hb1⟩
        obtain ⟨ho, hB, e1, hli, _⟩ := HS.out
        have hB1 : Below w.heap.size w w1 := hB.trans (hb1.mono hB.size)
        have ho1 := Nets.owns_below ho hb1
        have hB2 : Below w.heap.size w1 ((w1.alloc (boxC chgT c)).alloc (boxC chgT c)) := ((Below.refl _ _).alloc hB1.size _).alloc (by have := hB1.size; simp; omega) _
        obtain ⟨v', w3, hrun, hh⟩ := append_n i hli ((w1.alloc (boxC chgT c)).alloc (boxC chgT c)) w.heap.size _ c (w1.alloc (boxC chgT c)).heap.size ((ho1.alloc _).alloc _) (by omega) (by have := hB1.size; simp; omega) (new_box _ chgT c)
        rw [show (w1.alloc (boxC chgT c)).heap.size = w1.heap.size + 1 by simp] at hrun
        have HRUN := Lib.hid hrun
        have HH := Lib.hid (And.intro hh.out (And.intro (hB1.trans hB2) (ho1.alloc (boxC chgT c)).lt))
        clear ho hB e1 hli hB1 ho1 hB2 hrun hh hb1
        go_wp2_with (at_builtin; refine Lib.wpList_append_run _ rfl _ _ _ _ rfl _ _ rfl rfl _ _ HRUN.out ?_)
        go_roundw
        case rel =>
          obtain ⟨⟨h1, h2, _⟩, hb, hlt⟩ := HH.out
          obtain ⟨_, _, e1, _⟩ := HS.out
          refine ⟨i + 1, by simp, hlt', ?_, ?_⟩
          · rw [e1]; exact h1
          · exact hb.trans (h2.below (Nat.le_trans (Nat.le_of_eq rfl) hb.size) fun k hk => (hlt k hk).1)
        case measure => simp [intOf]; omega
      · obtain rfl : i = n := by omega
        have HS := Lib.hid (And.intro ho hB)
        have hcl : cs.take i = cs := by rw [HN.out, List.take_length]
        rw [hcl] at ho
        have HS := Lib.hid (And.intro ho hB)
        clear ho hB hcl
        subst hu
        go_wp2_with fail
        go_ret2
        exact ⟨_, rfl, HS.out.1, HS.out.2⟩
end Go.Proofs.YtghpohiinnallaaGreatDoor.Kv
