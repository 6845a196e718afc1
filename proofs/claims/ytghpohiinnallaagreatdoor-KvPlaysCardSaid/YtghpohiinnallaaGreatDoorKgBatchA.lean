/-
  A batch in plain words and in memory; the walks on it.
-/
import Derived.Test.YtghpohiinnallaaGreatDoorKgNets
import Derived.Lib.Strings
import Derived.WalkKit
import Derived.Test.YtghpohiinnallaaGreatDoorProg
import Derived.WalkSpells
import Derived.WalkLawsBesides
import Derived.Lib.Hide
import Derived.WalkSmall
import Derived.ShutString
import Derived.RegionTactic
import Derived.Deep.QuietTactic
import Derived.BigQuiet
import Derived.Laws.IdiomStrings
import Derived.Laws.BytesArg
import Derived.Laws.Rows
import Derived.Laws.Tables
import Derived.Laws.MakeOwn
import Derived.Maps.AppendAt
import Derived.Deep.RegionWith
import Derived.Deep.MidRow
import Derived.Lib.Bytealg
import Derived.Laws.Externs
import Derived.Shelf.Spec.SlicesInsertGrow
import Derived.Test.YtghpohiinnallaaGreatDoorKgKept
import Derived.RangeFuncNested
import Derived.RangeFuncBound
import Derived.RangeFuncCalls
import Derived.RangeFuncLeaves
import Derived.RangeFuncBox
import Derived.Shelf.Abstract
import Derived.Shelf.RegionOpen
import Derived.OwnWalkIn
import Derived.TacticsInMore
import Derived.LoopNIn
import Derived.LoopIn

/-
  Plain facts on batches: changes sorted by key, one changed, what is found where; the document's loop over a sorted list; the texts of changes, read again. No program is named here.
-/
namespace Go.Proofs.YtghpohiinnallaaGreatDoor.Batch
open Go

abbrev bl (s : ByteArray) : List UInt8 := s.data.toList
abbrev ba (l : List UInt8) : ByteArray := ⟨l.toArray⟩
theorem bl_ba (l : List UInt8) : bl (ba l) = l := by simp
theorem bl_length (s : ByteArray) : (bl s).length = s.size := by simp

/-- One name ahead of another one, by bytes. -/
def less (a b : ByteArray) : Bool := Op.bytesLess (bl a) (bl b)
theorem bl_inj {a b : ByteArray} (h : bl a = bl b) : a = b := ByteArray.ext (Array.toList_inj.1 h)

theorem less_lt : ∀ a b : List UInt8, Op.bytesLess a b = true ↔ a < b
  | [], [] => by simp [Op.bytesLess]
  | [], _ :: _ => by simp [Op.bytesLess]
  | _ :: _, [] => by simp [Op.bytesLess]
  | a :: r, b :: s => by
    show (decide (a < b) || (a == b && Op.bytesLess r s)) = true ↔ _
    rw [List.cons_lt_cons_iff, Bool.or_eq_true, decide_eq_true_eq, Bool.and_eq_true, beq_iff_eq, less_lt r s]
theorem less_iff (a b : ByteArray) : less a b = true ↔ bl a < bl b := less_lt _ _
theorem less_not (a b : ByteArray) : less a b = false ↔ bl b ≤ bl a := by
  rw [← Bool.not_eq_true, less_iff]
  exact List.not_lt
theorem less_irrefl (a : ByteArray) : less a a = false := (less_not a a).2 (List.le_refl _)
theorem less_trans {a b c : ByteArray} (h : less a b = true) (k : less b c = true) : less a c = true := by
  rw [less_iff] at *
  exact List.lt_trans h k
theorem less_total {a b : ByteArray} (h : less a b = false) (hne : b ≠ a) : less b a = true := by
  rw [less_not] at h
  rw [less_iff]
  rcases List.le_iff_lt_or_eq.1 h with h | h
  · exact h
  · exact absurd (bl_inj h) hne
theorem less_asymm {a b : ByteArray} (h : less a b = true) : less b a = false := by
  cases h' : less b a
  · rfl
  · have := less_trans h h'
    rw [less_irrefl] at this
    cases this

section
variable {α : Type} (nm : α → ByteArray)

/-- Put in its place, by names. -/
def ins (x : α) : List α → List α
  | [] => [x]
  | y :: r => if less (nm x) (nm y) then x :: y :: r else y :: ins x r
def del (n : ByteArray) (l : List α) : List α := l.filter fun y => !decide (nm y = n)
def at? (n : ByteArray) (l : List α) : Option α := l.find? fun y => decide (nm y = n)
def put (x : α) (l : List α) : List α := ins nm x (del nm (nm x) l)
def Rising (l : List α) : Prop := l.Pairwise fun x y => less (nm x) (nm y) = true

theorem ins_length (x : α) : ∀ l : List α, (ins nm x l).length = l.length + 1
  | [] => rfl
  | y :: r => by
    unfold ins
    split
    · rfl
    · simp [ins_length x r]
theorem ins_mem (x : α) : ∀ (l : List α) (z : α), z ∈ ins nm x l ↔ z = x ∨ z ∈ l
  | [], z => by simp [ins]
  | y :: r, z => by
    unfold ins
    split
    · simp
    · simp only [List.mem_cons, ins_mem x r z]
      constructor
      · rintro (h | h | h)
        · exact .inr (.inl h)
        · exact .inl h
        · exact .inr (.inr h)
      · rintro (h | h | h)
        · exact .inr (.inl h)
        · exact .inl h
        · exact .inr (.inr h)
theorem ins_last (x z : α) (h : less (nm x) (nm z) = true) : ∀ l : List α, ins nm x (l ++ [z]) = ins nm x l ++ [z]
  | [] => by simp [ins, h]
  | y :: r => by
    simp only [List.cons_append, ins]
    split
    · rfl
    · rw [ins_last x z h r]; rfl
theorem ins_end (x : α) : ∀ l : List α, (∀ y ∈ l, less (nm x) (nm y) = false) → ins nm x l = l ++ [x]
  | [], _ => rfl
  | y :: r, h => by
    unfold ins
    rw [h y (by simp), if_neg (by simp), ins_end x r fun z hz => h z (by simp [hz])]
    rfl
theorem put_length (x : α) (l : List α) : (put nm x l).length ≤ l.length + 1 := by
  unfold put del
  rw [ins_length]
  have := List.length_filter_le (fun y => !decide (nm y = nm x)) l
  omega
theorem del_length (n : ByteArray) (l : List α) : (del nm n l).length ≤ l.length := List.length_filter_le _ _
theorem put_mem {x : α} {l : List α} {z : α} (h : z ∈ put nm x l) : z = x ∨ z ∈ l := by
  rcases (ins_mem nm x _ z).1 h with h | h
  · exact .inl h
  · exact .inr (List.mem_filter.1 h).1
theorem del_mem {n : ByteArray} {l : List α} {z : α} (h : z ∈ del nm n l) : z ∈ l := (List.mem_filter.1 h).1
theorem ins_rising (x : α) : ∀ l : List α, Rising nm l → (∀ y ∈ l, nm y ≠ nm x) → Rising nm (ins nm x l)
  | [], _, _ => by simp [ins, Rising]
  | y :: r, h, hne => by
    obtain ⟨h1, h2⟩ := List.pairwise_cons.1 h
    unfold ins
    split
    · rename_i hb
      refine List.pairwise_cons.2 ⟨fun q hq => ?_, h⟩
      rcases List.mem_cons.1 hq with rfl | hq
      · exact hb
      · exact less_trans hb (h1 q hq)
    · rename_i hb
      have hb : less (nm x) (nm y) = false := by simpa using hb
      refine List.pairwise_cons.2 ⟨fun q hq => ?_, ins_rising x r h2 fun z hz => hne z (by simp [hz])⟩
      rcases (ins_mem nm x r q).1 hq with rfl | hq
      · exact less_total hb (hne y (by simp))
      · exact h1 q hq
theorem del_rising (n : ByteArray) (l : List α) (h : Rising nm l) : Rising nm (del nm n l) := h.filter _
theorem put_rising (x : α) (l : List α) (h : Rising nm l) : Rising nm (put nm x l) :=
  ins_rising nm x _ (h.filter _) fun y hy => by simpa [del] using (List.mem_filter.1 hy).2

/-! The document's loop: what has come out, and whether the entry is put already, behind the first ones. -/
def outs (ok : Bool) (x : α) (p : List α) : List α := if ok && p.any (fun y => !less (nm y) (nm x)) then put nm x p else del nm (nm x) p
def flag (ok : Bool) (x : α) (p : List α) : Bool := !ok || p.any fun y => !less (nm y) (nm x)
def sets (ok : Bool) (x : α) (l : List α) : List α := if ok then put nm x l else del nm (nm x) l

theorem del_snoc (n : ByteArray) (p : List α) (y : α) : del nm n (p ++ [y]) = del nm n p ++ (if nm y = n then [] else [y]) := by
  unfold del
  rw [List.filter_append]
  by_cases h : nm y = n <;> simp [h]
theorem flag_snoc (ok : Bool) (x : α) (p : List α) (y : α) : flag nm ok x (p ++ [y]) = (flag nm ok x p || !less (nm y) (nm x)) := by
  simp [flag, Bool.or_assoc]
theorem outs_snoc (ok : Bool) (x : α) (p : List α) (y : α) (hr : Rising nm (p ++ [y])) :
    outs nm ok x (p ++ [y]) = (if !flag nm ok x p && !less (nm y) (nm x) then outs nm ok x p ++ [x] else outs nm ok x p) ++ (if nm y = nm x then [] else [y]) := by
  have hlast : ∀ z ∈ p, less (nm z) (nm y) = true := fun z hz => (List.pairwise_append.1 hr).2.2 z hz y (by simp)
  cases ok
  · simp [outs, flag, del_snoc]
  · by_cases ha : p.any (fun z => !less (nm z) (nm x)) = true
    · obtain ⟨z, hz, hzx⟩ := List.any_eq_true.1 ha
      have hxy : less (nm x) (nm y) = true := by
        by_cases e : nm z = nm x
        · rw [← e]; exact hlast z hz
        · exact less_trans (less_total (by simpa using hzx) (fun h => e h.symm)) (hlast z hz)
      have hne : nm y ≠ nm x := fun e => by rw [e, less_irrefl] at hxy; cases hxy
      have e1 : outs nm true x (p ++ [y]) = put nm x (p ++ [y]) := by
        unfold outs; rw [if_pos]; simp only [Bool.true_and, List.any_append, ha, Bool.true_or]
      have e2 : outs nm true x p = put nm x p := by
        unfold outs; rw [if_pos]; simp only [Bool.true_and, ha]
      have e3 : flag nm true x p = true := by simp only [flag, ha, Bool.or_true]
      rw [e1, e2, e3, if_neg hne]
      simp only [Bool.not_true, Bool.false_and, Bool.false_eq_true, if_false]
      unfold put
      rw [del_snoc, if_neg hne, ins_last nm x y hxy]
    · have ha : p.any (fun z => !less (nm z) (nm x)) = false := by simpa using ha
      have hall : ∀ z ∈ p, less (nm z) (nm x) = true := fun z hz => by
        have := List.any_eq_false.1 ha z hz
        simpa using this
      have hend : ins nm x (del nm (nm x) p) = del nm (nm x) p ++ [x] := ins_end nm x _ fun z hz => less_asymm (hall z (del_mem nm hz))
      have e2 : outs nm true x p = del nm (nm x) p := by
        unfold outs; rw [if_neg]; simp only [Bool.true_and, ha, Bool.false_eq_true, not_false_eq_true]
      have e3 : flag nm true x p = false := by simp only [flag, ha, Bool.or_false, Bool.not_true]
      rw [e2, e3]
      cases hy : less (nm y) (nm x)
      · have e1 : outs nm true x (p ++ [y]) = put nm x (p ++ [y]) := by
          unfold outs; rw [if_pos]; simp [hy]
        rw [e1]
        simp only [Bool.not_false, Bool.true_and, if_true]
        unfold put
        rw [del_snoc]
        by_cases e : nm y = nm x
        · rw [if_pos e, List.append_nil, hend, List.append_nil]
        · rw [if_neg e, ins_last nm x y (less_total hy (fun h => e h.symm)), hend]
      · have e1 : outs nm true x (p ++ [y]) = del nm (nm x) (p ++ [y]) := by
          unfold outs; rw [if_neg]; simp only [Bool.true_and, List.any_append, ha]; simp [hy]
        rw [e1, del_snoc]
        simp
theorem outs_end (ok : Bool) (x : α) (l : List α) : sets nm ok x l = if flag nm ok x l then outs nm ok x l else outs nm ok x l ++ [x] := by
  cases ok
  · simp [sets, flag, outs]
  · by_cases ha : l.any (fun z => !less (nm z) (nm x)) = true
    · unfold sets flag outs
      simp only [ha, Bool.true_and, if_true, Bool.or_true]
    · have ha : l.any (fun z => !less (nm z) (nm x)) = false := by simpa using ha
      have hall : ∀ z ∈ l, less (nm z) (nm x) = true := fun z hz => by
        have := List.any_eq_false.1 ha z hz
        simpa using this
      have hend : ins nm x (del nm (nm x) l) = del nm (nm x) l ++ [x] := ins_end nm x _ fun z hz => less_asymm (hall z (del_mem nm hz))
      have e3 : flag nm true x l = false := by simp only [flag, ha, Bool.or_false, Bool.not_true]
      have e2 : outs nm true x l = del nm (nm x) l := by
        unfold outs; rw [if_neg]; simp only [Bool.true_and, ha, Bool.false_eq_true, not_false_eq_true]
      rw [e3, e2]
      simp only [Bool.false_eq_true, if_false]
      unfold sets put
      rw [if_pos rfl, hend]
theorem outs_nil (ok : Bool) (x : α) : outs nm ok x [] = [] := by cases ok <;> rfl
theorem flag_nil (ok : Bool) (x : α) : flag nm ok x [] = !ok := by cases ok <;> rfl
theorem sets_length (ok : Bool) (x : α) (l : List α) : (sets nm ok x l).length ≤ l.length + 1 := by
  unfold sets
  split
  · exact put_length nm x l
  · exact Nat.le_succ_of_le (del_length nm _ l)
theorem outs_length (ok : Bool) (x : α) (l : List α) : (outs nm ok x l).length ≤ l.length + 1 := by
  unfold outs
  split
  · exact put_length nm x l
  · exact Nat.le_succ_of_le (del_length nm _ l)
theorem sets_mem {ok : Bool} {x : α} {l : List α} {z : α} (h : z ∈ sets nm ok x l) : (ok = true ∧ z = x) ∨ z ∈ l := by
  unfold sets at h
  cases ok
  · exact .inr (del_mem nm (by simpa using h))
  · rcases put_mem nm (by simpa using h) with h | h
    · exact .inl ⟨rfl, h⟩
    · exact .inr h
theorem sets_rising (ok : Bool) (x : α) (l : List α) (h : Rising nm l) : Rising nm (sets nm ok x l) := by
  unfold sets
  split
  · exact put_rising nm x l h
  · exact del_rising nm _ l h
theorem at_none {n : ByteArray} {l : List α} (h : at? nm n l = none) : ∀ y ∈ l, nm y ≠ n := fun y hy => by
  have := List.find?_eq_none.1 h y hy
  simpa using this
theorem at_some {n : ByteArray} {l : List α} {y : α} (h : at? nm n l = some y) : y ∈ l ∧ nm y = n := ⟨List.mem_of_find?_eq_some h, by simpa using List.find?_some h⟩
theorem at_mem {l : List α} (hr : Rising nm l) : ∀ y ∈ l, at? nm (nm y) l = some y := by
  induction l with
  | nil => intro y hy; cases hy
  | cons x r ih =>
    intro y hy
    obtain ⟨h1, h2⟩ := List.pairwise_cons.1 hr
    unfold at?
    rcases List.mem_cons.1 hy with rfl | hy
    · simp
    · have hne : nm x ≠ nm y := fun e => by have := h1 y hy; rw [e, less_irrefl] at this; cases this
      rw [List.find?_cons_of_neg (by simpa using hne)]
      exact ih h2 y hy
end


/-! Where a key stands: behind so many. -/
section
variable {α : Type} (nm : α → ByteArray)
def lo (n : ByteArray) (l : List α) : Nat := (l.takeWhile fun y => less (nm y) n).length
theorem lo_le (n : ByteArray) (l : List α) : lo nm n l ≤ l.length := (List.takeWhile_sublist _).length_le
theorem lo_cons (n : ByteArray) (y : α) (r : List α) : lo nm n (y :: r) = if less (nm y) n = true then lo nm n r + 1 else 0 := by
  unfold lo
  by_cases h : less (nm y) n = true
  · simp [h]
  · simp [h]
/-- Of a sorted list: those ahead of the place are ahead of the key, the others are not. -/
theorem lo_below {n : ByteArray} : ∀ {l : List α}, Rising nm l → ∀ {i : Nat} (h : i < l.length), less (nm l[i]) n = decide (i < lo nm n l)
  | [], _, i, h => by simp at h
  | y :: r, hr, i, h => by
    obtain ⟨h1, h2⟩ := List.pairwise_cons.1 hr
    rw [lo_cons]
    by_cases hy : less (nm y) n = true
    · rw [if_pos hy]
      cases i with
      | zero => simpa using hy
      | succ i =>
        have := lo_below h2 (i := i) (n := n) (by simpa using h)
        simpa using this
    · rw [if_neg hy]
      have hy : less (nm y) n = false := by simpa using hy
      cases i with
      | zero => simpa using hy
      | succ i =>
        have hi : i < r.length := by simpa using h
        have h3 := h1 r[i] (List.getElem_mem hi)
        have h4 : less (nm r[i]) n = false := by
          cases h5 : less (nm r[i]) n
          · rfl
          · have := less_trans h3 h5
            rw [hy] at this; cases this
        simpa using h4
/-- The one of a key stands at its place, or there is none. -/
theorem at_lo (n : ByteArray) : ∀ {l : List α}, Rising nm l → at? nm n l = (if h : lo nm n l < l.length then (if nm l[lo nm n l] = n then some l[lo nm n l] else none) else none)
  | [], _ => rfl
  | y :: r, hr => by
    obtain ⟨h1, h2⟩ := List.pairwise_cons.1 hr
    have ih := at_lo n h2
    unfold at? at ih ⊢
    by_cases hy : less (nm y) n = true
    · have hne : nm y ≠ n := fun e => by rw [e, less_irrefl] at hy; cases hy
      have e : lo nm n (y :: r) = lo nm n r + 1 := by rw [lo_cons, if_pos hy]
      rw [List.find?_cons_of_neg (by simpa using hne), ih]
      simp only [e, List.length_cons, Nat.add_lt_add_iff_right, List.getElem_cons_succ]
    · have e : lo nm n (y :: r) = 0 := by rw [lo_cons, if_neg hy]
      have hy : less (nm y) n = false := by simpa using hy
      simp only [e, List.length_cons, Nat.zero_lt_succ, dite_true, List.getElem_cons_zero]
      by_cases hn : nm y = n
      · rw [if_pos hn, List.find?_cons_of_pos (by simpa using hn)]
      · rw [if_neg hn, List.find?_cons_of_neg (by simpa using hn)]
        have h3 := less_total hy (fun e => hn e.symm)
        refine List.find?_eq_none.2 fun z hz => ?_
        have h4 := less_trans h3 (h1 z hz)
        simp only [decide_eq_true_eq]
        intro e
        rw [e, less_irrefl] at h4; cases h4
theorem at_there {n : ByteArray} {l : List α} (hr : Rising nm l) {y : α} (h : at? nm n l = some y) : lo nm n l < l.length ∧ l[lo nm n l]? = some y := by
  rw [at_lo nm n hr] at h
  by_cases h0 : lo nm n l < l.length
  · rw [dif_pos h0] at h
    by_cases h1 : nm l[lo nm n l] = n
    · rw [if_pos h1] at h
      exact ⟨h0, by rw [List.getElem?_eq_getElem h0]; exact h⟩
    · rw [if_neg h1] at h; cases h
  · rw [dif_neg h0] at h; cases h
theorem at_absent {n : ByteArray} {l : List α} (hr : Rising nm l) (h : at? nm n l = none) (h0 : lo nm n l < l.length) : nm l[lo nm n l] ≠ n := by
  rw [at_lo nm n hr, dif_pos h0] at h
  intro e
  rw [if_pos e] at h
  cases h
theorem del_none {n : ByteArray} {l : List α} (h : at? nm n l = none) : del nm n l = l := by
  unfold del
  rw [List.filter_eq_self]
  intro y hy
  have := at_none nm h y hy
  simpa using this
theorem ins_lo (x : α) : ∀ {l : List α}, Rising nm l → at? nm (nm x) l = none → ins nm x l = l.take (lo nm (nm x) l) ++ x :: l.drop (lo nm (nm x) l)
  | [], _, _ => rfl
  | y :: r, hr, h => by
    obtain ⟨h1, h2⟩ := List.pairwise_cons.1 hr
    have hne := at_none nm h y (by simp)
    have hr0 : at? nm (nm x) r = none := by
      unfold at? at h ⊢
      rwa [List.find?_cons_of_neg (by simpa using hne)] at h
    unfold ins
    rw [lo_cons]
    by_cases hy : less (nm y) (nm x) = true
    · rw [if_pos hy, less_asymm hy, if_neg (by simp), ins_lo x h2 hr0]
      rfl
    · rw [if_neg hy, if_pos (less_total (by simpa using hy) (fun e => hne e.symm))]
      rfl
/-- A new key: put in at its place. -/
theorem put_new (x : α) {l : List α} (hr : Rising nm l) (h : at? nm (nm x) l = none) : put nm x l = l.take (lo nm (nm x) l) ++ x :: l.drop (lo nm (nm x) l) := by
  unfold put
  rw [del_none nm h, ins_lo nm x hr h]
theorem put_old (x : α) : ∀ {l : List α}, Rising nm l → ∀ {y : α}, at? nm (nm x) l = some y → put nm x l = l.set (lo nm (nm x) l) x
  | [], _, y, h => by cases h
  | z :: r, hr, y, h => by
    obtain ⟨h1, h2⟩ := List.pairwise_cons.1 hr
    by_cases hn : nm z = nm x
    · have hz : less (nm z) (nm x) = false := by rw [hn]; exact less_irrefl _
      have hd : del nm (nm x) (z :: r) = r := by
        unfold del
        rw [List.filter_cons_of_neg (by simpa using hn), List.filter_eq_self]
        intro q hq
        have := h1 q hq
        simp only [Bool.not_eq_true', decide_eq_false_iff_not]
        intro e
        rw [hn, e, less_irrefl] at this; cases this
      have h3 : ∀ q ∈ r, less (nm x) (nm q) = true := fun q hq => by rw [← hn]; exact h1 q hq
      unfold put
      rw [hd, lo_cons, if_neg (by rw [hz]; simp), List.set_cons_zero]
      cases r with
      | nil => rfl
      | cons q r =>
        unfold ins
        rw [if_pos (h3 q (by simp))]
    · have hr0 : at? nm (nm x) r = some y := by
        unfold at? at h ⊢
        rwa [List.find?_cons_of_neg (by simpa using hn)] at h
      have hlt : less (nm z) (nm x) = true := by
        obtain ⟨hm, he⟩ := at_some nm hr0
        rw [← he]
        exact h1 y hm
      have hd : del nm (nm x) (z :: r) = z :: del nm (nm x) r := by
        unfold del
        rw [List.filter_cons_of_pos (by simpa using hn)]
      have ih := put_old x h2 hr0
      unfold put at ih ⊢
      rw [hd, lo_cons, if_pos hlt, List.set_cons_succ]
      unfold ins
      rw [less_asymm hlt, if_neg (by simp), ih]
theorem put_old_length (x : α) {l : List α} (hr : Rising nm l) {y : α} (h : at? nm (nm x) l = some y) : (put nm x l).length = l.length := by
  rw [put_old nm x hr h, List.length_set]
theorem put_new_length (x : α) {l : List α} (hr : Rising nm l) (h : at? nm (nm x) l = none) : (put nm x l).length = l.length + 1 := by
  have := lo_le nm (nm x) l
  rw [put_new nm x hr h]
  simp
  omega
theorem at_put_same (x : α) {l : List α} (hr : Rising nm l) : at? nm (nm x) (put nm x l) = some x :=
  at_mem nm (put_rising nm x l hr) x ((ins_mem nm x _ x).2 (.inl rfl))
theorem at_iff {n : ByteArray} {l : List α} (hr : Rising nm l) (y : α) : at? nm n l = some y ↔ y ∈ l ∧ nm y = n :=
  ⟨at_some nm, fun ⟨h, e⟩ => by rw [← e]; exact at_mem nm hr y h⟩
theorem put_mem_iff (x : α) (l : List α) (z : α) : z ∈ put nm x l ↔ z = x ∨ (z ∈ l ∧ nm z ≠ nm x) := by
  unfold put
  rw [ins_mem]
  unfold del
  rw [List.mem_filter]
  simp
theorem at_put_other (x : α) {l : List α} (hr : Rising nm l) {n : ByteArray} (hn : n ≠ nm x) : at? nm n (put nm x l) = at? nm n l := by
  apply Option.ext
  intro y
  rw [at_iff nm (put_rising nm x l hr), at_iff nm hr, put_mem_iff]
  constructor
  · rintro ⟨rfl | ⟨h, _⟩, e⟩
    · exact absurd e.symm hn
    · exact ⟨h, e⟩
  · rintro ⟨h, e⟩
    exact ⟨.inr ⟨h, by rw [e]; exact hn⟩, e⟩
end

/-! Changes. -/
structure Chg where
  key : ByteArray
  val : ByteArray
  gone : Bool
deriving DecidableEq
def Chg.none : Chg := ⟨⟨#[]⟩, ⟨#[]⟩, false⟩
/-- A deletion has no value. -/
def Chg.norm (c : Chg) : Chg := if c.gone then ⟨c.key, ⟨#[]⟩, true⟩ else c
theorem norm_key (c : Chg) : c.norm.key = c.key := by unfold Chg.norm; split <;> rfl
theorem norm_gone (c : Chg) : c.norm.gone = c.gone := by unfold Chg.norm; split <;> simp_all
theorem norm_val (c : Chg) : c.norm.val.size ≤ c.val.size := by
  unfold Chg.norm
  split
  · exact Nat.zero_le _
  · exact Nat.le_refl _
def chk (c : Chg) : Nat := if c.key.size = 0 then 3 else if 200 < c.key.size ∨ 1048576 < c.val.size then 2 else 0
/-- Why a change is not made. -/
def code (q : List Chg) (c : Chg) : Nat := if chk c ≠ 0 then chk c else if at? Chg.key c.key q = none ∧ 2000 ≤ q.length then 8 else 0
def made (q : List Chg) (c : Chg) : List Chg := if code q c = 0 then put Chg.key c q else q
theorem chk_le (c : Chg) : chk c ≤ 3 := by unfold chk; repeat' split
                                           all_goals omega
theorem code_le (q : List Chg) (c : Chg) : code q c ≤ 8 := by
  have := chk_le c
  unfold code; repeat' split
  all_goals omega
/-- What a batch may hold. -/
structure Good (q : List Chg) : Prop where
  rise : Rising Chg.key q
  few : q.length ≤ 2000
  fits : ∀ x ∈ q, chk x = 0
theorem good_nil : Good [] := ⟨List.Pairwise.nil, by simp, by simp⟩
theorem good_made {q : List Chg} (h : Good q) (c : Chg) : Good (made q c) := by
  unfold made
  by_cases h0 : code q c = 0
  · rw [if_pos h0]
    have hc : chk c = 0 := by
      unfold code at h0
      by_cases e : chk c ≠ 0
      · rw [if_pos e] at h0; exact h0
      · simpa using e
    have hf : ¬ (at? Chg.key c.key q = none ∧ 2000 ≤ q.length) := by
      unfold code at h0
      rw [if_neg (by simp [hc])] at h0
      intro e
      rw [if_pos e] at h0
      cases h0
    refine ⟨put_rising Chg.key c q h.rise, ?_, fun x hx => ?_⟩
    · cases ha : at? Chg.key c.key q with
      | none =>
        rw [put_new_length Chg.key c h.rise ha]
        have := h.few
        rcases Nat.lt_or_ge q.length 2000 with h1 | h1
        · omega
        · exact absurd ⟨ha, h1⟩ hf
      | some y => rw [put_old_length Chg.key c h.rise ha]; exact h.few
    · rcases put_mem Chg.key hx with rfl | hx
      · exact hc
      · exact h.fits x hx
  · rw [if_neg h0]; exact h
theorem made_length (q : List Chg) (c : Chg) : (made q c).length ≤ q.length + 1 := by
  unfold made
  split
  · exact put_length Chg.key c q
  · omega
theorem made_mem {q : List Chg} {c z : Chg} (h : z ∈ made q c) : z = c ∨ z ∈ q := by
  unfold made at h
  split at h
  · exact put_mem Chg.key h
  · exact .inr h
theorem fits_size {x : Chg} (h : chk x = 0) : 0 < x.key.size ∧ x.key.size ≤ 200 ∧ x.val.size ≤ 1048576 := by
  unfold chk at h
  repeat' split at h
  all_goals omega

/-! Texts of changes. -/
open Nets (rowS textsS putS texts_row row_texts texts_bad)
def parts (c : Chg) : List ByteArray := if c.gone then [⟨#[45]⟩, c.key] else [⟨#[43]⟩, c.key, c.val]
def writeS (c : Chg) : List UInt8 := rowS ((parts c).map bl)
/-- The change that a row tells, if it tells one. -/
def changeS (ls : List ByteArray) : Option Chg := match ls with
  | [t, k] => if t = ⟨#[45]⟩ then some ⟨k, ⟨#[]⟩, true⟩ else none
  | [t, k, v] => if t = ⟨#[43]⟩ then some ⟨k, v, false⟩ else none
  | _ => none
def readS (l : List UInt8) : Chg × Nat :=
  if (textsS l).2 ≠ 0 then (Chg.none, (textsS l).2) else match changeS ((textsS l).1.map ba) with
    | none => (Chg.none, 3)
    | some c => if chk c ≠ 0 then (Chg.none, chk c) else (c, 0)
theorem map_ba (ls : List ByteArray) : (ls.map bl).map ba = ls := by
  rw [List.map_map]
  conv => rhs; rw [← List.map_id ls]
  rfl
theorem read_write (c : Chg) (hn : c.norm = c) (hc : chk c = 0) : readS (writeS c) = (c, 0) := by
  obtain ⟨h1, h2, h3⟩ := fits_size hc
  have ht : textsS (writeS c) = ((parts c).map bl, 0) := by
    refine texts_row _ fun s hs => ?_
    obtain ⟨x, hx, rfl⟩ := List.mem_map.1 hs
    rw [bl_length]
    unfold parts at hx
    split at hx
    · simp only [List.mem_cons, List.not_mem_nil, or_false] at hx
      rcases hx with rfl | rfl
      · decide
      · omega
    · simp only [List.mem_cons, List.not_mem_nil, or_false] at hx
      rcases hx with rfl | rfl | rfl
      · decide
      · omega
      · omega
  have he : changeS (parts c) = some c := by
    unfold parts
    unfold Chg.norm at hn
    cases hg : c.gone
    · rw [if_neg (by simp)]
      show some _ = some c
      rw [← hg]
    · rw [if_pos hg] at hn
      rw [if_pos rfl]
      show some _ = some c
      rw [hn]
  unfold readS
  rw [ht]
  simp only [ne_eq, not_true_eq_false, if_false, map_ba, he, hc]
end Go.Proofs.YtghpohiinnallaaGreatDoor.Batch

/-
  A batch in memory: its own block, its changes; lists of changes in memory.
-/
namespace Go.Proofs.YtghpohiinnallaaGreatDoor.Batch
open Go Go.RowKit

abbrev chgT : TypeId := 123
abbrev refT : TypeId := 120
abbrev chsT : TypeId := 103
abbrev refsT : TypeId := 40
abbrev batT : TypeId := 116
abbrev ptr (b : Nat) : Value := .pointer (some ⟨b, 0, none⟩)

theorem addr_add (b off j : Nat) : (⟨b, off, none⟩ : Addr).add j = ⟨b, off + j, none⟩ := by unfold Addr.add; split <;> simp_all

/-- A block of memory that lies there whole, and may be written. -/
def Lies (w : World) (b : Nat) (cs : Array Value) (t : TypeId) : Prop := w.heap[b]? = some (.cells cs t (0, 0))
section
variable {w w' : World} {b c i : Nat} {cs : Array Value} {t : TypeId}
theorem Lies.lt (h : Lies w b cs t) : b < w.heap.size := by
  by_cases hl : b < w.heap.size
  · exact hl
  · have : w.heap[b]? = none := by simp; omega
    rw [Lies, this] at h
    cases h
theorem Lies.cell (h : Lies w b cs t) (j : Nat) : w.cell? ⟨b, j, none⟩ = cs[j]? := cell_of_row w b j cs t (0, 0) h
theorem Lies.free (h : Lies w b cs t) (j : Nat) : w.frozen? ⟨b, j, none⟩ = false := frozen_of_row w b j cs t h
theorem Lies.same (h : Lies w b cs t) (e : w'.heap[b]? = w.heap[b]?) : Lies w' b cs t := e.trans h
theorem Lies.new (w : World) (cs : Array Value) (t : TypeId) : Lies (w.alloc (.cells cs t)) w.heap.size cs t := heap_alloc_new w _
theorem Lies.set (h : Lies w b cs t) (i : Nat) (v : Value) : Lies (w.setCell ⟨b, i, none⟩ v) b (cs.setIfInBounds i v) t := heap_setCell_same w b i cs t v h
theorem Lies.other (h : Lies w b cs t) (v : Value) (hne : b ≠ c) : Lies (w.setCell ⟨c, i, none⟩ v) b cs t := by
  unfold Lies
  rw [heap_setCell_other w ⟨c, i, none⟩ b v hne]; exact h
end

/-- What of the blocks that were there may have turned: those of F alone. -/
structure Fr (F : Nat → Prop) (w w' : World) : Prop where
  os : w'.os = w.os
  tape : w'.tape = w.tape
  output : w'.output = w.output
  size : w.heap.size ≤ w'.heap.size
  block : ∀ k, k < w.heap.size → ¬ F k → w'.heap[k]? = w.heap[k]?
theorem Fr.refl (F : Nat → Prop) (w : World) : Fr F w w := ⟨rfl, rfl, rfl, Nat.le_refl _, fun _ _ _ => rfl⟩
theorem Fr.trans {F F' : Nat → Prop} {a b c : World} (h : Fr F a b) (k : Fr F' b c) (hF : ∀ i, i < a.heap.size → F' i → F i) : Fr F a c :=
  ⟨k.os.trans h.os, k.tape.trans h.tape, k.output.trans h.output, Nat.le_trans h.size k.size, fun i hi hn => (k.block i (Nat.lt_of_lt_of_le hi h.size) fun e => hn (hF i hi e)).trans (h.block i hi hn)⟩
theorem Fr.mono {F F' : Nat → Prop} {a b : World} (h : Fr F a b) (hF : ∀ i, i < a.heap.size → F i → F' i) : Fr F' a b :=
  ⟨h.os, h.tape, h.output, h.size, fun i hi hn => h.block i hi fun e => hn (hF i hi e)⟩
theorem Fr.of_below {F : Nat → Prop} {w w' : World} (h : Below w.heap.size w w') : Fr F w w' := ⟨h.os, h.tape, h.output, h.size, fun k hk _ => h.block k hk⟩
theorem Fr.below {F : Nat → Prop} {w w' : World} {B : Nat} (h : Fr F w w') (hB : B ≤ w.heap.size) (hF : ∀ k, F k → B ≤ k) : Below B w w' :=
  ⟨h.os, h.tape, h.output, h.size, fun k hk => h.block k (by omega) fun e => by have := hF k e; omega⟩
theorem Fr.setCell {F : Nat → Prop} {a w : World} (h : Fr F a w) {b i : Nat} (hb : b < a.heap.size → F b) (v : Value) : Fr F a (w.setCell ⟨b, i, none⟩ v) :=
  ⟨h.os, h.tape, h.output, by simpa [World.setCell] using h.size, fun k hk hn => (Below.heap_setCell _ _ _ _ (fun e => hn (by subst e; exact hb hk))).trans (h.block k hk hn)⟩
theorem Fr.one (w : World) (b i : Nat) (v : Value) : Fr (fun k => k = b) w (w.setCell ⟨b, i, none⟩ v) := Fr.setCell (F := fun k => k = b) (Fr.refl _ w) (fun _ => rfl) v
theorem Fr.alloc {F : Nat → Prop} {a w : World} (h : Fr F a w) (o : Obj) : Fr F a (w.alloc o) :=
  ⟨h.os, h.tape, h.output, by simpa using Nat.le_succ_of_le h.size, fun k hk hn => (Below.heap_alloc _ _ _ (Nat.lt_of_lt_of_le hk h.size)).trans (h.block k hk hn)⟩
theorem Fr.drew {F : Nat → Prop} {a w : World} (h : Fr F a w) : Fr F a w.drew := ⟨h.os, h.tape, h.output, h.size, h.block⟩
theorem Fr.drewN {F : Nat → Prop} {a w : World} (h : Fr F a w) (n : Nat) : Fr F a (w.drewN n) :=
  h.trans (Fr.of_below (F := fun _ => False) (below_drewN (Below.refl _ _) n)) fun _ _ e => e.elim
theorem Fr.grown {F : Nat → Prop} {a w w' : World} {row : Option Nat} (h : Fr F a w) (hg : w.grownBy w' row) (hr : ∀ k, row = some k → k < a.heap.size → F k) : Fr F a w' :=
  ⟨hg.os.trans h.os, hg.tape.trans h.tape, hg.output.trans h.output, Nat.le_trans h.size hg.size, fun k hk hn => (hg.block k (Nat.lt_of_lt_of_le hk h.size) fun e => hn (hr k e.symm hk)).trans (h.block k hk hn)⟩
theorem Fr.owns {F : Nat → Prop} {w w' : World} {B : Nat} {t : TypeId} {z n : Nat} {v : Value} {xs : List Value} (h : w.ownsRow B t z v n xs) (hf : Fr F w w') (hn : ∀ k, v.ownBlock = some k → ¬ F k) : w'.ownsRow B t z v n xs := by
  refine ⟨h.1, ?_⟩
  rcases h.2 with h2 | ⟨g, cap, cur, rfl, hb, hg, r⟩
  · exact .inl h2
  · refine .inr ⟨g, cap, cur, rfl, hb, ?_, r⟩
    rw [hf.block g (Array.getElem?_eq_some_iff.1 hg).1 (hn g rfl)]
    exact hg
theorem owns_set {w : World} {B : Nat} {t : TypeId} {z n : Nat} {v : Value} {xs : List Value} (h : w.ownsRow B t z v n xs) {g : Nat} (hg : v.ownBlock = some g) (i : Nat) (x : Value) (_hi : i < n * z) : (w.setCell ⟨g, i, none⟩ x).ownsRow B t z v n (xs.set i x) := by
  refine ⟨by rw [List.length_set]; exact h.1, ?_⟩
  rcases h.2 with ⟨rfl, _⟩ | ⟨g', cap, cur, rfl, hb, hh, h1, h2, h3, h4⟩
  · cases hg
  · obtain rfl : g' = g := by simpa [Value.ownBlock] using hg
    refine .inr ⟨g', cap, cur.setIfInBounds i x, rfl, hb, heap_setCell_same w g' i cur t x hh, h1, h2, by rw [Array.size_setIfInBounds]; exact h3, ?_⟩
    rw [Array.toList_setIfInBounds, List.take_set, h4]
theorem owns_slice {w : World} {B : Nat} {t : TypeId} {z n : Nat} {v : Value} {xs : List Value} (h : w.ownsRow B t z v n xs) : ∃ a c, v = .slice a n c := by
  rcases h.2 with ⟨rfl, rfl⟩ | ⟨g, cap, cur, rfl, _⟩
  · exact ⟨_, _, rfl⟩
  · exact ⟨_, _, rfl⟩

/-! Changes in memory. -/
def chC (c : Chg) : List Value := [.string c.key, .string c.val, .bool c.gone]
abbrev chV (c : Chg) : Value := .agg #[.string c.key, .string c.val, .bool c.gone]
abbrev boxC (t : TypeId) (c : Chg) : Obj := .cells #[.string c.key, .string c.val, .bool c.gone] t
theorem chC_length (c : Chg) : (chC c).length = 3 := rfl
theorem flat_length (q : List Chg) : (q.flatMap chC).length = q.length * 3 := by
  induction q with
  | nil => rfl
  | cons e q ih => rw [List.flatMap_cons, List.length_append, ih, chC_length, List.length_cons]; omega
theorem flat_get : ∀ (q : List Chg) (i : Nat) (e : Chg), q[i]? = some e → ∀ j, j < 3 → (q.flatMap chC)[i * 3 + j]? = (chC e)[j]?
  | [], _, _, h, _, _ => by simp at h
  | x :: q, 0, e, h, j, hj => by
    obtain rfl : x = e := by simpa using h
    rw [List.flatMap_cons, List.getElem?_append_left (by rw [chC_length]; omega)]
    simp
  | x :: q, i + 1, e, h, j, hj => by
    rw [List.flatMap_cons, List.getElem?_append_right (by rw [chC_length]; omega), chC_length, show (i + 1) * 3 + j - 3 = i * 3 + j by omega]
    exact flat_get q i e (by simpa using h) j hj
theorem flat_take : ∀ (q : List Chg) (i : Nat), (q.take i).flatMap chC = (q.flatMap chC).take (i * 3)
  | [], i => by simp
  | x :: q, 0 => by simp
  | x :: q, i + 1 => by
    rw [List.take_succ_cons, List.flatMap_cons, List.flatMap_cons, flat_take q i, List.take_append, chC_length, show (i + 1) * 3 - 3 = i * 3 by omega, List.take_of_length_le (l := chC x) (by rw [chC_length]; omega)]
theorem flat_drop : ∀ (q : List Chg) (i : Nat), (q.drop i).flatMap chC = (q.flatMap chC).drop (i * 3)
  | [], i => by simp
  | x :: q, 0 => by simp
  | x :: q, i + 1 => by
    rw [List.drop_succ_cons, List.flatMap_cons, flat_drop q i, List.drop_append, chC_length, show (i + 1) * 3 - 3 = i * 3 by omega, List.drop_eq_nil_of_le (show (chC x).length ≤ (i + 1) * 3 by rw [chC_length]; omega), List.nil_append]
theorem flat_snoc (l : List Chg) (e : Chg) : (l ++ [e]).flatMap chC = l.flatMap chC ++ chC e := by simp
theorem one_cell (c : Chg) : ∀ u ∈ chC c, u.oneCell' = true := by
  intro u hu
  unfold chC at hu
  simp only [List.mem_cons, List.not_mem_nil, or_false] at hu
  rcases hu with rfl | rfl | rfl <;> rfl
theorem flat_one (q : List Chg) : ∀ u ∈ q.flatMap chC, u.oneCell' = true := by
  intro u hu
  obtain ⟨c, _, hc⟩ := List.mem_flatMap.1 hu
  exact one_cell c u hc
/-- The three cells of a change. -/
theorem three {w : World} {b o : Nat} {e : Chg} (h : w.rangeAt b o (chC e)) : w.cell? ⟨b, o, none⟩ = some (.string e.key) ∧ w.cell? ⟨b, o + 1, none⟩ = some (.string e.val) ∧ w.cell? ⟨b, o + 2, none⟩ = some (.bool e.gone) :=
  ⟨h 0 _ rfl, h 1 _ rfl, h 2 _ rfl⟩
theorem range_below {w w' : World} {b o : Nat} {cs : List Value} (h : w.rangeAt b o cs) (hl : b < w.heap.size) (hb : Below w.heap.size w w') : w'.rangeAt b o cs := fun j v hv => by
  rw [hb.cell (p := ⟨b, o + j, none⟩) hl]
  exact h j v hv

/-- The value is a slice that reads as these changes. -/
def ReadsC (w : World) (v : Value) (q : List Chg) : Prop :=
  (∃ a cap, v = .slice a 0 cap ∧ q = []) ∨
  (0 < q.length ∧ ∃ b off cap, v = .slice (some ⟨b, off, none⟩) q.length cap ∧ b < w.heap.size ∧ ∀ i e, q[i]? = some e → w.rangeAt b (off + i * 3) (chC e))
theorem ReadsC.below {w w' : World} {v : Value} {q : List Chg} (h : ReadsC w v q) (hb : Below w.heap.size w w') : ReadsC w' v q := by
  rcases h with h | ⟨h0, b, off, cap, rfl, h3, h4⟩
  · exact .inl h
  · exact .inr ⟨h0, b, off, cap, rfl, by have := hb.size; omega, fun i e hi => range_below (h4 i e hi) h3 hb⟩
theorem ReadsC.frame {F : Nat → Prop} {w w' : World} {v : Value} {q : List Chg} (h : ReadsC w v q) (hf : Fr F w w') (hn : ∀ k, v.ownBlock = some k → ¬ F k) : ReadsC w' v q := by
  rcases h with h | ⟨h0, b, off, cap, rfl, h3, h4⟩
  · exact .inl h
  · refine .inr ⟨h0, b, off, cap, rfl, by have := hf.size; omega, fun i e hi j x hx => ?_⟩
    have hb := hf.block b h3 (hn b rfl)
    rw [World.cell?_of_block (a := ⟨b, off + i * 3 + j, none⟩) hb]
    exact h4 i e hi j x hx
theorem owns_reads {w : World} {B : Nat} {t : TypeId} {v : Value} {q : List Chg} (h : w.ownsRow B t 3 v q.length (q.flatMap chC)) : ReadsC w v q := by
  have hc := fun g hg => h.cells (g := g) hg
  have hlt := h.lt
  rcases h.2 with ⟨rfl, hn⟩ | ⟨g, cap, cur, rfl, hb, hg, h1, h2, _, _⟩
  · exact .inl ⟨none, 0, rfl, List.length_eq_zero_iff.1 hn⟩
  · by_cases h0 : q.length = 0
    · exact .inl ⟨some ⟨g, 0, none⟩, cap, by rw [h0], List.length_eq_zero_iff.1 h0⟩
    · refine .inr ⟨by omega, g, 0, cap, rfl, (hlt g rfl).2, fun i e hi j v hv => ?_⟩
      have hj : j < 3 := by
        have := (List.getElem?_eq_some_iff.1 hv).1
        rw [chC_length] at this
        exact this
      have e1 := hc g rfl (i * 3 + j) v (by rw [flat_get q i e hi j hj]; exact hv)
      rw [addr_add] at e1
      rw [← e1]
      congr 2
      omega
theorem size3 : (Tryz.prog.info? chgT).map (·.size) = some 3 := by kernel_rfl
theorem sizeR : (Tryz.prog.info? refT).map (·.size) = some 3 := by kernel_rfl
theorem infoC : (Tryz.prog.info? chgT).map (fun i => (i.zero, i.size, i.bytes)) = some (some (.agg #[.string ⟨#[]⟩, .string ⟨#[]⟩, .bool false]), 3, 40) := by kernel_rfl
theorem infoR : (Tryz.prog.info? refT).map (fun i => (i.zero, i.size, i.bytes)) = some (some (.agg #[.string ⟨#[]⟩, .string ⟨#[]⟩, .bool false]), 3, 40) := by kernel_rfl
theorem new_box (w : World) (t : TypeId) (c : Chg) : (w.alloc (boxC t c)).rangeAt w.heap.size 0 (chC c) := by
  intro j u h
  have hb := heap_alloc_new w (boxC t c)
  simp only [World.cell?, hb, Nat.zero_add]
  unfold chC at h
  match j, h with
  | 0, h => simpa using h
  | 1, h => simpa using h
  | 2, h => simpa using h
  | j + 3, h => simp at h
theorem nil_reads (w : World) : ReadsC w (.slice none 0 0) [] := .inl ⟨none, 0, rfl, rfl⟩
theorem key_eq (x y : ByteArray) : (x.toList == y.toList) = decide (x = y) := by
  rw [Bool.eq_iff_iff]
  simp only [beq_iff_eq, decide_eq_true_eq]
  rw [Lib.toList_data, Lib.toList_data]
  constructor
  · intro h
    exact ByteArray.ext (Array.toList_inj.1 h)
  · intro h; rw [h]

/-! A batch. -/
structure Bt where
  B : Nat
  pb : Nat
  cv : Value
def own (d : Bt) (k : Nat) : Prop := k = d.pb ∨ d.cv.ownBlock = some k
structure Mem (w : World) (d : Bt) (q : List Chg) : Prop where
  self : Lies w d.pb #[d.cv] batT
  owns : w.ownsRow d.B chgT 3 d.cv q.length (q.flatMap chC)
  ne : ∀ k, d.cv.ownBlock = some k → k ≠ d.pb
  low : d.B ≤ d.pb
section
variable {w w' : World} {d : Bt} {q : List Chg}
theorem Mem.own_lt (h : Mem w d q) {k : Nat} (hk : own d k) : k < w.heap.size ∧ d.B ≤ k := by
  rcases hk with rfl | hk
  · exact ⟨h.self.lt, h.low⟩
  · have := h.owns.lt k hk; exact ⟨this.2, this.1⟩
theorem Mem.cell (h : Mem w d q) : w.cell? ⟨d.pb, 0, none⟩ = some d.cv := h.self.cell 0
theorem Mem.free (h : Mem w d q) : w.frozen? ⟨d.pb, 0, none⟩ = false := h.self.free 0
theorem Mem.reads (h : Mem w d q) : ReadsC w d.cv q := owns_reads h.owns
theorem Mem.frame {F : Nat → Prop} (h : Mem w d q) (hf : Fr F w w') (hF : ∀ k, F k → ¬ own d k) : Mem w' d q :=
  ⟨h.self.same (hf.block _ h.self.lt fun e => hF _ e (.inl rfl)), Fr.owns h.owns hf fun k hk e => hF k e (.inr hk), h.ne, h.low⟩
theorem Mem.below (h : Mem w d q) (hb : Below w.heap.size w w') : Mem w' d q := h.frame (F := fun _ => False) (Fr.of_below hb) fun _ e => e.elim
theorem Mem.drew (h : Mem w d q) : Mem w.drew d q := ⟨h.self, h.owns, h.ne, h.low⟩
theorem Mem.alloc (h : Mem w d q) (o : Obj) : Mem (w.alloc o) d q := h.below ((Below.refl _ _).alloc (Nat.le_refl _) _)
/-- The list turned: one that is owned, in a block of its own. -/
theorem Mem.setV (h : Mem w d q) (cv : Value) (q' : List Chg) (ho : w.ownsRow d.B chgT 3 cv q'.length (q'.flatMap chC)) (hc : ∀ k, cv.ownBlock = some k → k ≠ d.pb) :
    Mem (w.setCell ⟨d.pb, 0, none⟩ cv) { d with cv := cv } q' :=
  ⟨h.self.set 0 cv, Fr.owns (F := fun k => k = d.pb) ho (Fr.one w _ _ _) fun k hk e => hc k hk e, hc, h.low⟩

/-- A call on a batch: what may have turned. -/
structure Step (w : World) (d : Bt) (w' : World) (d' : Bt) : Prop where
  fr : Fr (own d) w w'
  B : d'.B = d.B
  pb : d'.pb = d.pb
  cv : ∀ k, d'.cv.ownBlock = some k → d.cv.ownBlock = some k ∨ w.heap.size ≤ k
theorem Step.refl (w : World) (d : Bt) : Step w d w d := ⟨Fr.refl _ _, rfl, rfl, fun _ h => .inl h⟩
theorem Step.own {d' : Bt} (h : Step w d w' d') {k : Nat} (hk : own d' k) : own d k ∨ w.heap.size ≤ k := by
  rcases hk with rfl | hk
  · exact .inl (.inl h.pb)
  · rcases h.cv k hk with e | e
    · exact .inl (.inr e)
    · exact .inr e
theorem Step.trans {d' d2 : Bt} {w2 : World} (h : Step w d w' d') (k : Step w' d' w2 d2) : Step w d w2 d2 := by
  refine ⟨h.fr.trans k.fr fun i hi e => ?_, k.B.trans h.B, k.pb.trans h.pb, fun i e => ?_⟩
  · rcases h.own e with e | e
    · exact e
    · omega
  · rcases k.cv i e with e | e
    · exact h.cv i e
    · exact .inr (Nat.le_trans h.fr.size e)
theorem Step.of_below (d : Bt) (h : Below w.heap.size w w') : Step w d w' d := ⟨Fr.of_below h, rfl, rfl, fun _ h => .inl h⟩
theorem Step.below {d' : Bt} (h : Step w d w' d') (hm : Mem w d q) {B : Nat} (hB : B ≤ d.B) : Below B w w' := by
  have h1 := hm.own_lt (k := d.pb) (.inl rfl)
  exact h.fr.below (by omega) fun k hk => Nat.le_trans hB (hm.own_lt hk).2
end

/-! The first walks: New, Len, Clear. -/
theorem new_any (w : World) : Calls Tryz.prog 30 #[] w fun e w' => ∃ d, e = .returned (ptr d.pb) ∧ d.pb = w.heap.size ∧ d.B = w.heap.size ∧ Mem w' d [] ∧ Below w.heap.size w w' := by
  go_enter Tryz.func30, Tryz.ntmps30
  go_wp2
  go_ret
  exact ⟨⟨w.heap.size, w.heap.size, .slice none 0 0⟩, rfl, rfl, rfl, ⟨Lies.new w _ _, World.ownsRow_nil _ _ _ _, fun k hk => (by cases hk), Nat.le_refl _⟩, (Below.refl _ _).alloc (Nat.le_refl _) _⟩
section
variable {w : World} {d : Bt} {q : List Chg}
theorem len_any (h : Mem w d q) : Calls Tryz.prog 40 #[ptr d.pb] w fun e w' => e = .returned (.int .i64 q.length) ∧ w = w' := by
  have hc := h.cell
  obtain ⟨a, c, hv⟩ := owns_slice h.owns
  rw [hv] at hc
  go_enter Tryz.func40, Tryz.ntmps40
  go_wp2
  go_ret
  exact ⟨rfl, rfl⟩
end
end Go.Proofs.YtghpohiinnallaaGreatDoor.Batch

/-
  Walks of the program's batch: what compares keys, the search, find.
-/
namespace Go.Proofs.YtghpohiinnallaaGreatDoor.Batch
open Go Go.RowKit

theorem cmp_lt : ∀ {a b : List UInt8}, Op.bytesLess a b = true → Lib.compareBytes a b = -1
  | [], [], h => by cases h
  | [], _ :: _, _ => rfl
  | _ :: _, [], h => by cases h
  | a :: r, b :: s, h => by
    have h' : (decide (a < b) || (a == b && Op.bytesLess r s)) = true := h
    unfold Lib.compareBytes
    by_cases h1 : a < b
    · rw [if_pos h1]
    · rw [if_neg h1]
      have h2 : a = b ∧ Op.bytesLess r s = true := by simpa [h1] using h'
      rw [h2.1, if_neg (UInt8.lt_irrefl b)]
      exact cmp_lt h2.2
theorem cmp_gt : ∀ {a b : List UInt8}, Op.bytesLess b a = true → Lib.compareBytes a b = 1
  | [], [], h => by cases h
  | [], _ :: _, h => by cases h
  | _ :: _, [], _ => rfl
  | a :: r, b :: s, h => by
    have h' : (decide (b < a) || (b == a && Op.bytesLess s r)) = true := h
    unfold Lib.compareBytes
    by_cases h1 : b < a
    · rw [if_neg (fun e => absurd (UInt8.lt_trans e h1) (UInt8.lt_irrefl a)), if_pos h1]
    · have h2 : b = a ∧ Op.bytesLess s r = true := by simpa [h1] using h'
      rw [h2.1, if_neg (UInt8.lt_irrefl a), if_neg (UInt8.lt_irrefl a)]
      exact cmp_gt h2.2
theorem cmp_same : ∀ a : List UInt8, Lib.compareBytes a a = 0
  | [] => rfl
  | a :: r => by
    unfold Lib.compareBytes
    rw [if_neg (UInt8.lt_irrefl a), if_neg (UInt8.lt_irrefl a)]
    exact cmp_same r

set_option maxRecDepth 100000 in
set_option maxHeartbeats 1000000 in
theorem compareL_any (a b : ByteArray) (w : World) :
    Calls Tryz.prog 112 #[.string a, .string b] w fun e w' => e = .returned (.int .i64 (Lib.compareBytes (bl a) (bl b))) ∧ w = w' := by
  have hx := fun W => Lib.run_compareString (P := Tryz.prog) a b W
  go_enter Tryz.func112, Tryz.ntmps112
  go_wp2
  rw [run_callFunc_extern Tryz.func139 (by kernel_rfl) (by kernel_rfl) (by kernel_rfl) (e := Extern.BytealgCompare.compare) (by kernel_rfl), hx]
  simp only [Result.andThen]
  rw [Oper.upon_value]
  go_wp2
  go_ret
  exact ⟨rfl, rfl⟩
set_option maxHeartbeats 1000000 in
theorem compare_any (a b : ByteArray) (w : World) :
    Calls Tryz.prog 75 #[.string a, .string b] w fun e w' => e = .returned (.int .i64 (Lib.compareBytes (bl a) (bl b))) ∧ w = w' := by
  go_enter Tryz.func75, Tryz.ntmps75
  go_wp2_with fail
  refine (compareL_any a b _).mono ?_
  rintro e w' ⟨rfl, rfl⟩
  go_wp2
  go_ret
  exact ⟨rfl, rfl⟩
set_option maxHeartbeats 1000000 in
theorem fn_any (c : Chg) (k : ByteArray) (w : World) (n : Int) (hn : Lib.compareBytes (bl c.key) (bl k) = n) :
    Calls Tryz.prog 133 #[chV c, .string k] w fun e w' => e = .returned (.int .i64 n) ∧ Below w.heap.size w w' := by
  subst hn
  go_enter Tryz.func133, Tryz.ntmps133
  go_wp2_with (go_at_call 75; refine (compare_any _ _ _).mono ?_; rintro e w' ⟨rfl, rfl⟩)
  go_ret
  exact ⟨rfl, (Below.refl _ _).alloc (Nat.le_refl _) _⟩

abbrev fnV : Value := .func (.func 133) #[] #[]
/-- What the comparison tells of the change at a place. -/
def sign (k : ByteArray) (q : List Chg) (i : Nat) : Int := if i < lo Chg.key k q then -1 else if i = lo Chg.key k q ∧ (at? Chg.key k q).isSome = true then 0 else 1
theorem sign_of {q : List Chg} (hr : Rising Chg.key q) (k : ByteArray) {i : Nat} {x : Chg} (h : q[i]? = some x) : Lib.compareBytes (bl x.key) (bl k) = sign k q i := by
  obtain ⟨hi, rfl⟩ := List.getElem?_eq_some_iff.1 h
  have hb := lo_below Chg.key hr (n := k) hi
  unfold sign
  by_cases h1 : i < lo Chg.key k q
  · rw [if_pos h1]
    exact cmp_lt (by rw [← decide_eq_true h1, ← hb]; rfl)
  · rw [if_neg h1]
    have hb' : less q[i].key k = false := by rw [hb]; exact decide_eq_false h1
    by_cases h2 : q[i].key = k
    · have ha := at_mem Chg.key hr q[i] (List.getElem_mem hi)
      rw [h2] at ha
      have h3 := at_there Chg.key hr ha
      have h4 : i = lo Chg.key k q := by
        rcases Nat.lt_or_ge (lo Chg.key k q) i with h5 | h5
        · exfalso
          have h6 : q[lo Chg.key k q]'h3.1 = q[i] := by
            have := h3.2
            rw [List.getElem?_eq_getElem h3.1] at this
            exact Option.some.inj this
          have h7 := List.pairwise_iff_getElem.1 hr _ _ h3.1 hi h5
          rw [h6, less_irrefl] at h7
          cases h7
        · omega
      rw [if_pos ⟨h4, by rw [ha]; rfl⟩, h2]
      exact cmp_same _
    · rw [if_neg]
      · exact cmp_gt (less_total hb' (fun e => h2 e.symm))
      · rintro ⟨rfl, h3⟩
        cases ha : at? Chg.key k q with
        | none => rw [ha] at h3; cases h3
        | some y =>
          have h4 := (at_there Chg.key hr ha).2
          rw [List.getElem?_eq_getElem hi] at h4
          have h5 := (at_some Chg.key ha).2
          rw [← Option.some.inj h4] at h5
          exact h2 h5
theorem sign_cases (k : ByteArray) (q : List Chg) (i : Nat) : (i < lo Chg.key k q ∧ sign k q i = -1) ∨ (lo Chg.key k q ≤ i ∧ (sign k q i = 0 ∨ sign k q i = 1)) := by
  unfold sign
  by_cases h1 : i < lo Chg.key k q
  · exact .inl ⟨h1, by rw [if_pos h1]⟩
  · refine .inr ⟨by omega, ?_⟩
    rw [if_neg h1]
    split
    · exact .inl rfl
    · exact .inr rfl

def SearchAt (w : World) (L : Nat) (q : List Chg) (i j : Value) (wr : World) : Prop :=
  ∃ a b : Nat, i = .int .i64 a ∧ j = .int .i64 b ∧ a ≤ L ∧ L ≤ b ∧ b ≤ q.length ∧ Below w.heap.size w wr
set_option maxHeartbeats 2000000 in
theorem search_any (v : Value) (q : List Chg) (k : ByteArray) (w : World) (h : ReadsC w v q) (hr : Rising Chg.key q) (hl : q.length ≤ 100000) :
    Calls Tryz.prog 132 #[v, .string k, fnV] w fun e w' => e = .returned (.tuple #[.int .i64 (lo Chg.key k q), .bool (at? Chg.key k q).isSome]) ∧ Below w.heap.size w w' := by
  have hlo := lo_le Chg.key k q
  rcases h with ⟨a, cap, rfl, rfl⟩ | ⟨h0, b, off, cap, rfl, h3, h4⟩
  · go_enter Tryz.func132, Tryz.ntmps132
    go_wp2_with fail
    go_loopw [9, 10] (fun i j wr => i = .int .i64 0 ∧ j = .int .i64 0 ∧ wr = w) (fun _ _ _ => 0)
    case atStart => exact ⟨rfl, rfl, rfl⟩
    case round =>
      obtain ⟨rfl, rfl, rfl⟩ := hrel
      go_wp2_with fail
      go_ret2
      exact ⟨rfl, Below.refl _ _⟩
  · have HC := Lib.hid (fun (W : World) (hW : Below w.heap.size w W) (i : Nat) (x : Chg) (hx : q[i]? = some x) => three (range_below (h4 i x hx) h3 hW))
    have HS := Lib.hid (fun (i : Nat) (x : Chg) (hx : q[i]? = some x) => sign_of hr k hx)
    have HQ := Lib.hid (sign_cases k q)
    clear h4
    have HA : Hid ((at? Chg.key k q).isSome = decide (lo Chg.key k q < q.length ∧ sign k q (lo Chg.key k q) = 0)) := by
      refine Lib.hid ?_
      unfold sign
      rw [if_neg (Nat.lt_irrefl _)]
      cases ha : at? Chg.key k q with
      | none => simp
      | some y => simp [(at_there Chg.key hr ha).1]
    generalize sign k q = S at *
    generalize lo Chg.key k q = L at *
    generalize (at? Chg.key k q).isSome = A at *
    clear hr
    go_enter Tryz.func132, Tryz.ntmps132
    go_wp2_with fail
    go_loopw [9, 10] (fun i j wr => SearchAt w L q i j wr) (fun i j _ => (intOf j - intOf i).toNat)
    case atStart => exact ⟨0, q.length, rfl, rfl, Nat.zero_le _, hlo, Nat.le_refl _, Below.refl _ _⟩
    case round =>
      obtain ⟨a, b', rfl, rfl, ha, hb, hbl, hB⟩ := hrel
      have HB := Lib.hid hB
      clear hB
      by_cases hlt : a < b'
      · obtain ⟨m, hm1, hm2, hm3⟩ : ∃ m : Nat, ((a : Int) + b') / 2 = m ∧ a ≤ m ∧ m < b' := ⟨(a + b') / 2, by omega, by omega, by omega⟩
        obtain ⟨x, hx⟩ : ∃ x, q[m]? = some x := ⟨q[m]'(by omega), List.getElem?_eq_getElem (by omega)⟩
        obtain ⟨c0, c1, c2⟩ := HC.out wr HB.out m x hx
        have hX := HS.out m x hx
        have hQm := HQ.out m
        clear hx
        rcases hQm with ⟨hml, hS⟩ | ⟨hml, hS | hS⟩
        all_goals
          rw [hS] at hX
          have HX := Lib.hid hX
          clear hX hS
          go_wp2_with fail
          refine (fn_any x k _ _ HX.out).mono ?_
          rintro e w1 ⟨rfl, hb1⟩
          have HB1 := Lib.hid (HB.out.trans (hb1.mono HB.out.size))
          clear hb1
          go_wp2_with fail
          go_roundw
          case rel => first | exact ⟨m + 1, b', by simp, rfl, by omega, by omega, by omega, HB1.out⟩ | exact ⟨a, m, rfl, rfl, by omega, by omega, by omega, HB1.out⟩
          case measure => simp [intOf]; omega
      · obtain rfl : a = b' := by omega
        obtain rfl : a = L := by omega
        by_cases hq : a < q.length
        · obtain ⟨x, hx⟩ : ∃ x, q[a]? = some x := ⟨q[a], List.getElem?_eq_getElem hq⟩
          obtain ⟨c0, c1, c2⟩ := HC.out wr HB.out a x hx
          have hX := HS.out a x hx
          have hQm := HQ.out a
          clear hx
          have hS : S a = 0 ∨ S a = 1 := by rcases hQm with ⟨h, _⟩ | ⟨_, h⟩; exact absurd h (by omega); exact h
          clear hQm
          rcases hS with hS | hS
          all_goals
            have HAA := Lib.hid (HA.out.trans (by rw [hS]; simp [hq] : _ = decide (S a = 0)))
            rw [hS] at hX HAA
            have HX := Lib.hid hX
            clear hX hS
            go_wp2_with fail
            refine (fn_any x k _ _ HX.out).mono ?_
            rintro e w1 ⟨rfl, hb1⟩
            have HB1 := Lib.hid (HB.out.trans (hb1.mono HB.out.size))
            clear hb1
            go_wp2_with fail
            go_ret2
            exact ⟨by rw [HAA.out]; rfl, HB1.out⟩
        · have HAA := Lib.hid (HA.out.trans (decide_eq_false (fun e => hq e.1)))
          go_wp2_with fail
          go_ret2
          exact ⟨by rw [HAA.out]; rfl, HB.out⟩
theorem find_any {w : World} {d : Bt} {q : List Chg} (h : Mem w d q) (hr : Rising Chg.key q) (hl : q.length ≤ 100000) (k : ByteArray) :
    Calls Tryz.prog 106 #[ptr d.pb, .string k] w fun e w' => e = .returned (.tuple #[.int .i64 (lo Chg.key k q), .bool (at? Chg.key k q).isSome]) ∧ Below w.heap.size w w' := by
  have hc := h.cell
  have HR := Lib.hid (search_any d.cv q k w h.reads hr hl)
  clear h hr
  go_enter Tryz.func106, Tryz.ntmps106
  go_wp2_with fail
  refine HR.out.mono ?_
  rintro e w1 ⟨rfl, hb1⟩
  have HB1 := Lib.hid hb1
  clear hb1
  go_wp2_with fail
  go_ret2
  exact ⟨rfl, HB1.out⟩
end Go.Proofs.YtghpohiinnallaaGreatDoor.Batch

/-
  Walks of the program's batch: check, Get.
-/
namespace Go.Proofs.YtghpohiinnallaaGreatDoor.Batch
open Go Go.RowKit

theorem emp_true (s : ByteArray) (h : s.size = 0) : s.toList.isEmpty = true := Nets.emp_of s h
theorem emp_false (s : ByteArray) (h : 0 < s.size) : s.toList.isEmpty = false := Nets.emp_not s h
set_option maxHeartbeats 1000000 in
theorem check_any (c : Chg) (w : World) (hk : c.key.size ≤ 9223372036854775807) (hv : c.val.size ≤ 9223372036854775807) (n : Nat) (hn : chk c = n) :
    Calls Tryz.prog 105 #[chV c] w fun e w' => e = .returned (.int .i64 n) ∧ Below w.heap.size w w' := by
  subst hn
  by_cases h0 : c.key.size = 0
  · have e1 : chk c = 3 := by unfold chk; rw [if_pos h0]
    have e2 := emp_true c.key h0
    rw [e1]
    clear e1
    go_enter Tryz.func105, Tryz.ntmps105
    go_wp2
    go_ret
    exact ⟨rfl, (Below.refl _ _).alloc (Nat.le_refl _) _⟩
  · have e2 := emp_false c.key (by omega)
    by_cases h1 : 200 < c.key.size
    · have e1 : chk c = 2 := by unfold chk; rw [if_neg h0, if_pos (.inl h1)]
      rw [e1]
      clear e1
      go_enter Tryz.func105, Tryz.ntmps105
      go_wp2
      go_ret
      exact ⟨rfl, (Below.refl _ _).alloc (Nat.le_refl _) _⟩
    · by_cases h2 : 1048576 < c.val.size
      · have e1 : chk c = 2 := by unfold chk; rw [if_neg h0, if_pos (.inr h2)]
        rw [e1]
        clear e1
        go_enter Tryz.func105, Tryz.ntmps105
        go_wp2
        go_ret
        exact ⟨rfl, (Below.refl _ _).alloc (Nat.le_refl _) _⟩
      · have e1 : chk c = 0 := by unfold chk; rw [if_neg h0, if_neg (by omega)]
        rw [e1]
        clear e1
        go_enter Tryz.func105, Tryz.ntmps105
        go_wp2
        go_ret
        exact ⟨rfl, (Below.refl _ _).alloc (Nat.le_refl _) _⟩

theorem load_chg (w : World) (g : Nat) (t : TypeId) (cs : Array Value) (h3 : cs.size = 3) (hg : w.heap[g]? = some (.cells cs t (0, 0))) : (loadVar chgT ⟨g, 0, none⟩).run Tryz.prog w = .ok (.agg cs) w :=
  run_loadVar_row w g t chgT cs (0, 0) _ hg Tryz.underlying123 rfl (by rw [h3]; exact size3)
theorem load_ref (w : World) (g : Nat) (t : TypeId) (cs : Array Value) (h3 : cs.size = 3) (hg : w.heap[g]? = some (.cells cs t (0, 0))) : (loadVar refT ⟨g, 0, none⟩).run Tryz.prog w = .ok (.agg cs) w :=
  run_loadVar_row w g t refT cs (0, 0) _ hg Tryz.underlying120 rfl (by rw [h3]; exact sizeR)
/-- The three cells of a box, and that they may be written. -/
theorem lies3 {w : World} {b : Nat} {x y z : Value} {t : TypeId} (h : Lies w b #[x, y, z] t) : w.cell? ⟨b, 0, none⟩ = some x ∧ w.cell? ⟨b, 1, none⟩ = some y ∧ w.cell? ⟨b, 2, none⟩ = some z ∧ w.frozen? ⟨b, 0, none⟩ = false ∧ w.frozen? ⟨b, 1, none⟩ = false ∧ w.frozen? ⟨b, 2, none⟩ = false :=
  ⟨h.cell 0, h.cell 1, h.cell 2, h.free 0, h.free 1, h.free 2⟩
theorem set3 {w w1 : World} {x y z : Value} (h : Below w.heap.size w w1) : Below w.heap.size w (((w1.setCell ⟨w.heap.size, 0, none⟩ x).setCell ⟨w.heap.size, 1, none⟩ y).setCell ⟨w.heap.size, 2, none⟩ z) :=
  ((h.setCell (p := ⟨w.heap.size, 0, none⟩) (Nat.le_refl _) x).setCell (p := ⟨w.heap.size, 1, none⟩) (Nat.le_refl _) y).setCell (p := ⟨w.heap.size, 2, none⟩) (Nat.le_refl _) z
theorem results_two {fn : Func} {p q : Tmp} {ty : TypeId} (h : fn.results = #[.cell p ty, .tmp q]) (tmps : Array Value) (w : World) (g : Nat) (cs : Array Value)
    (hp : tmps.getD p undef = .pointer (some ⟨g, 0, none⟩)) (hl : (loadVar ty ⟨g, 0, none⟩).run Tryz.prog w = .ok (.agg cs) w) :
    (results fn tmps).run Tryz.prog w = .ok (.tuple #[.agg cs, tmps.getD q undef]) w := by
  have hp' : tmps[p]?.getD undef = .pointer (some ⟨g, 0, none⟩) := by simpa using hp
  simp [results, h, hp', asAddr, hl]
theorem results_one {fn : Func} {p : Tmp} {ty : TypeId} (h : fn.results = #[.cell p ty]) (tmps : Array Value) (w : World) (g : Nat) (cs : Array Value)
    (hp : tmps.getD p undef = .pointer (some ⟨g, 0, none⟩)) (hl : (loadVar ty ⟨g, 0, none⟩).run Tryz.prog w = .ok (.agg cs) w) :
    (results fn tmps).run Tryz.prog w = .ok (.agg cs) w := by
  have hp' : tmps[p]?.getD undef = .pointer (some ⟨g, 0, none⟩) := by simpa using hp
  simp [results, h, hp', asAddr, hl]

/-- What is told of a key. -/
def tells (k : ByteArray) (q : List Chg) : Chg := match at? Chg.key k q with | some c => c | none => Chg.none
end Go.Proofs.YtghpohiinnallaaGreatDoor.Batch

/-
  Rows of changes: what copying and appending leave.
-/
namespace Go.Proofs.YtghpohiinnallaaGreatDoor.Batch
open Go Go.RowKit

section
variable {α : Type}
theorem row_ahead (L A X R : List α) (a b c : Nat) (ha : A.length = a) (hb : a + X.length = b) (hc : b + R.length = c) (hA : L.take a = A) (hl : c ≤ L.length) :
    ((L.take a ++ X ++ L.drop b).take b ++ R ++ (L.take a ++ X ++ L.drop b).drop c).take c = A ++ X ++ R ∧ ((L.take a ++ X ++ L.drop b).take b ++ R ++ (L.take a ++ X ++ L.drop b).drop c).length = L.length := by
  have h1 : (L.take a ++ X ++ L.drop b).take b = A ++ X := by
    rw [hA, List.take_append_of_le_length (by simp; omega)]
    exact List.take_of_length_le (by simp; omega)
  have h2 : (L.take a ++ X ++ L.drop b).length = L.length := by
    rw [hA]; simp; omega
  rw [h1]
  constructor
  · rw [List.take_append_of_le_length (by simp; omega)]
    exact List.take_of_length_le (by simp; omega)
  · rw [List.length_append, List.length_drop, h2]
    simp
    omega
theorem row_behind (L A X R : List α) (a b c : Nat) (ha : A.length = a) (hb : a + X.length = b) (hc : b + R.length = c) (hA : L.take a = A) (hl : c ≤ L.length) :
    ((L.take b ++ R ++ L.drop c).take a ++ X ++ (L.take b ++ R ++ L.drop c).drop b).take c = A ++ X ++ R ∧ ((L.take b ++ R ++ L.drop c).take a ++ X ++ (L.take b ++ R ++ L.drop c).drop b).length = L.length := by
  have h0 : (L.take b).length = b := by rw [List.length_take]; omega
  have h1 : (L.take b ++ R ++ L.drop c).take a = A := by
    rw [List.append_assoc, List.take_append_of_le_length (by omega), List.take_take, Nat.min_eq_left (by omega), hA]
  have h2 : (L.take b ++ R ++ L.drop c).drop b = R ++ L.drop c := by
    rw [List.append_assoc, List.drop_append_of_le_length (by omega), List.drop_eq_nil_of_le (by omega), List.nil_append]
  rw [h1, h2]
  constructor
  · rw [← List.append_assoc, List.take_append_of_le_length (by simp; omega)]
    exact List.take_of_length_le (by simp; omega)
  · simp
    omega
end

/-- Changes copied into a row that is known whole. -/
theorem run_copy3 (w : World) (dT sT ty : TypeId) (hu : Tryz.prog.underlying dT = some (.slice chgT)) (g o dLen dCap : Nat) (a : Addr) (sLen sCap : Nat) (cur : Array Value) (t : TypeId) (cs : List Value) (n : Nat)
    (hn : Nat.min sLen dLen = n) (hc : cs.length = n * 3) (hg : w.heap[g]? = some (.cells cur t (0, 0))) (hsrc : ∀ j v, cs[j]? = some v → w.cell? (a.add j) = some v) (hfit : o + cs.length ≤ cur.size) (h1 : ∀ v ∈ cs, v.oneCell' = true) :
    (Builtin.copy_ #[dT, sT] ty #[.slice (some ⟨g, o, none⟩) dLen dCap, .slice (some a) sLen sCap]).run Tryz.prog w =
      .ok (goInt n) (w.setRow g (cur.toList.take o ++ cs ++ cur.toList.drop (o + cs.length)).toArray) := by
  have hl := run_loadCells_list (P := Tryz.prog) w a cs hsrc
  have hst := run_storeCells_at Tryz.prog g o t cs 0 cur w hg (by simpa using hfit) h1
  rw [hc] at hl
  obtain ⟨i0, hi, hz0, hz1, hz2⟩ := info_parts infoC
  simp [Builtin.copy_, run_underlying hu, Builtin.lenOf, Builtin.firstCells, sizeOf, typeInfo, hi, hz1, hn, hl, hst]

/-- A list of changes with one appended. -/
theorem append_chg (w : World) (B : Nat) (v : Value) (q : List Chg) (x : Chg) (vb : Nat) (ho : w.ownsRow B chgT 3 v q.length (q.flatMap chC)) (hl : q.length ≤ 100000) (hB : B ≤ w.heap.size) (hx : w.rangeAt vb 0 (chC x)) :
    ∃ v' w', (Builtin.append_ #[chsT, chsT] chsT #[v, .slice (some ⟨vb, 0, none⟩) 1 1]).run Tryz.prog w = .ok v' w' ∧
      Hid (w'.ownsRow B chgT 3 v' (q.length + 1) ((q ++ [x]).flatMap chC) ∧ Fr (fun k => v.ownBlock = some k) w w' ∧ (∀ k, v'.ownBlock = some k → v.ownBlock = some k ∨ w.heap.size ≤ k)) := by
  obtain ⟨i0, hi, hz0, hz1, hz2⟩ := info_parts infoC
  obtain ⟨v', w', hr, h2, h3, _, h5⟩ := run_append_own_at (P := Tryz.prog) w B chsT chsT chgT i0 _ 3 40 Tryz.underlying103 hi hz0 hz1 hz2 rfl (by decide) v q.length _ ho ⟨vb, 0, none⟩ 1 1 (chC x) rfl
    (fun j u hu => by rw [addr_add]; exact hx j u hu) (one_cell x) (by unfold maxLen; omega) (by omega) hB
  refine ⟨v', w', hr, Lib.hid ⟨?_, ?_, fun k hk => ?_⟩⟩
  · rw [flat_snoc]; exact h2
  · exact (Fr.refl _ w).grown h3 fun k hk _ => hk
  · rcases h5 with h5 | h5
    · exact .inl (h5 ▸ hk)
    · rw [h5] at hk
      have := Option.some.inj hk
      exact .inr (by omega)
theorem goInt_one : goInt 1 = .int .i64 1 := rfl

/-- The list with one put in. -/
def insC (q : List Chg) (i : Nat) (x : Chg) : List Chg := q.take i ++ x :: q.drop i
theorem insC_flat (q : List Chg) (i : Nat) (x : Chg) : (insC q i x).flatMap chC = (q.flatMap chC).take (i * 3) ++ chC x ++ (q.flatMap chC).drop (i * 3) := by
  unfold insC
  rw [List.flatMap_append, List.flatMap_cons, flat_take, flat_drop]
  simp
theorem insC_length (q : List Chg) (i : Nat) (x : Chg) (hi : i ≤ q.length) : (insC q i x).length = q.length + 1 := by
  unfold insC
  simp
  omega
end Go.Proofs.YtghpohiinnallaaGreatDoor.Batch

/-
  Walks of slices.Insert at changes: at the end; where there is no room; where there is.
-/
namespace Go.Proofs.YtghpohiinnallaaGreatDoor.Batch
open Go Go.RowKit

/-- What an insertion leaves. -/
def Inserted (w : World) (B : Nat) (v : Value) (q' : List Chg) (e : Ending) (w' : World) : Prop :=
  ∃ v', e = .returned v' ∧ w'.ownsRow B chgT 3 v' q'.length (q'.flatMap chC) ∧ Fr (fun k => v.ownBlock = some k) w w' ∧ ∀ k, v'.ownBlock = some k → v.ownBlock = some k ∨ w.heap.size ≤ k

set_option maxHeartbeats 2000000 in
theorem insert_end (w : World) (B : Nat) (v : Value) (q : List Chg) (x : Chg) (vb : Nat) (ho : w.ownsRow B chgT 3 v q.length (q.flatMap chC)) (hl : q.length ≤ 100000) (hB : B ≤ w.heap.size) (hx : w.rangeAt vb 0 (chC x)) :
    Calls Tryz.prog 107 #[v, .int .i64 q.length, .slice (some ⟨vb, 0, none⟩) 1 1] w (Inserted w B v (q ++ [x])) := by
  obtain ⟨v', w', hr, hh⟩ := append_chg w B v q x vb ho hl hB hx
  have HR := Lib.hid hr
  clear hr
  have hs := ho.2
  clear ho hx
  rcases hs with ⟨rfl, h0⟩ | ⟨g, cap, cur, rfl, _, _, hc1, hc2, _, _⟩
  · obtain rfl : q = [] := List.length_eq_zero_iff.1 h0
    go_enter Tryz.func107, Tryz.ntmps107
    go_wp2_with (at_builtin; refine Lib.wpList_append_run _ rfl _ _ _ _ rfl _ _ rfl rfl _ _ HR.out ?_)
    go_ret
    exact ⟨v', rfl, hh.out⟩
  · unfold maxLen at hc2
    by_cases hcap : cap = q.length
    · go_enter Tryz.func107, Tryz.ntmps107
      go_wp2_with (at_builtin; refine Lib.wpList_append_run _ rfl _ _ _ _ rfl _ _ rfl rfl _ _ HR.out ?_)
      go_ret
      refine ⟨v', rfl, ?_⟩
      have h := hh.out
      rw [List.length_append]
      exact h
    · go_enter Tryz.func107, Tryz.ntmps107
      go_wp2_with (at_builtin; refine Lib.wpList_append_run _ rfl _ _ _ _ rfl _ _ rfl rfl _ _ HR.out ?_)
      go_ret
      refine ⟨v', rfl, ?_⟩
      have h := hh.out
      rw [List.length_append]
      exact h

set_option maxHeartbeats 4000000 in
set_option maxRecDepth 100000 in
theorem insert_grow (w : World) (B g cap : Nat) (cur : Array Value) (q : List Chg) (i : Nat) (x : Chg) (vb : Nat) (_hBg : B ≤ g) (hg : w.heap[g]? = some (.cells cur chgT (0, 0))) (hnc : q.length ≤ cap) (_hcm : cap ≤ 9223372036854775807) (hcur : cur.toList.take (q.length * 3) = q.flatMap chC) (hi : i < q.length) (hl : q.length ≤ 100000)
    (hB : B ≤ w.heap.size) (hx : w.rangeAt vb 0 (chC x)) (hvw : vb < w.heap.size) (hroom : cap < q.length + 1) :
    Calls Tryz.prog 107 #[.slice (some ⟨g, 0, none⟩) q.length cap, .int .i64 i, .slice (some ⟨vb, 0, none⟩) 1 1] w (Inserted w B (.slice (some ⟨g, 0, none⟩) q.length cap) (insC q i x)) := by
  obtain ⟨i0, hi0, hz0, hzs, hzb⟩ := info_parts infoC
  have hn : (insC q i x).length = q.length + 1 := insC_length q i x (by omega)
  have hfl := insC_flat q i x
  have hql := flat_length q
  have hgw : g < w.heap.size := (Array.getElem?_eq_some_iff.1 hg).1
  have hcell : ∀ j v, (q.flatMap chC)[j]? = some v → w.cell? ⟨g, j, none⟩ = some v := fun j v hj => by
    rw [← hcur, List.getElem?_take] at hj
    split at hj
    · rw [cell_of_row w g j cur chgT (0, 0) hg]; simpa using hj
    · cases hj
  obtain ⟨C, hC⟩ : ∃ C, C = q.flatMap chC := ⟨_, rfl⟩
  rw [← hC] at hcell hql hfl
  obtain ⟨n, hqn⟩ : ∃ n, n = q.length := ⟨_, rfl⟩
  rw [← hqn] at hnc hi hl hroom hn hql ⊢
  have h1C : ∀ u ∈ C, u.oneCell' = true := by rw [hC]; exact flat_one q
  have hold : (Builtin.firstCells i0.size i (.slice (some ⟨g, 0, none⟩) i cap)).run Tryz.prog w.drew = .ok (C.take (i * 3)).toArray w.drew := by
    rw [hzs]
    exact run_firstCells_some w.drew 3 i ⟨g, 0, none⟩ i cap (C.take (i * 3)) (by rw [List.length_take]; omega) (fun j v hj => by
      rw [addr_add]
      rw [List.getElem?_take] at hj
      split at hj
      · rw [Nat.zero_add]; exact hcell j v hj
      · cases hj)
  have hkk : (n : Int) + 1 - (i : Int) = ((n + 1 - i : Nat) : Int) := by omega
  have hik : i + (n + 1 - i) = n + 1 := by omega
  obtain ⟨G, hG⟩ : ∃ G, G = grownCap w (n + 1) cap chgT := ⟨_, rfl⟩
  obtain ⟨ROW, hROW⟩ : ∃ ROW : Array Value, ROW = (C.take (i * 3)).toArray ++ Builtin.zeroCells (Value.agg #[.string ⟨#[]⟩, .string ⟨#[]⟩, .bool false]).cells (n + 1 - i) ++ Builtin.zeroCells (Value.agg #[.string ⟨#[]⟩, .string ⟨#[]⟩, .bool false]).cells (G - (n + 1)) := ⟨_, rfl⟩
  have hrz : ∀ ty, (Builtin.append_ #[chsT, 3] ty #[.slice (some ⟨g, 0, none⟩) i cap, .int .i64 ((n : Int) + 1 - (i : Int))]).run Tryz.prog w =
      .ok (.slice (some ⟨w.heap.size, 0, none⟩) (n + 1) G) (w.drew.alloc (.cells ROW chgT)) := fun ty => by
    have h := Lib.run_append_grow_zeros w chsT 3 ty chgT i0 _ .i64 .i64 Tryz.underlying103 Tryz.underlying3 hi0 hz0 (some ⟨g, 0, none⟩) i cap (C.take (i * 3)) hold (n + 1 - i) (by omega) (by omega) (by omega) (by omega) (by rw [hzb]; omega) (by rw [hzb, hik]; exact growslice_fits hroom (by omega))
    rw [hik] at h
    rw [hkk, hROW, hG]
    exact h
  have hGn : n + 1 ≤ G := by rw [hG]; exact grownCap_ge w _ _ _
  have hG63 : G ≤ 9223372036854775807 := by
    have := grownCap_le_maxLen w (n + 1) cap chgT (by unfold maxLen; omega)
    rw [← hG] at this
    unfold maxLen at this
    omega
  have hRl : ROW.size = G * 3 := by
    rw [hROW]
    simp [Builtin.zeroCells, Value.cells]
    omega
  have hRt : ROW.toList.take (i * 3) = C.take (i * 3) := by
    rw [hROW]
    simp only [Array.toList_append, List.append_assoc]
    exact List.take_left' (by simp; omega)
  obtain ⟨ROW1, hROW1⟩ : ∃ R : Array Value, R = (ROW.toList.take (i * 3) ++ chC x ++ ROW.toList.drop (i * 3 + (chC x).length)).toArray := ⟨_, rfl⟩
  have hR1 : ROW1.size = G * 3 := by
    rw [hROW1]
    simp [chC_length]
    omega
  obtain ⟨ROW2, hROW2⟩ : ∃ R : Array Value, R = (ROW1.toList.take ((i + 1) * 3) ++ C.drop (i * 3) ++ ROW1.toList.drop ((i + 1) * 3 + (C.drop (i * 3)).length)).toArray := ⟨_, rfl⟩
  have hdl : (C.drop (i * 3)).length = (n - i) * 3 := by rw [List.length_drop]; omega
  have hcpA : ∀ (W : World), W.heap[w.heap.size]? = some (.cells ROW chgT (0, 0)) → (∀ k, k < w.heap.size → W.heap[k]? = w.heap[k]?) → ∀ ty dc, (Builtin.copy_ #[chsT, chsT] ty #[.slice (some ⟨w.heap.size, i * 3, none⟩) (n + 1 - i) dc, .slice (some ⟨vb, 0, none⟩) 1 1]).run Tryz.prog W = .ok (goInt 1) (W.setRow w.heap.size ROW1) := fun W h1 h2 ty dc => by
    rw [hROW1]
    exact run_copy3 W chsT chsT ty Tryz.underlying103 w.heap.size (i * 3) (n + 1 - i) dc ⟨vb, 0, none⟩ 1 1 ROW chgT (chC x) 1 (by simp only [Nat.min_def]; split <;> omega) rfl h1
      (fun j v hj => by rw [addr_add, World.cell?_of_block (a := ⟨vb, 0 + j, none⟩) (h2 vb hvw)]; exact hx j v hj) (by rw [chC_length]; omega) (one_cell x)
  have hcpB : ∀ (W : World), W.heap[w.heap.size]? = some (.cells ROW1 chgT (0, 0)) → (∀ k, k < w.heap.size → W.heap[k]? = w.heap[k]?) → ∀ ty dc sc, (Builtin.copy_ #[chsT, chsT] ty #[.slice (some ⟨w.heap.size, (i + 1) * 3, none⟩) (n + 1 - (i + 1)) dc, .slice (some ⟨g, i * 3, none⟩) (n - i) sc]).run Tryz.prog W = .ok (goInt ((n - i : Nat) : Int)) (W.setRow w.heap.size ROW2) := fun W h1 h2 ty dc sc => by
    rw [hROW2]
    exact run_copy3 W chsT chsT ty Tryz.underlying103 w.heap.size ((i + 1) * 3) (n + 1 - (i + 1)) dc ⟨g, i * 3, none⟩ (n - i) sc ROW1 chgT (C.drop (i * 3)) (n - i) (by simp only [Nat.min_def]; split <;> omega) hdl h1
      (fun j v hj => by rw [addr_add, World.cell?_of_block (a := ⟨g, i * 3 + j, none⟩) (h2 g hgw)]; exact hcell _ v (by rwa [List.getElem?_drop] at hj)) (by rw [hdl]; omega) (fun u hu => h1C u (List.mem_of_mem_drop hu))
  have hfin := row_ahead ROW.toList (C.take (i * 3)) (chC x) (C.drop (i * 3)) (i * 3) ((i + 1) * 3) ((n + 1) * 3) (by rw [List.length_take]; omega) (by rw [chC_length]; omega) (by rw [hdl]; omega) hRt (by simp; omega)
  rw [chC_length] at hROW1
  rw [hdl] at hROW2
  have e3 : i * 3 + 3 = (i + 1) * 3 := by omega
  have e4 : (i + 1) * 3 + (n - i) * 3 = (n + 1) * 3 := by omega
  rw [e3] at hROW1
  rw [e4] at hROW2
  have hF : Hid (ROW2.toList.take ((n + 1) * 3) = (insC q i x).flatMap chC ∧ ROW2.size = G * 3) := by
    refine Lib.hid ?_
    rw [hfl, hROW2, hROW1]
    refine ⟨hfin.1, ?_⟩
    have := hfin.2
    simp only [List.size_toArray]
    rw [this]
    simpa using hRl
  have HN := Lib.hid hn
  have HQ := Lib.hid hqn
  have HRZ := Lib.hid hrz
  have HCA := Lib.hid hcpA
  have HCB := Lib.hid hcpB
  have hz2 : ¬ ((i : Int) = (n : Int)) := by omega
  have hz3 : (cap : Int) < (n : Int) + 1 := by omega
  have hin : i ≤ n := by omega
  have hGi : ¬ (G = i) := by omega
  have hGim : ¬ (G = i + 1) := by omega
  have hci : ¬ (cap = i) := by omega
  have hb3 : (i : Int) ≤ (n : Int) := by omega
  have hw1 : IntKind.i64.wrap ((i : Int) + 1) = (i : Int) + 1 := by rw [IntKind.wrap_i64]; omega
  have hb1 : (0 : Int) ≤ (i : Int) + 1 := by omega
  have hb2 : (i : Int) + 1 ≤ (n : Int) + 1 := by omega
  have htn : ((i : Int) + 1).toNat = i + 1 := by omega
  have HA1 : Hid (((w.alloc (.cells ROW chgT)).drew).heap[w.heap.size]? = some (.cells ROW chgT (0, 0))) := heap_alloc_new w _
  have HA2 : Hid (∀ k, k < w.heap.size → ((w.alloc (.cells ROW chgT)).drew).heap[k]? = w.heap[k]?) := fun k hk => Below.heap_alloc w _ k hk
  have HB1 : Hid (((((w.alloc (.cells ROW chgT)).drew).setRow w.heap.size ROW1).drew).heap[w.heap.size]? = some (.cells ROW1 chgT (0, 0))) := setRow_heap _ _ _ _ _ _ HA1.out
  have HB2 : Hid (∀ k, k < w.heap.size → ((((w.alloc (.cells ROW chgT)).drew).setRow w.heap.size ROW1).drew).heap[k]? = w.heap[k]?) := fun k hk => (setRow_other _ _ _ _ (by omega)).trans (HA2.out k hk)
  clear hkk hik hold hROW hG hRl hrz hcpA hcpB hfin hROW1 hROW2 hRt hR1 hdl e3 e4 hn hqn hfl hC h1C hcur hcell hql hx hi0 hz0 hzs hzb
  go_enter Tryz.func107, Tryz.ntmps107
  go_wp2_with (first
    | (at_builtin; refine Lib.wpList_append_run _ rfl _ _ _ _ rfl _ _ rfl rfl _ _ (HRZ.out _) ?_)
    | (at_builtin; refine wpList_copy_runI _ rfl _ _ chsT chsT rfl _ _ rfl rfl (HCA.out _ HA1.out HA2.out _ _) ?_)
    | (refine wpList_copy_runI _ rfl _ _ chsT chsT rfl _ _ rfl rfl (HCA.out _ HA1.out HA2.out _ _) ?_))
  go_region_law (refine step_copy_runI rfl _ _ chsT chsT rfl _ _ (by simp [Act.eval, Act.put]) (by simp [Act.eval, Act.put]) (HCB.out _ HB1.out HB2.out 3 (G - (i + 1)) (cap - i)) ?_)
  go_wp2
  go_ret
  have hf := hF.out
  have hL : (((w.alloc (.cells ROW chgT)).drew.setRow w.heap.size ROW1).drew.setRow w.heap.size ROW2).heap[w.heap.size]? = some (.cells ROW2 chgT (0, 0)) := setRow_heap _ _ _ _ _ _ HB1.out
  refine ⟨.slice (some ⟨w.heap.size, 0, none⟩) (n + 1) G, rfl, ⟨flat_length _, .inr ⟨w.heap.size, G, ROW2, by rw [HN.out], hB, hL, by rw [HN.out]; exact hGn, hG63, hf.2, by rw [HN.out]; exact hf.1⟩⟩, ⟨rfl, rfl, rfl, by simp, fun k hk _ => ?_⟩, fun k hk => ?_⟩
  · exact (setRow_other _ _ _ _ (by omega)).trans (HB2.out k hk)
  · have : w.heap.size = k := Option.some.inj hk
    exact .inr (by omega)

set_option maxHeartbeats 4000000 in
set_option maxRecDepth 100000 in
theorem insert_room (w : World) (B g cap : Nat) (cur : Array Value) (q : List Chg) (i : Nat) (x : Chg) (vb : Nat) (hBg : B ≤ g) (hg : w.heap[g]? = some (.cells cur chgT (0, 0))) (hcm : cap ≤ 9223372036854775807) (hsz : cur.size = cap * 3) (hcur : cur.toList.take (q.length * 3) = q.flatMap chC) (hi : i < q.length) (hl : q.length ≤ 100000)
    (hx : Lies w vb #[.string x.key, .string x.val, .bool x.gone] chgT) (hne : vb ≠ g) (hroom : q.length + 1 ≤ cap) :
    Calls Tryz.prog 107 #[.slice (some ⟨g, 0, none⟩) q.length cap, .int .i64 i, .slice (some ⟨vb, 0, none⟩) 1 1] w (Inserted w B (.slice (some ⟨g, 0, none⟩) q.length cap) (insC q i x)) := by
  have hn : (insC q i x).length = q.length + 1 := insC_length q i x (by omega)
  have hfl := insC_flat q i x
  have hql := flat_length q
  have hxr : w.rangeAt vb 0 (chC x) := fun j u hu => by rw [hx.cell]; simpa [chC] using hu
  have hcell : ∀ j v, (q.flatMap chC)[j]? = some v → w.cell? ⟨g, j, none⟩ = some v := fun j v hj => by
    rw [← hcur, List.getElem?_take] at hj
    split at hj
    · rw [cell_of_row w g j cur chgT (0, 0) hg]; simpa using hj
    · cases hj
  obtain ⟨C, hC⟩ : ∃ C, C = q.flatMap chC := ⟨_, rfl⟩
  rw [← hC] at hcell hql hfl hcur
  obtain ⟨n, hqn⟩ : ∃ n, n = q.length := ⟨_, rfl⟩
  rw [← hqn] at hi hl hroom hn hql hcur ⊢
  have h1C : ∀ u ∈ C, u.oneCell' = true := by rw [hC]; exact flat_one q
  have hRt : cur.toList.take (i * 3) = C.take (i * 3) := by rw [← hcur, List.take_take, Nat.min_eq_left (by omega)]
  obtain ⟨ROW1, hROW1⟩ : ∃ R : Array Value, R = (cur.toList.take ((i + 1) * 3) ++ C.drop (i * 3) ++ cur.toList.drop ((i + 1) * 3 + (C.drop (i * 3)).length)).toArray := ⟨_, rfl⟩
  have hdl : (C.drop (i * 3)).length = (n - i) * 3 := by rw [List.length_drop]; omega
  have hR1 : ROW1.size = cap * 3 := by
    rw [hROW1]
    simp only [List.size_toArray, List.length_append, List.length_take, hdl, List.length_drop, Array.length_toList, hsz]
    omega
  obtain ⟨ROW2, hROW2⟩ : ∃ R : Array Value, R = (ROW1.toList.take (i * 3) ++ chC x ++ ROW1.toList.drop (i * 3 + (chC x).length)).toArray := ⟨_, rfl⟩
  have hov : ∀ (W : World), W.heap[vb]? = w.heap[vb]? → W.heap[g]? = w.heap[g]? → ∀ lb cb, (callFunc 134 #[.slice (some ⟨vb, 0, none⟩) 1 1, .slice (some ⟨g, (i + 1) * 3, none⟩) lb cb]).run Tryz.prog W = .ok (.value (.bool false)) W := fun W h1 h2 lb cb => by
    have hxW : Lies W vb #[.string x.key, .string x.val, .bool x.gone] chgT := hx.same h1
    have hgW : W.heap[g]? = some (.cells cur chgT (0, 0)) := h2.trans hg
    have hs1 : W.shape? vb = some (chgT, 3) := by
      have : W.heap[vb]? = _ := hxW
      simp [World.shape?, this]
    have hs2 : W.shape? g = some (chgT, cap * 3) := by simp [World.shape?, hgW, hsz]
    rw [run_callFunc_extern Tryz.func134 (by kernel_rfl) (by kernel_rfl) (by kernel_rfl) (e := Extern.SlicesOverlaps.overlaps #[chsT, chsT] #[4]) (by kernel_rfl),
      Lib.run_overlaps_apart W chsT 4 chgT Tryz.underlying103 3 (fun _ => by kernel_rfl) ⟨vb, 0, none⟩ ⟨g, (i + 1) * 3, none⟩ 1 1 lb cb hne chgT chgT 3 (cap * 3) hs1 hs2 (by omega) (hxW.free 0) (hxW.free 3)]
    rfl
  have hcpA : ∀ (W : World), W.heap[g]? = w.heap[g]? → ∀ ty dc sc, (Builtin.copy_ #[chsT, chsT] ty #[.slice (some ⟨g, (i + 1) * 3, none⟩) (n + 1 - (i + 1)) dc, .slice (some ⟨g, i * 3, none⟩) (n + 1 - i) sc]).run Tryz.prog W = .ok (goInt ((n - i : Nat) : Int)) (W.setRow g ROW1) := fun W h2 ty dc sc => by
    rw [hROW1]
    exact run_copy3 W chsT chsT ty Tryz.underlying103 g ((i + 1) * 3) (n + 1 - (i + 1)) dc ⟨g, i * 3, none⟩ (n + 1 - i) sc cur chgT (C.drop (i * 3)) (n - i) (by simp only [Nat.min_def]; split <;> omega) hdl (h2.trans hg)
      (fun j v hj => by rw [addr_add, World.cell?_of_block (a := ⟨g, i * 3 + j, none⟩) h2]; exact hcell _ v (by rwa [List.getElem?_drop] at hj)) (by rw [hdl]; omega) (fun u hu => h1C u (List.mem_of_mem_drop hu))
  have hcpB : ∀ (W : World), W.heap[g]? = some (.cells ROW1 chgT (0, 0)) → W.heap[vb]? = w.heap[vb]? → ∀ ty dc, (Builtin.copy_ #[chsT, chsT] ty #[.slice (some ⟨g, i * 3, none⟩) (n + 1 - i) dc, .slice (some ⟨vb, 0, none⟩) 1 1]).run Tryz.prog W = .ok (goInt 1) (W.setRow g ROW2) := fun W h1 h2 ty dc => by
    rw [hROW2]
    exact run_copy3 W chsT chsT ty Tryz.underlying103 g (i * 3) (n + 1 - i) dc ⟨vb, 0, none⟩ 1 1 ROW1 chgT (chC x) 1 (by simp only [Nat.min_def]; split <;> omega) rfl h1
      (fun j v hj => by rw [addr_add, World.cell?_of_block (a := ⟨vb, 0 + j, none⟩) h2]; exact hxr j v hj) (by rw [chC_length]; omega) (one_cell x)
  have hfin := row_behind cur.toList (C.take (i * 3)) (chC x) (C.drop (i * 3)) (i * 3) ((i + 1) * 3) ((n + 1) * 3) (by rw [List.length_take]; omega) (by rw [chC_length]; omega) (by rw [hdl]; omega) hRt (by simp; omega)
  rw [chC_length] at hROW2
  rw [hdl] at hROW1
  have e3 : i * 3 + 3 = (i + 1) * 3 := by omega
  have e4 : (i + 1) * 3 + (n - i) * 3 = (n + 1) * 3 := by omega
  rw [e3] at hROW2
  rw [e4] at hROW1
  have hF : Hid (ROW2.toList.take ((n + 1) * 3) = (insC q i x).flatMap chC ∧ ROW2.size = cap * 3) := by
    refine Lib.hid ?_
    rw [hfl, hROW2, hROW1]
    refine ⟨hfin.1, ?_⟩
    have := hfin.2
    simp only [List.size_toArray]
    rw [this]
    simpa using hsz
  have HN := Lib.hid hn
  have HQ := Lib.hid hqn
  have HOV := Lib.hid hov
  have HCA := Lib.hid hcpA
  have HCB := Lib.hid hcpB
  have HG := Lib.hid hg
  have hz2 : ¬ ((i : Int) = (n : Int)) := by omega
  have hz3 : ¬ ((cap : Int) < (n : Int) + 1) := by omega
  have hin : i ≤ n := by omega
  have hci : ¬ (cap = i) := by omega
  have hcj : ¬ (cap = i + 1) := by omega
  have hb3 : (i : Int) ≤ (n : Int) + 1 := by omega
  have hw1 : IntKind.i64.wrap ((i : Int) + 1) = (i : Int) + 1 := by rw [IntKind.wrap_i64]; omega
  have hb1 : (0 : Int) ≤ (i : Int) + 1 := by omega
  have hb2 : (i : Int) + 1 ≤ (n : Int) + 1 := by omega
  have htn : ((i : Int) + 1).toNat = i + 1 := by omega
  have HB1 : Hid ((w.drew.setRow g ROW1).heap[g]? = some (.cells ROW1 chgT (0, 0))) := setRow_heap w.drew g cur _ chgT _ hg
  have HB2 : Hid ((w.drew.setRow g ROW1).heap[vb]? = w.heap[vb]?) := setRow_other w.drew g vb _ hne
  clear hcpA hcpB hfin hROW1 hROW2 hRt hR1 hdl e3 e4 hn hqn hfl hC h1C hcur hcell hql hx hxr hov hg hsz
  go_enter Tryz.func107, Tryz.ntmps107
  have hov2 := HOV.out w rfl rfl
  go_wp2_with (simp only [hov2])
  clear hov2
  go_region_law (refine step_copy_runI rfl _ _ chsT chsT rfl _ _ (by simp [Act.eval, Act.put]) (by simp [Act.eval, Act.put]) (HCA.out w.drew rfl 3 (cap - (i + 1)) (cap - i)) ?_)
  go_wp2_with (refine wpList_copy_runI _ rfl _ _ chsT chsT rfl _ _ rfl rfl (HCB.out _ HB1.out HB2.out _ _) ?_)
  go_ret
  have hf := hF.out
  have hL : ((w.drew.setRow g ROW1).setRow g ROW2).heap[g]? = some (.cells ROW2 chgT (0, 0)) := setRow_heap _ _ _ _ _ _ HB1.out
  refine ⟨.slice (some ⟨g, 0, none⟩) (n + 1) cap, rfl, ⟨flat_length _, .inr ⟨g, cap, ROW2, by rw [HN.out], hBg, hL, by rw [HN.out]; exact hroom, hcm, hf.2, by rw [HN.out]; exact hf.1⟩⟩, ⟨rfl, rfl, rfl, by simp, fun k _ hk => ?_⟩, fun k hk => .inl hk⟩
  have hkg : k ≠ g := fun e => hk (by rw [e]; rfl)
  exact (setRow_other _ _ _ _ hkg).trans (setRow_other _ _ _ _ hkg)

/-- slices.Insert: one change at a place. -/
theorem insert_any (w : World) (B : Nat) (v : Value) (q : List Chg) (i : Nat) (x : Chg) (vb : Nat) (ho : w.ownsRow B chgT 3 v q.length (q.flatMap chC)) (hi : i ≤ q.length) (hl : q.length ≤ 100000) (hB : B ≤ w.heap.size)
    (hx : Lies w vb #[.string x.key, .string x.val, .bool x.gone] chgT) (hne : ∀ k, v.ownBlock = some k → k ≠ vb) :
    Calls Tryz.prog 107 #[v, .int .i64 i, .slice (some ⟨vb, 0, none⟩) 1 1] w (Inserted w B v (insC q i x)) := by
  have hxr : w.rangeAt vb 0 (chC x) := fun j u hu => by rw [hx.cell]; simpa [chC] using hu
  by_cases he : i = q.length
  · subst he
    have e : insC q q.length x = q ++ [x] := by unfold insC; simp
    rw [e]
    exact insert_end w B v q x vb ho hl hB hxr
  · rcases ho.2 with ⟨rfl, h0⟩ | ⟨g, cap, cur, rfl, h1, h2, h3, h4, h5, h6⟩
    · omega
    · unfold maxLen at h4
      by_cases hr : q.length + 1 ≤ cap
      · exact insert_room w B g cap cur q i x vb h1 h2 h4 h5 h6 (by omega) hl hx (fun e => hne g rfl e.symm) hr
      · exact insert_grow w B g cap cur q i x vb h1 h2 h3 h4 h6 (by omega) hl hB hxr hx.lt (by omega)
end Go.Proofs.YtghpohiinnallaaGreatDoor.Batch

/-
  Walks of the program's batch: record, Put, Del.
-/
namespace Go.Proofs.YtghpohiinnallaaGreatDoor.Batch
open Go Go.RowKit
open Go.Proofs.YtghpohiinnallaaGreatDoor.Sha (wp_region_drawn_tail)

theorem flat_set : ∀ (q : List Chg) (p : Nat) (x : Chg), p < q.length → (((q.flatMap chC).set (p * 3) (.string x.key)).set (p * 3 + 1) (.string x.val)).set (p * 3 + 2) (.bool x.gone) = (q.set p x).flatMap chC
  | [], p, _, h => by simp at h
  | y :: q, 0, x, _ => by simp [chC]
  | y :: q, p + 1, x, h => by
    have ih := flat_set q p x (by simpa using h)
    have e : (p + 1) * 3 = p * 3 + 3 := by omega
    rw [List.set_cons_succ, List.flatMap_cons, List.flatMap_cons, ← ih, e]
    simp [chC]
section
variable {w : World} {d : Bt} {q : List Chg}
/-- The cells of the change at a place. -/
theorem Mem.at (h : Mem w d q) {p : Nat} {y : Chg} (hp : q[p]? = some y) : ∃ g c, d.cv = .slice (some ⟨g, 0, none⟩) q.length c ∧ w.rangeAt g (p * 3) (chC y) ∧ ∀ j, w.frozen? ⟨g, j, none⟩ = false := by
  have hl : p < q.length := (List.getElem?_eq_some_iff.1 hp).1
  have hc := fun g hg => h.owns.cells (g := g) hg
  rcases h.owns.2 with ⟨_, h0⟩ | ⟨g, c, cur, e, _, hg, _⟩
  · omega
  · refine ⟨g, c, e, fun j v hv => ?_, fun j => frozen_of_row w g j cur chgT hg⟩
    have hj : j < 3 := by
      have := (List.getElem?_eq_some_iff.1 hv).1
      rw [chC_length] at this
      exact this
    have e1 := hc g (by rw [e]; rfl) (p * 3 + j) v (by rw [flat_get q p y hp j hj]; exact hv)
    rw [addr_add, Nat.zero_add] at e1
    exact e1
/-- One change turned in its place. -/
theorem Mem.setAt (h : Mem w d q) {p g c : Nat} (hp : p < q.length) (hv : d.cv = .slice (some ⟨g, 0, none⟩) q.length c) (x : Chg) :
    Mem (((w.setCell ⟨g, p * 3, none⟩ (.string x.key)).setCell ⟨g, p * 3 + 1, none⟩ (.string x.val)).setCell ⟨g, p * 3 + 2, none⟩ (.bool x.gone)) d (q.set p x) := by
  have ho : d.cv.ownBlock = some g := by rw [hv]; rfl
  have hne := h.ne g ho
  have h1 := owns_set (owns_set (owns_set h.owns ho (p * 3) (.string x.key) (by omega)) ho (p * 3 + 1) (.string x.val) (by omega)) ho (p * 3 + 2) (.bool x.gone) (by omega)
  rw [flat_set q p x hp] at h1
  exact ⟨((h.self.other _ (fun e => hne e.symm)).other _ (fun e => hne e.symm)).other _ (fun e => hne e.symm), by rw [List.length_set]; exact h1, h.ne, h.low⟩
theorem Step.setAt {w1 : World} {p g c n : Nat} (h : Below w.heap.size w w1) (hv : d.cv = .slice (some ⟨g, 0, none⟩) n c) (x y z : Value) :
    Step w d (((w1.setCell ⟨g, p * 3, none⟩ x).setCell ⟨g, p * 3 + 1, none⟩ y).setCell ⟨g, p * 3 + 2, none⟩ z) d := by
  have ho : Batch.own d g := .inr (by rw [hv]; rfl)
  exact ⟨(((Fr.of_below (F := Batch.own d) h).setCell (fun _ => ho) x).setCell (fun _ => ho) y).setCell (fun _ => ho) z, rfl, rfl, fun _ hk => .inl hk⟩
end

/-- What a change leaves. -/
def Recorded (w : World) (d : Bt) (q : List Chg) (c : Chg) (e : Ending) (w' : World) : Prop :=
  ∃ d', e = .returned (.int .i64 (code q c : Nat)) ∧ Mem w' d' (made q c) ∧ Step w d w' d'
section
variable {w : World} {d : Bt} {q : List Chg}
set_option maxHeartbeats 2000000 in
theorem record_bad (h : Mem w d q) (c : Chg) (hk : c.key.size ≤ 9223372036854775807) (hv : c.val.size ≤ 9223372036854775807) (hc : chk c ≠ 0) :
    Calls Tryz.prog 67 #[ptr d.pb, chV c] w (Recorded w d q c) := by
  have e1 : code q c = chk c := by unfold code; rw [if_pos hc]
  have e2 : made q c = q := by unfold made; rw [e1, if_neg hc]
  have hle := chk_le c
  have HM := Lib.hid h
  have HE := Lib.hid (And.intro e1 e2)
  have HK := Lib.hid (fun W => check_any c W hk hv (chk c) rfl)
  have hne : (((chk c : Nat) : Int) != 0) = true := by simpa using hc
  clear e1 e2 h hk hv hc
  have hA : Below w.heap.size w (w.alloc (boxC chgT c)) := (Below.refl _ _).alloc (Nat.le_refl _) _
  have HA := Lib.hid hA
  clear hA
  go_enter Tryz.func67, Tryz.ntmps67
  go_wp2_with fail
  refine (HK.out _).mono ?_
  rintro e w1 ⟨rfl, hb1⟩
  have HB := Lib.hid (HA.out.trans (hb1.mono HA.out.size))
  clear hb1
  go_wp2_with fail
  go_ret
  exact ⟨d, by rw [HE.out.1]; rfl, by rw [HE.out.2]; exact HM.out.below HB.out, Step.of_below d HB.out⟩
set_option maxHeartbeats 4000000 in
theorem record_old (h : Mem w d q) (hg : Good q) (c : Chg) (hc : chk c = 0) (y : Chg) (hat : at? Chg.key c.key q = some y) :
    Calls Tryz.prog 67 #[ptr d.pb, chV c] w (Recorded w d q c) := by
  have hz := fits_size hc
  have e1 : code q c = 0 := by unfold code; rw [hc, if_neg (by simp), if_neg (by rw [hat]; simp)]
  have e2 : made q c = q.set (lo Chg.key c.key q) c := by unfold made; rw [e1, if_pos rfl, put_old Chg.key c hg.rise hat]
  obtain ⟨hlt, hpl⟩ := at_there Chg.key hg.rise hat
  have HF := Lib.hid (fun (W : World) (hW : Below w.heap.size w W) => find_any (h.below hW) hg.rise (by have := hg.few; omega) c.key)
  have HK := Lib.hid (fun W => check_any c W (by omega) (by omega) 0 hc)
  have HM := Lib.hid h
  have HE := Lib.hid (And.intro e1 e2)
  have HP := Lib.hid hpl
  rw [hat] at HF
  have hA : Below w.heap.size w (w.alloc (boxC chgT c)) := (Below.refl _ _).alloc (Nat.le_refl _) _
  have HA := Lib.hid hA
  have hfew := hg.few
  generalize lo Chg.key c.key q = p at *
  clear hA e1 e2 h hg hat hpl hc
  go_enter Tryz.func67, Tryz.ntmps67
  go_wp2_with fail
  refine (HK.out _).mono ?_
  rintro e w1 ⟨rfl, hb1⟩
  have hb : Below (w.alloc (boxC chgT c)).heap.size (w.alloc (boxC chgT c)) w1 := hb1
  have HB1 := Lib.hid (HA.out.trans (hb.mono HA.out.size))
  have HL1 : Hid (Lies w1 w.heap.size #[.string c.key, .string c.val, .bool c.gone] chgT) := (hb.block _ (by simp)).trans (heap_alloc_new w _)
  clear hb1 hb
  obtain ⟨x0, x1, x2, _, _, _⟩ := lies3 HL1.out
  go_wp2_with fail
  refine (HF.out _ HB1.out).mono ?_
  rintro e w2 ⟨rfl, hb2⟩
  clear x0 x1 x2
  have HB2 := Lib.hid (HB1.out.trans (hb2.mono HB1.out.size))
  have HL2 : Hid (Lies w2 w.heap.size #[.string c.key, .string c.val, .bool c.gone] chgT) := HL1.out.same (hb2.block _ HL1.out.lt)
  clear hb2
  obtain ⟨x0, x1, x2, _, _, _⟩ := lies3 HL2.out
  have HM2 := Lib.hid (HM.out.below HB2.out)
  have hcv := HM2.out.cell
  obtain ⟨g, cp, ev, hr, hfz⟩ := HM2.out.at HP.out
  have HEV := Lib.hid ev
  rw [ev] at hcv
  obtain ⟨y0, y1, y2⟩ := three hr
  have f0 := hfz (p * 3)
  have f1 := hfz (p * 3 + 1)
  have f2 := hfz (p * 3 + 2)
  clear hr hfz ev
  go_wp2_with fail
  refine wp_region_drawn_tail 7 (by kernel_rfl) (by kernel_rfl) ?_
  simp only [List.take_succ_cons, List.take_zero, List.drop_succ_cons, List.drop_zero]
  repeat (go_big_quiet_step (fail))
  refine wpQuiet_nil ?_
  rintro _ ⟨nq, rfl⟩
  go_wp2
  go_ret
  have hm3 : Mem (w2.drewN nq) d q := HM2.out.below (below_drewN (Below.refl _ _) nq)
  refine ⟨d, by rw [HE.out.1]; rfl, by rw [HE.out.2]; exact hm3.setAt hlt HEV.out c, Step.setAt (below_drewN HB2.out nq) HEV.out _ _ _⟩
set_option maxHeartbeats 4000000 in
theorem record_full (h : Mem w d q) (hg : Good q) (c : Chg) (hc : chk c = 0) (hat : at? Chg.key c.key q = none) (hful : 2000 ≤ q.length) :
    Calls Tryz.prog 67 #[ptr d.pb, chV c] w (Recorded w d q c) := by
  have hz := fits_size hc
  have e1 : code q c = 8 := by unfold code; rw [hc, if_neg (by simp), if_pos ⟨hat, hful⟩]
  have e2 : made q c = q := by unfold made; rw [e1, if_neg (by simp)]
  have HF := Lib.hid (fun (W : World) (hW : Below w.heap.size w W) => find_any (h.below hW) hg.rise (by have := hg.few; omega) c.key)
  have HK := Lib.hid (fun W => check_any c W (by omega) (by omega) 0 hc)
  have HM := Lib.hid h
  have HE := Lib.hid (And.intro e1 e2)
  rw [hat] at HF
  have hA : Below w.heap.size w (w.alloc (boxC chgT c)) := (Below.refl _ _).alloc (Nat.le_refl _) _
  have HA := Lib.hid hA
  have hfew := hg.few
  generalize lo Chg.key c.key q = p at *
  have hd1 : decide ((2000 : Int) ≤ (q.length : Int)) = true := decide_eq_true (by omega)
  have hd2 : decide (2000 ≤ q.length) = true := decide_eq_true hful
  have hd3 : (2000 : Int) ≤ (q.length : Int) := by omega
  clear hA e1 e2 h hg hat hc hz
  go_enter Tryz.func67, Tryz.ntmps67
  go_wp2_with fail
  refine (HK.out _).mono ?_
  rintro e w1 ⟨rfl, hb1⟩
  have hb : Below (w.alloc (boxC chgT c)).heap.size (w.alloc (boxC chgT c)) w1 := hb1
  have HB1 := Lib.hid (HA.out.trans (hb.mono HA.out.size))
  have HL1 : Hid (Lies w1 w.heap.size #[.string c.key, .string c.val, .bool c.gone] chgT) := (hb.block _ (by simp)).trans (heap_alloc_new w _)
  clear hb1 hb
  obtain ⟨x0, x1, x2, _, _, _⟩ := lies3 HL1.out
  go_wp2_with fail
  refine (HF.out _ HB1.out).mono ?_
  rintro e w2 ⟨rfl, hb2⟩
  clear x0 x1 x2
  have HB2 := Lib.hid (HB1.out.trans (hb2.mono HB1.out.size))
  clear hb2
  have HM2 := Lib.hid (HM.out.below HB2.out)
  have hcv := HM2.out.cell
  obtain ⟨a, cp, ev⟩ := owns_slice HM2.out.owns
  rw [ev] at hcv
  clear ev
  go_wp2_with fail
  go_ret
  exact ⟨d, by rw [HE.out.1]; rfl, by rw [HE.out.2]; exact HM2.out, Step.of_below d HB2.out⟩
theorem new_step {a : Option Addr} {cp : Nat} {q' : List Chg} {w3 w4 : World} {v4 : Value} (h3 : Mem w3 d q) (hb3 : Below w.heap.size w w3) (hv : d.cv = .slice a q.length cp) (ho4 : w4.ownsRow d.B chgT 3 v4 q'.length (q'.flatMap chC))
    (hf4 : Fr (fun k => (Value.slice a q.length cp).ownBlock = some k) w3 w4) (hn4 : ∀ k, v4.ownBlock = some k → (Value.slice a q.length cp).ownBlock = some k ∨ w3.heap.size ≤ k) :
    w4.cell? ⟨d.pb, 0, none⟩ = some (.slice a q.length cp) ∧ w4.frozen? ⟨d.pb, 0, none⟩ = false ∧ Mem (w4.setCell ⟨d.pb, 0, none⟩ v4) { d with cv := v4 } q' ∧ Step w d (w4.setCell ⟨d.pb, 0, none⟩ v4) { d with cv := v4 } := by
  have hne : ∀ k, (Value.slice a q.length cp).ownBlock = some k → k ≠ d.pb := fun k hk => h3.ne k (by rw [hv]; exact hk)
  have hL4 : Lies w4 d.pb #[d.cv] batT := h3.self.same (hf4.block _ h3.self.lt fun e => hne _ e rfl)
  have hown : ∀ k, v4.ownBlock = some k → k ≠ d.pb := fun k hk => by
    rcases hn4 k hk with h | h
    · exact hne k h
    · have := h3.self.lt
      omega
  refine ⟨by rw [← hv]; exact hL4.cell 0, hL4.free 0, ⟨hL4.set 0 _, Fr.owns (F := fun k => k = d.pb) ho4 (Fr.one w4 _ _ _) fun k hk e => hown k hk e, hown, h3.low⟩, ⟨?_, rfl, rfl, fun k hk => ?_⟩⟩
  · refine ((Fr.of_below (F := own d) hb3).trans hf4 fun k _ hk => ?_).setCell (fun _ => .inl rfl) _
    exact .inr (by rw [hv]; exact hk)
  · rcases hn4 k hk with h | h
    · exact .inl (by rw [hv]; exact h)
    · exact .inr (Nat.le_trans hb3.size h)
set_option maxHeartbeats 4000000 in
set_option maxRecDepth 100000 in
theorem record_new (h : Mem w d q) (hg : Good q) (c : Chg) (hc : chk c = 0) (hat : at? Chg.key c.key q = none) (hful : q.length < 2000) :
    Calls Tryz.prog 67 #[ptr d.pb, chV c] w (Recorded w d q c) := by
  have hz := fits_size hc
  have e1 : code q c = 0 := by unfold code; rw [hc, if_neg (by simp), if_neg (by omega)]
  have e2 : made q c = insC q (lo Chg.key c.key q) c := by unfold made insC; rw [e1, if_pos rfl, put_new Chg.key c hg.rise hat]
  have hlo := lo_le Chg.key c.key q
  have HF := Lib.hid (fun (W : World) (hW : Below w.heap.size w W) => find_any (h.below hW) hg.rise (by have := hg.few; omega) c.key)
  have HK := Lib.hid (fun W => check_any c W (by omega) (by omega) 0 hc)
  have HM := Lib.hid h
  have HE := Lib.hid (And.intro e1 e2)
  rw [hat] at HF
  have hA : Below w.heap.size w (w.alloc (boxC chgT c)) := (Below.refl _ _).alloc (Nat.le_refl _) _
  have HA := Lib.hid hA
  generalize lo Chg.key c.key q = p at *
  have hd1 : decide ((2000 : Int) ≤ (q.length : Int)) = false := decide_eq_false (by omega)
  have hd2 : decide (2000 ≤ q.length) = false := decide_eq_false (by omega)
  have hd3 : (q.length : Int) < 2000 := by omega
  clear hA e1 e2 h hg hat hc hz
  go_enter Tryz.func67, Tryz.ntmps67
  go_wp2_with fail
  refine (HK.out _).mono ?_
  rintro e w1 ⟨rfl, hb1⟩
  have hb : Below (w.alloc (boxC chgT c)).heap.size (w.alloc (boxC chgT c)) w1 := hb1
  have HB1 := Lib.hid (HA.out.trans (hb.mono HA.out.size))
  have HL1 : Hid (Lies w1 w.heap.size #[.string c.key, .string c.val, .bool c.gone] chgT) := (hb.block _ (by simp)).trans (heap_alloc_new w _)
  clear hb1 hb
  obtain ⟨x0, x1, x2, _, _, _⟩ := lies3 HL1.out
  go_wp2_with fail
  refine (HF.out _ HB1.out).mono ?_
  rintro e w2 ⟨rfl, hb2⟩
  clear x0 x1 x2
  have HB2 := Lib.hid (HB1.out.trans (hb2.mono HB1.out.size))
  have HL2 : Hid (Lies w2 w.heap.size #[.string c.key, .string c.val, .bool c.gone] chgT) := HL1.out.same (hb2.block _ HL1.out.lt)
  clear hb2
  obtain ⟨x0, x1, x2, _, _, _⟩ := lies3 HL2.out
  have HM2 := Lib.hid (HM.out.below HB2.out)
  have hcv := HM2.out.cell
  obtain ⟨a, cp, ev⟩ := owns_slice HM2.out.owns
  have HEV := Lib.hid ev
  rw [ev] at hcv
  clear ev
  go_wp2_with fail
  have hm3 : Mem w2.drew d q := HM2.out.drew
  have HI := Lib.hid (insert_any ((w2.alloc (boxC chgT c)).drew) d.B (.slice a q.length cp) q p c w2.heap.size (by rw [← HEV.out]; exact (HM2.out.alloc (boxC chgT c)).drew.owns) hlo (by omega)
    (by have := (HM2.out.alloc (boxC chgT c)).low; have := (HM2.out.alloc (boxC chgT c)).self.lt; show d.B ≤ (w2.alloc (boxC chgT c)).heap.size; omega) (Lies.new w2 _ _) (fun k hk => by have := (HM2.out.owns.lt k (by rw [HEV.out]; exact hk)).2; omega))
  have HB3 : Hid (Below w.heap.size w ((w2.alloc (boxC chgT c)).drew)) := (HB2.out.alloc (HB2.out.size) _).drew
  have HM3 : Hid (Mem ((w2.alloc (boxC chgT c)).drew) d q) := (HM2.out.alloc (boxC chgT c)).drew
  have HS := Lib.hid (fun (w4 : World) (v4 : Value) (ho4 : w4.ownsRow d.B chgT 3 v4 (insC q p c).length ((insC q p c).flatMap chC)) (hf4 : Fr (fun k => (Value.slice a q.length cp).ownBlock = some k) ((w2.alloc (boxC chgT c)).drew) w4)
      (hn4 : ∀ k, v4.ownBlock = some k → (Value.slice a q.length cp).ownBlock = some k ∨ ((w2.alloc (boxC chgT c)).drew).heap.size ≤ k) => new_step HM3.out HB3.out HEV.out ho4 hf4 hn4)
  clear x0 x1 x2 hm3
  obtain ⟨x0, x1, x2, _, _, _⟩ := lies3 HL2.out
  have hpl := HM2.out.self.lt
  have hpl2 : d.pb ≠ w2.heap.size := by omega
  go_region_with ((go_at_call 107; refine HI.out.mono ?_; rintro e w4 ⟨v4, rfl, ho4, hf4, hn4⟩; obtain ⟨a4, c4, rfl⟩ := owns_slice ho4; obtain ⟨hc4, hz4, hD⟩ := HS.out w4 _ ho4 hf4 hn4; have HD := Lib.hid hD; clear ho4 hf4 hn4 hD))
  all_goals
    go_wp2_with fail
    go_ret
    exact ⟨_, by rw [HE.out.1]; rfl, by rw [HE.out.2]; exact HD.out.1, HD.out.2⟩
theorem record_any (h : Mem w d q) (hg : Good q) (c : Chg) (hk : c.key.size ≤ 9223372036854775807) (hv : c.val.size ≤ 9223372036854775807) :
    Calls Tryz.prog 67 #[ptr d.pb, chV c] w (Recorded w d q c) := by
  by_cases hc : chk c = 0
  · cases hat : at? Chg.key c.key q with
    | none =>
      rcases Nat.lt_or_ge q.length 2000 with hf | hf
      · exact record_new h hg c hc hat hf
      · exact record_full h hg c hc hat hf
    | some y => exact record_old h hg c hc y hat
  · exact record_bad h c hk hv hc
theorem put_any (h : Mem w d q) (hg : Good q) (k v : ByteArray) (hk : k.size ≤ 9223372036854775807) (hv : v.size ≤ 9223372036854775807) :
    Calls Tryz.prog 38 #[ptr d.pb, .string k, .string v] w (Recorded w d q ⟨k, v, false⟩) := by
  have HR := Lib.hid (record_any h hg ⟨k, v, false⟩ hk hv)
  clear h hg
  go_enter Tryz.func38, Tryz.ntmps38
  go_wp2_with fail
  refine HR.out.mono ?_
  rintro e w1 ⟨d', rfl, hm, hs⟩
  have HH := Lib.hid (And.intro hm hs)
  clear hm hs
  go_wp2_with fail
  go_ret
  exact ⟨d', rfl, HH.out.1, HH.out.2⟩
theorem del_any (h : Mem w d q) (hg : Good q) (k : ByteArray) (hk : k.size ≤ 9223372036854775807) :
    Calls Tryz.prog 59 #[ptr d.pb, .string k] w (Recorded w d q ⟨k, ⟨#[]⟩, true⟩) := by
  have HR := Lib.hid (record_any h hg ⟨k, ⟨#[]⟩, true⟩ hk (Nat.zero_le _))
  clear h hg
  go_enter Tryz.func59, Tryz.ntmps59
  go_wp2_with fail
  refine HR.out.mono ?_
  rintro e w1 ⟨d', rfl, hm, hs⟩
  have HH := Lib.hid (And.intro hm hs)
  clear hm hs
  go_wp2_with fail
  go_ret
  exact ⟨d', rfl, HH.out.1, HH.out.2⟩
end
end Go.Proofs.YtghpohiinnallaaGreatDoor.Batch

/-
  The iterator of a batch: Clone, All, and the contract of what All hands back: each change of the list, in order; or the first ones, where a round has said that there are enough.
-/
namespace Go.Proofs.YtghpohiinnallaaGreatDoor.Batch
open Go Go.RowKit Go.Shelf

attribute [local go_sem] Oper.semAt_some

/-- A list of changes copied behind an empty one. -/
theorem append_made (w : World) (g cap : Nat) (q : List Chg) (hc : ∀ j v, (q.flatMap chC)[j]? = some v → w.cell? ⟨g, j, none⟩ = some v) (hg : g < w.heap.size) (hl : q.length ≤ 100000) :
    ∃ v' w', (Builtin.append_ #[chsT, chsT] chsT #[.slice (some ⟨w.heap.size, 0, none⟩) 0 0, .slice (some ⟨g, 0, none⟩) q.length cap]).run Tryz.prog (w.alloc (.cells #[] chgT)) = .ok v' w' ∧ Hid (w'.ownsRow w.heap.size chgT 3 v' q.length (q.flatMap chC) ∧ Below w.heap.size w w') := by
  have h0 : (w.alloc (.cells #[] chgT)).ownsRow w.heap.size chgT 3 (.slice (some ⟨w.heap.size, 0, none⟩) 0 0) 0 [] := by
    refine ⟨by simp, .inr ⟨w.heap.size, 0, #[], rfl, Nat.le_refl _, heap_alloc_new _ _, Nat.le_refl _, by decide, by simp, by simp⟩⟩
  have hb : Below w.heap.size w (w.alloc (.cells #[] chgT)) := (Below.refl _ _).alloc (Nat.le_refl _) _
  have hs : w.heap.size ≤ (w.alloc (.cells #[] chgT)).heap.size := by simp
  obtain ⟨i0, hi, hz0, hz1, hz2⟩ := info_parts infoC
  obtain ⟨v', w', hr, h2, h3, _⟩ := run_append_own (P := Tryz.prog) (w.alloc (.cells #[] chgT)) w.heap.size chsT chsT chgT i0 _ 3 40 Tryz.underlying103 hi hz0 hz1 hz2 rfl (by decide) _ 0 [] h0 ⟨g, 0, none⟩ q.length cap (q.flatMap chC) (flat_length q) (fun j x hx => by
      rw [addr_add, Nat.zero_add, hb.cell (p := ⟨g, j, none⟩) hg]
      exact hc j x hx) (flat_one q) (by unfold maxLen; omega) (by omega) hs
  exact ⟨v', w', hr, Lib.hid ⟨by simpa using h2, hb.grown h3 hs (fun k hk => (h0.lt k hk).1)⟩⟩
theorem eq_nil (w : World) (a : Option Addr) (n c : Nat) : (binOp .eql chsT (.slice a n c) (.slice none 0 0)).run Tryz.prog w = .ok (.bool a.isNone) w := by
  simp only [binOp]
  simp [Op.equal, Op.maxDepth, Lib.run_equalIn_slice_nil w 9999 chsT chgT a n c 0 0 Tryz.underlying103]
set_option maxRecDepth 100000 in
set_option maxHeartbeats 1000000 in
theorem clone_any (w : World) (B : Nat) (v : Value) (q : List Chg) (ho : w.ownsRow B chgT 3 v q.length (q.flatMap chC)) (hl : q.length ≤ 100000) :
    Calls Tryz.prog 95 #[v] w fun e w' => ∃ v', e = .returned v' ∧ w'.ownsRow w.heap.size chgT 3 v' q.length (q.flatMap chC) ∧ Below w.heap.size w w' := by
  have hcs := fun g hg => ho.cells (g := g) hg
  rcases ho.2 with ⟨rfl, h0⟩ | ⟨g, cap, cur, rfl, _, hg, _⟩
  · obtain rfl : q = [] := List.length_eq_zero_iff.1 h0
    clear ho hcs hl
    have hq := fun W => eq_nil W none 0 0
    go_enter Tryz.func95, Tryz.ntmps95
    go_wp2_with fail
    go_ret
    exact ⟨_, rfl, World.ownsRow_nil _ _ _ _, Below.refl _ _⟩
  · obtain ⟨v', w', hr, hh⟩ := append_made w g cap q (fun j x hx => by have := hcs g rfl j x hx; rwa [addr_add, Nat.zero_add] at this) (Array.getElem?_eq_some_iff.1 hg).1 hl
    have HR := Lib.hid hr
    clear hr ho hcs hg hl
    have hq := fun W => eq_nil W (some ⟨g, 0, none⟩) q.length cap
    go_enter Tryz.func95, Tryz.ntmps95
    go_wp2_with (at_builtin; refine Lib.wpList_append_run _ rfl _ _ _ _ rfl _ _ rfl rfl _ _ HR.out ?_)
    go_ret
    exact ⟨_, rfl, hh.out.1, hh.out.2⟩

/-- What All hands back: the closure over a box of a copy. -/
def AllPost (w : World) (q : List Chg) (e : Ending) (w' : World) : Prop :=
  ∃ v b, e = .returned (.func (.func 96) #[] #[.pointer (some ⟨b, 0, none⟩)]) ∧ w'.cell? ⟨b, 0, none⟩ = some v ∧ b < w'.heap.size ∧ w'.ownsRow w.heap.size chgT 3 v q.length (q.flatMap chC) ∧ Below w.heap.size w w'
theorem all_any {w : World} {d : Bt} {q : List Chg} (h : Mem w d q) (hl : q.length ≤ 100000) : Calls Tryz.prog 61 #[ptr d.pb] w (AllPost w q) := by
  have hc := h.cell
  have HC := Lib.hid (clone_any w d.B d.cv q h.owns hl)
  clear h hl
  go_enter Tryz.func61, Tryz.ntmps61
  go_wp2_with fail
  refine HC.out.mono ?_
  rintro e w1 ⟨v1, rfl, ho, hb⟩
  obtain ⟨a, c, rfl⟩ := owns_slice ho
  have HO := Lib.hid (And.intro ho hb)
  clear ho hb
  go_wp2_with fail
  go_ret
  refine ⟨_, w1.heap.size, rfl, (Lies.new w1 _ _).cell 0, by simp, HO.out.1.alloc _, HO.out.2.alloc HO.out.2.size _⟩

/-- What a round keeps: the row that is gone through. -/
def Still (kb : Option Nat) (W W' : World) : Prop := W.heap.size ≤ W'.heap.size ∧ ∀ k, kb = some k → k < W.heap.size → W'.heap[k]? = W.heap[k]?
theorem Still.refl (kb : Option Nat) (W : World) : Still kb W W := ⟨Nat.le_refl _, fun _ _ _ => rfl⟩
theorem Still.trans {kb : Option Nat} {A B C : World} (h : Still kb A B) (k : Still kb B C) : Still kb A C := ⟨Nat.le_trans h.1 k.1, fun j e hj => (k.2 j e (Nat.lt_of_lt_of_le hj h.1)).trans (h.2 j e hj)⟩
theorem Still.alloc {kb : Option Nat} {A B : World} (h : Still kb A B) (o : Obj) : Still kb A (B.alloc o) := ⟨by have := h.1; simp; omega, fun j e hj => (Below.heap_alloc _ _ _ (Nat.lt_of_lt_of_le hj h.1)).trans (h.2 j e hj)⟩
theorem Still.below {kb : Option Nat} {A B : World} (h : Below A.heap.size A B) : Still kb A B := ⟨h.size, fun j _ hj => h.block j hj⟩
theorem Still.frame {kb : Option Nat} {F : Nat → Prop} {A B : World} (h : Fr F A B) (hn : ∀ k, kb = some k → ¬ F k) : Still kb A B := ⟨h.size, fun j e hj => h.block j hj (hn j e)⟩
theorem still_b {kb : Option Nat} {w : World} (hk : ∀ k, kb = some k → k < w.heap.size) (W : World) (l : Nat) (o o' : Obj) (hl : w.heap.size ≤ l) (_h : W.heap[l]? = some o) (_ : o.isCells = false) (_ : o.isWalk = false) : Still kb W (W.putObj l o') :=
  ⟨by simp, fun k e _ => World.putObj_heap_other (by have := hk k e; omega)⟩
set_option maxRecDepth 100000 in
set_option maxHeartbeats 2000000 in
/-- The closure: for every loop body that keeps the row. -/
theorem all1_any {α : Type} (cv : α → Chg) (F : Fence) (n : Nat) (hF : F.fn 96) (hro : F.round = none) (hn : 1 ≤ n) (l bs : Nat) (v : Value) (q : List α) (hl : q.length ≤ 100000) (J Jx : List α → World → Prop) (W : World) (hJ : AbidesFrom W.heap.size J)
    (hY : ∀ pre x W1, J pre W1 → pre.length < q.length → YieldAt F (n - 1) Tryz.prog l #[chV (cv x)] W1 fun e W' =>
      (e = .returned (.bool true) ∧ J (pre ++ [x]) W' ∧ Still v.ownBlock W1 W') ∨ (e = .returned (.bool false) ∧ Jx (pre ++ [x]) W'))
    (hbs : W.cell? ⟨bs, 0, none⟩ = some v) (hr : ReadsC W v (q.map cv)) (h0 : J [] W) :
    CallsIn F n Tryz.prog 96 #[.func (.yield l) #[] #[], .pointer (some ⟨bs, 0, none⟩)] W fun e W' => (∃ v, e = .returned v) ∧
      ((∃ ys, ys = q ∧ J ys W') ∨ (∃ pre, pre <+: q ∧ Jx pre W')) := by
  rcases hr with ⟨a, cap, rfl, he⟩ | ⟨h1, b, off, cap, rfl, h3, h4⟩
  · obtain rfl : q = [] := List.map_eq_nil_iff.1 he
    refine callsIn_of_wp Tryz.func96 rfl hF ?_ hro
    simp only [Tryz.ntmps96, List.size_toArray, List.length_cons, List.length_nil, Nat.reduceAdd, Nat.reduceSub, Array.replicate_succ, Array.replicate_zero, List.push_toArray, List.append_toArray, List.nil_append, List.cons_append]
    gi_wp2
    gi_loopw [7] (fun i wr => i = .int .i64 0 ∧ J [] wr) (fun _ _ => 0)
    case atStart => exact ⟨rfl, h0⟩
    case round =>
      obtain ⟨rfl, hJs⟩ := hrel
      gi_wp2
      go_end0
      exact ⟨⟨_, rfl⟩, .inl ⟨_, rfl, hJs⟩⟩
  · have HC := Lib.hid (fun (wr : World) (hB : Still (some b) W wr) (k : Nat) (x : α) (hx : q[k]? = some x) => three (show wr.rangeAt b (off + k * 3) (chC (cv x)) from fun j u hu => (World.cell?_of_block (a := ⟨b, off + k * 3 + j, none⟩) (hB.2 b rfl h3)).trans (h4 k (cv x) (by rw [List.getElem?_map, hx]; rfl) j u hu)))
    rw [List.length_map] at h1 hbs
    clear h4
    refine callsIn_of_wp Tryz.func96 rfl hF ?_ hro
    simp only [Tryz.ntmps96, List.size_toArray, List.length_cons, List.length_nil, Nat.reduceAdd, Nat.reduceSub, Array.replicate_succ, Array.replicate_zero, List.push_toArray, List.append_toArray, List.nil_append, List.cons_append]
    gi_wp2
    gi_loopw [7] (fun i wr => ∃ k : Nat, k ≤ q.length ∧ i = .int .i64 k ∧ J (q.take k) wr ∧ Still (some b) W wr) (fun i _ => q.length - (intOf i).toNat)
    case atStart => exact ⟨0, Nat.zero_le _, rfl, h0, Still.refl _ _⟩
    case round =>
      obtain ⟨k, hk, rfl, hJs, hnx⟩ := hrel
      by_cases hlt : k < q.length
      · obtain ⟨x, hx⟩ : ∃ x, q[k]? = some x := ⟨q[k], List.getElem?_eq_getElem hlt⟩
        obtain ⟨c0, c1, c2⟩ := HC.out wr hnx k x hx
        have ht : q.take (k + 1) = q.take k ++ [x] := by rw [List.take_add_one, hx]; rfl
        have HT := Lib.hid ht
        clear ht hx
        have hJA : J (q.take k) (wr.alloc (boxC chgT (cv x))) := hJ _ wr _ none hJs (World.grownBy_alloc wr _ none) (fun r e => by cases e)
        have hls : (q.take k).length < q.length := by rw [List.length_take]; omega
        obtain ⟨fn, tmps, assign, body, hy, hR⟩ := hY _ x (wr.alloc (boxC chgT (cv x))) hJA hls
        clear hls
        gi_wp2
        refine hR.mono ?_
        rintro e W3 (⟨rfl, hJ3, hk3⟩ | ⟨rfl, hJx3⟩)
        · have hB3 := Lib.hid ((hnx.alloc (boxC chgT (cv x))).trans hk3)
          gi_wp2
          go_roundw
          case rel => exact ⟨k + 1, by omega, by simp, by rw [HT.out]; exact hJ3, hB3.out⟩
          case measure => simp [intOf]; omega
        · gi_wp2
          refine bodyPost_ret (results_none rfl _ _ _) rfl ?_
          exact ⟨⟨_, rfl⟩, .inr ⟨q.take k ++ [x], by rw [← HT.out]; exact List.take_prefix _ _, hJx3⟩⟩
      · obtain rfl : k = q.length := by omega
        rw [List.take_length] at hJs
        gi_wp2
        go_end0
        exact ⟨⟨_, rfl⟩, .inl ⟨_, rfl, hJs⟩⟩

/-- What All hands back, as a contract of an iterator. -/
theorem all_stops {α : Type} (cv : α → Chg) (F : Fence) (n : Nat) (hF : F.fn 96) (hro : F.round = none) (hn : 1 ≤ n) (bs : Nat) (v : Value) (q : List α) (hl : q.length ≤ 100000) (w : World) (hbs : bs < w.heap.size) (hc : w.cell? ⟨bs, 0, none⟩ = some v) (hr : ReadsC w v (q.map cv)) :
    SeqStopsK F n Tryz.prog 96 #[.pointer (some ⟨bs, 0, none⟩)] (fun x : α => #[chV (cv x)]) (Still v.ownBlock) (fun ys => ys = q) (fun pre => pre <+: q) q.length w := fun l J Jx W hW hJ _ hY h0 =>
  all1_any cv F n hF hro hn l bs v q hl J Jx W hJ hY ((hW.cell (p := ⟨bs, 0, none⟩) hbs).trans hc) (hr.below hW) h0
end Go.Proofs.YtghpohiinnallaaGreatDoor.Batch
