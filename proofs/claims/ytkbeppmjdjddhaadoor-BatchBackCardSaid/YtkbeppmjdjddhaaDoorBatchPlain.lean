/-
  Plain facts on batches: changes sorted by key, one changed, what is found where; the document's loop over a sorted list; the texts of changes, read again. No program is named here.
-/
import Derived.Test.YtkbeppmjdjddhaaDoorNetsPlain
import Derived.Lib.Strings
import Derived.WalkKit
namespace Go.Proofs.YtkbeppmjdjddhaaDoor.Batch
open Go

abbrev bl (s : ByteArray) : List UInt8 := s.data.toList
abbrev ba (l : List UInt8) : ByteArray := ⟨l.toArray⟩
theorem bl_ba (l : List UInt8) : bl (ba l) = l := by simp
theorem bl_length (s : ByteArray) : (bl s).length = s.size := by simp

/-- One name ahead of another one, by bytes. -/
def less (a b : ByteArray) : Bool := Op.bytesLess (bl a) (bl b)
theorem bl_inj {a b : ByteArray} (h : bl a = bl b) : a = b := ByteArray.ext (Array.toList_inj.1 h)

theorem less_lt : ∀ a b : List UInt8, Op.bytesLess a b = true ↔ a < b
  | [], [] => by simp [Op.bytesLess]
  | [], _ :: _ => by simp [Op.bytesLess]
  | _ :: _, [] => by simp [Op.bytesLess]
  | a :: r, b :: s => by
    show (decide (a < b) || (a == b && Op.bytesLess r s)) = true ↔ _
    rw [List.cons_lt_cons_iff, Bool.or_eq_true, decide_eq_true_eq, Bool.and_eq_true, beq_iff_eq, less_lt r s]
theorem less_iff (a b : ByteArray) : less a b = true ↔ bl a < bl b := less_lt _ _
theorem less_not (a b : ByteArray) : less a b = false ↔ bl b ≤ bl a := by
  rw [← Bool.not_eq_true, less_iff]
  exact List.not_lt
theorem less_irrefl (a : ByteArray) : less a a = false := (less_not a a).2 (List.le_refl _)
theorem less_trans {a b c : ByteArray} (h : less a b = true) (k : less b c = true) : less a c = true := by
  rw [less_iff] at *
  exact List.lt_trans h k
theorem less_total {a b : ByteArray} (h : less a b = false) (hne : b ≠ a) : less b a = true := by
  rw [less_not] at h
  rw [less_iff]
  rcases List.le_iff_lt_or_eq.1 h with h | h
  · exact h
  · exact absurd (bl_inj h) hne
theorem less_asymm {a b : ByteArray} (h : less a b = true) : less b a = false := by
  cases h' : less b a
  · rfl
  · have := less_trans h h'
    rw [less_irrefl] at this
    cases this

section
variable {α : Type} (nm : α → ByteArray)

/-- Put in its place, by names. -/
def ins (x : α) : List α → List α
  | [] => [x]
  | y :: r => if less (nm x) (nm y) then x :: y :: r else y :: ins x r
def del (n : ByteArray) (l : List α) : List α := l.filter fun y => !decide (nm y = n)
def at? (n : ByteArray) (l : List α) : Option α := l.find? fun y => decide (nm y = n)
def put (x : α) (l : List α) : List α := ins nm x (del nm (nm x) l)
def Rising (l : List α) : Prop := l.Pairwise fun x y => less (nm x) (nm y) = true

theorem ins_length (x : α) : ∀ l : List α, (ins nm x l).length = l.length + 1
  | [] => rfl
  | y :: r => by
    unfold ins
    split
    · rfl
    · simp [ins_length x r]
theorem ins_mem (x : α) : ∀ (l : List α) (z : α), z ∈ ins nm x l ↔ z = x ∨ z ∈ l
  | [], z => by simp [ins]
  | y :: r, z => by
    unfold ins
    split
    · simp
    · simp only [List.mem_cons, ins_mem x r z]
      constructor
      · rintro (h | h | h)
        · exact .inr (.inl h)
        · exact .inl h
        · exact .inr (.inr h)
      · rintro (h | h | h)
        · exact .inr (.inl h)
        · exact .inl h
        · exact .inr (.inr h)
theorem ins_last (x z : α) (h : less (nm x) (nm z) = true) : ∀ l : List α, ins nm x (l ++ [z]) = ins nm x l ++ [z]
  | [] => by simp [ins, h]
  | y :: r => by
    simp only [List.cons_append, ins]
    split
    · rfl
    · rw [ins_last x z h r]; rfl
theorem ins_end (x : α) : ∀ l : List α, (∀ y ∈ l, less (nm x) (nm y) = false) → ins nm x l = l ++ [x]
  | [], _ => rfl
  | y :: r, h => by
    unfold ins
    rw [h y (by simp), if_neg (by simp), ins_end x r fun z hz => h z (by simp [hz])]
    rfl
theorem put_length (x : α) (l : List α) : (put nm x l).length ≤ l.length + 1 := by
  unfold put del
  rw [ins_length]
  have := List.length_filter_le (fun y => !decide (nm y = nm x)) l
  omega
theorem del_length (n : ByteArray) (l : List α) : (del nm n l).length ≤ l.length := List.length_filter_le _ _
theorem put_mem {x : α} {l : List α} {z : α} (h : z ∈ put nm x l) : z = x ∨ z ∈ l := by
  rcases (ins_mem nm x _ z).1 h with h | h
  · exact .inl h
  · exact .inr (List.mem_filter.1 h).1
theorem del_mem {n : ByteArray} {l : List α} {z : α} (h : z ∈ del nm n l) : z ∈ l := (List.mem_filter.1 h).1
theorem ins_rising (x : α) : ∀ l : List α, Rising nm l → (∀ y ∈ l, nm y ≠ nm x) → Rising nm (ins nm x l)
  | [], _, _ => by simp [ins, Rising]
  | y :: r, h, hne => by
    obtain ⟨h1, h2⟩ := List.pairwise_cons.1 h
    unfold ins
    split
    · rename_i hb
      refine List.pairwise_cons.2 ⟨fun q hq => ?_, h⟩
      rcases List.mem_cons.1 hq with rfl | hq
      · exact hb
      · exact less_trans hb (h1 q hq)
    · rename_i hb
      have hb : less (nm x) (nm y) = false := by simpa using hb
      refine List.pairwise_cons.2 ⟨fun q hq => ?_, ins_rising x r h2 fun z hz => hne z (by simp [hz])⟩
      rcases (ins_mem nm x r q).1 hq with rfl | hq
      · exact less_total hb (hne y (by simp))
      · exact h1 q hq
theorem del_rising (n : ByteArray) (l : List α) (h : Rising nm l) : Rising nm (del nm n l) := h.filter _
theorem put_rising (x : α) (l : List α) (h : Rising nm l) : Rising nm (put nm x l) :=
  ins_rising nm x _ (h.filter _) fun y hy => by simpa [del] using (List.mem_filter.1 hy).2

/-! The document's loop: what has come out, and whether the entry is put already, behind the first ones. -/
def outs (ok : Bool) (x : α) (p : List α) : List α := if ok && p.any (fun y => !less (nm y) (nm x)) then put nm x p else del nm (nm x) p
def flag (ok : Bool) (x : α) (p : List α) : Bool := !ok || p.any fun y => !less (nm y) (nm x)
def sets (ok : Bool) (x : α) (l : List α) : List α := if ok then put nm x l else del nm (nm x) l

theorem del_snoc (n : ByteArray) (p : List α) (y : α) : del nm n (p ++ [y]) = del nm n p ++ (if nm y = n then [] else [y]) := by
  unfold del
  rw [List.filter_append]
  by_cases h : nm y = n <;> simp [h]
theorem flag_snoc (ok : Bool) (x : α) (p : List α) (y : α) : flag nm ok x (p ++ [y]) = (flag nm ok x p || !less (nm y) (nm x)) := by
  simp [flag, Bool.or_assoc]
theorem outs_snoc (ok : Bool) (x : α) (p : List α) (y : α) (hr : Rising nm (p ++ [y])) :
    outs nm ok x (p ++ [y]) = (if !flag nm ok x p && !less (nm y) (nm x) then outs nm ok x p ++ [x] else outs nm ok x p) ++ (if nm y = nm x then [] else [y]) := by
  have hlast : ∀ z ∈ p, less (nm z) (nm y) = true := fun z hz => (List.pairwise_append.1 hr).2.2 z hz y (by simp)
  cases ok
  · simp [outs, flag, del_snoc]
  · by_cases ha : p.any (fun z => !less (nm z) (nm x)) = true
    · obtain ⟨z, hz, hzx⟩ := List.any_eq_true.1 ha
      have hxy : less (nm x) (nm y) = true := by
        by_cases e : nm z = nm x
        · rw [← e]; exact hlast z hz
        · exact less_trans (less_total (by simpa using hzx) (fun h => e h.symm)) (hlast z hz)
      have hne : nm y ≠ nm x := fun e => by rw [e, less_irrefl] at hxy; cases hxy
      have e1 : outs nm true x (p ++ [y]) = put nm x (p ++ [y]) := by
        unfold outs; rw [if_pos]; simp only [Bool.true_and, List.any_append, ha, Bool.true_or]
      have e2 : outs nm true x p = put nm x p := by
        unfold outs; rw [if_pos]; simp only [Bool.true_and, ha]
      have e3 : flag nm true x p = true := by simp only [flag, ha, Bool.or_true]
      rw [e1, e2, e3, if_neg hne]
      simp only [Bool.not_true, Bool.false_and, Bool.false_eq_true, if_false]
      unfold put
      rw [del_snoc, if_neg hne, ins_last nm x y hxy]
    · have ha : p.any (fun z => !less (nm z) (nm x)) = false := by simpa using ha
      have hall : ∀ z ∈ p, less (nm z) (nm x) = true := fun z hz => by
        have := List.any_eq_false.1 ha z hz
        simpa using this
      have hend : ins nm x (del nm (nm x) p) = del nm (nm x) p ++ [x] := ins_end nm x _ fun z hz => less_asymm (hall z (del_mem nm hz))
      have e2 : outs nm true x p = del nm (nm x) p := by
        unfold outs; rw [if_neg]; simp only [Bool.true_and, ha, Bool.false_eq_true, not_false_eq_true]
      have e3 : flag nm true x p = false := by simp only [flag, ha, Bool.or_false, Bool.not_true]
      rw [e2, e3]
      cases hy : less (nm y) (nm x)
      · have e1 : outs nm true x (p ++ [y]) = put nm x (p ++ [y]) := by
          unfold outs; rw [if_pos]; simp [hy]
        rw [e1]
        simp only [Bool.not_false, Bool.true_and, if_true]
        unfold put
        rw [del_snoc]
        by_cases e : nm y = nm x
        · rw [if_pos e, List.append_nil, hend, List.append_nil]
        · rw [if_neg e, ins_last nm x y (less_total hy (fun h => e h.symm)), hend]
      · have e1 : outs nm true x (p ++ [y]) = del nm (nm x) (p ++ [y]) := by
          unfold outs; rw [if_neg]; simp only [Bool.true_and, List.any_append, ha]; simp [hy]
        rw [e1, del_snoc]
        simp
theorem outs_end (ok : Bool) (x : α) (l : List α) : sets nm ok x l = if flag nm ok x l then outs nm ok x l else outs nm ok x l ++ [x] := by
  cases ok
  · simp [sets, flag, outs]
  · by_cases ha : l.any (fun z => !less (nm z) (nm x)) = true
    · unfold sets flag outs
      simp only [ha, Bool.true_and, if_true, Bool.or_true]
    · have ha : l.any (fun z => !less (nm z) (nm x)) = false := by simpa using ha
      have hall : ∀ z ∈ l, less (nm z) (nm x) = true := fun z hz => by
        have := List.any_eq_false.1 ha z hz
        simpa using this
      have hend : ins nm x (del nm (nm x) l) = del nm (nm x) l ++ [x] := ins_end nm x _ fun z hz => less_asymm (hall z (del_mem nm hz))
      have e3 : flag nm true x l = false := by simp only [flag, ha, Bool.or_false, Bool.not_true]
      have e2 : outs nm true x l = del nm (nm x) l := by
        unfold outs; rw [if_neg]; simp only [Bool.true_and, ha, Bool.false_eq_true, not_false_eq_true]
      rw [e3, e2]
      simp only [Bool.false_eq_true, if_false]
      unfold sets put
      rw [if_pos rfl, hend]
theorem outs_nil (ok : Bool) (x : α) : outs nm ok x [] = [] := by cases ok <;> rfl
theorem flag_nil (ok : Bool) (x : α) : flag nm ok x [] = !ok := by cases ok <;> rfl
theorem sets_length (ok : Bool) (x : α) (l : List α) : (sets nm ok x l).length ≤ l.length + 1 := by
  unfold sets
  split
  · exact put_length nm x l
  · exact Nat.le_succ_of_le (del_length nm _ l)
theorem outs_length (ok : Bool) (x : α) (l : List α) : (outs nm ok x l).length ≤ l.length + 1 := by
  unfold outs
  split
  · exact put_length nm x l
  · exact Nat.le_succ_of_le (del_length nm _ l)
theorem sets_mem {ok : Bool} {x : α} {l : List α} {z : α} (h : z ∈ sets nm ok x l) : (ok = true ∧ z = x) ∨ z ∈ l := by
  unfold sets at h
  cases ok
  · exact .inr (del_mem nm (by simpa using h))
  · rcases put_mem nm (by simpa using h) with h | h
    · exact .inl ⟨rfl, h⟩
    · exact .inr h
theorem sets_rising (ok : Bool) (x : α) (l : List α) (h : Rising nm l) : Rising nm (sets nm ok x l) := by
  unfold sets
  split
  · exact put_rising nm x l h
  · exact del_rising nm _ l h
theorem at_none {n : ByteArray} {l : List α} (h : at? nm n l = none) : ∀ y ∈ l, nm y ≠ n := fun y hy => by
  have := List.find?_eq_none.1 h y hy
  simpa using this
theorem at_some {n : ByteArray} {l : List α} {y : α} (h : at? nm n l = some y) : y ∈ l ∧ nm y = n := ⟨List.mem_of_find?_eq_some h, by simpa using List.find?_some h⟩
theorem at_mem {l : List α} (hr : Rising nm l) : ∀ y ∈ l, at? nm (nm y) l = some y := by
  induction l with
  | nil => intro y hy; cases hy
  | cons x r ih =>
    intro y hy
    obtain ⟨h1, h2⟩ := List.pairwise_cons.1 hr
    unfold at?
    rcases List.mem_cons.1 hy with rfl | hy
    · simp
    · have hne : nm x ≠ nm y := fun e => by have := h1 y hy; rw [e, less_irrefl] at this; cases this
      rw [List.find?_cons_of_neg (by simpa using hne)]
      exact ih h2 y hy
end


/-! Where a key stands: behind so many. -/
section
variable {α : Type} (nm : α → ByteArray)
def lo (n : ByteArray) (l : List α) : Nat := (l.takeWhile fun y => less (nm y) n).length
theorem lo_le (n : ByteArray) (l : List α) : lo nm n l ≤ l.length := (List.takeWhile_sublist _).length_le
theorem lo_cons (n : ByteArray) (y : α) (r : List α) : lo nm n (y :: r) = if less (nm y) n = true then lo nm n r + 1 else 0 := by
  unfold lo
  by_cases h : less (nm y) n = true
  · simp [h]
  · simp [h]
/-- Of a sorted list: those ahead of the place are ahead of the key, the others are not. -/
theorem lo_below {n : ByteArray} : ∀ {l : List α}, Rising nm l → ∀ {i : Nat} (h : i < l.length), less (nm l[i]) n = decide (i < lo nm n l)
  | [], _, i, h => by simp at h
  | y :: r, hr, i, h => by
    obtain ⟨h1, h2⟩ := List.pairwise_cons.1 hr
    rw [lo_cons]
    by_cases hy : less (nm y) n = true
    · rw [if_pos hy]
      cases i with
      | zero => simpa using hy
      | succ i =>
        have := lo_below h2 (i := i) (n := n) (by simpa using h)
        simpa using this
    · rw [if_neg hy]
      have hy : less (nm y) n = false := by simpa using hy
      cases i with
      | zero => simpa using hy
      | succ i =>
        have hi : i < r.length := by simpa using h
        have h3 := h1 r[i] (List.getElem_mem hi)
        have h4 : less (nm r[i]) n = false := by
          cases h5 : less (nm r[i]) n
          · rfl
          · have := less_trans h3 h5
            rw [hy] at this; cases this
        simpa using h4
/-- The one of a key stands at its place, or there is none. -/
theorem at_lo (n : ByteArray) : ∀ {l : List α}, Rising nm l → at? nm n l = (if h : lo nm n l < l.length then (if nm l[lo nm n l] = n then some l[lo nm n l] else none) else none)
  | [], _ => rfl
  | y :: r, hr => by
    obtain ⟨h1, h2⟩ := List.pairwise_cons.1 hr
    have ih := at_lo n h2
    unfold at? at ih ⊢
    by_cases hy : less (nm y) n = true
    · have hne : nm y ≠ n := fun e => by rw [e, less_irrefl] at hy; cases hy
      have e : lo nm n (y :: r) = lo nm n r + 1 := by rw [lo_cons, if_pos hy]
      rw [List.find?_cons_of_neg (by simpa using hne), ih]
      simp only [e, List.length_cons, Nat.add_lt_add_iff_right, List.getElem_cons_succ]
    · have e : lo nm n (y :: r) = 0 := by rw [lo_cons, if_neg hy]
      have hy : less (nm y) n = false := by simpa using hy
      simp only [e, List.length_cons, Nat.zero_lt_succ, dite_true, List.getElem_cons_zero]
      by_cases hn : nm y = n
      · rw [if_pos hn, List.find?_cons_of_pos (by simpa using hn)]
      · rw [if_neg hn, List.find?_cons_of_neg (by simpa using hn)]
        have h3 := less_total hy (fun e => hn e.symm)
        refine List.find?_eq_none.2 fun z hz => ?_
        have h4 := less_trans h3 (h1 z hz)
        simp only [decide_eq_true_eq]
        intro e
        rw [e, less_irrefl] at h4; cases h4
theorem at_there {n : ByteArray} {l : List α} (hr : Rising nm l) {y : α} (h : at? nm n l = some y) : lo nm n l < l.length ∧ l[lo nm n l]? = some y := by
  rw [at_lo nm n hr] at h
  by_cases h0 : lo nm n l < l.length
  · rw [dif_pos h0] at h
    by_cases h1 : nm l[lo nm n l] = n
    · rw [if_pos h1] at h
      exact ⟨h0, by rw [List.getElem?_eq_getElem h0]; exact h⟩
    · rw [if_neg h1] at h; cases h
  · rw [dif_neg h0] at h; cases h
theorem at_absent {n : ByteArray} {l : List α} (hr : Rising nm l) (h : at? nm n l = none) (h0 : lo nm n l < l.length) : nm l[lo nm n l] ≠ n := by
  rw [at_lo nm n hr, dif_pos h0] at h
  intro e
  rw [if_pos e] at h
  cases h
theorem del_none {n : ByteArray} {l : List α} (h : at? nm n l = none) : del nm n l = l := by
  unfold del
  rw [List.filter_eq_self]
  intro y hy
  have := at_none nm h y hy
  simpa using this
theorem ins_lo (x : α) : ∀ {l : List α}, Rising nm l → at? nm (nm x) l = none → ins nm x l = l.take (lo nm (nm x) l) ++ x :: l.drop (lo nm (nm x) l)
  | [], _, _ => rfl
  | y :: r, hr, h => by
    obtain ⟨h1, h2⟩ := List.pairwise_cons.1 hr
    have hne := at_none nm h y (by simp)
    have hr0 : at? nm (nm x) r = none := by
      unfold at? at h ⊢
      rwa [List.find?_cons_of_neg (by simpa using hne)] at h
    unfold ins
    rw [lo_cons]
    by_cases hy : less (nm y) (nm x) = true
    · rw [if_pos hy, less_asymm hy, if_neg (by simp), ins_lo x h2 hr0]
      rfl
    · rw [if_neg hy, if_pos (less_total (by simpa using hy) (fun e => hne e.symm))]
      rfl
/-- A new key: put in at its place. -/
theorem put_new (x : α) {l : List α} (hr : Rising nm l) (h : at? nm (nm x) l = none) : put nm x l = l.take (lo nm (nm x) l) ++ x :: l.drop (lo nm (nm x) l) := by
  unfold put
  rw [del_none nm h, ins_lo nm x hr h]
theorem put_old (x : α) : ∀ {l : List α}, Rising nm l → ∀ {y : α}, at? nm (nm x) l = some y → put nm x l = l.set (lo nm (nm x) l) x
  | [], _, y, h => by cases h
  | z :: r, hr, y, h => by
    obtain ⟨h1, h2⟩ := List.pairwise_cons.1 hr
    by_cases hn : nm z = nm x
    · have hz : less (nm z) (nm x) = false := by rw [hn]; exact less_irrefl _
      have hd : del nm (nm x) (z :: r) = r := by
        unfold del
        rw [List.filter_cons_of_neg (by simpa using hn), List.filter_eq_self]
        intro q hq
        have := h1 q hq
        simp only [Bool.not_eq_true', decide_eq_false_iff_not]
        intro e
        rw [hn, e, less_irrefl] at this; cases this
      have h3 : ∀ q ∈ r, less (nm x) (nm q) = true := fun q hq => by rw [← hn]; exact h1 q hq
      unfold put
      rw [hd, lo_cons, if_neg (by rw [hz]; simp), List.set_cons_zero]
      cases r with
      | nil => rfl
      | cons q r =>
        unfold ins
        rw [if_pos (h3 q (by simp))]
    · have hr0 : at? nm (nm x) r = some y := by
        unfold at? at h ⊢
        rwa [List.find?_cons_of_neg (by simpa using hn)] at h
      have hlt : less (nm z) (nm x) = true := by
        obtain ⟨hm, he⟩ := at_some nm hr0
        rw [← he]
        exact h1 y hm
      have hd : del nm (nm x) (z :: r) = z :: del nm (nm x) r := by
        unfold del
        rw [List.filter_cons_of_pos (by simpa using hn)]
      have ih := put_old x h2 hr0
      unfold put at ih ⊢
      rw [hd, lo_cons, if_pos hlt, List.set_cons_succ]
      unfold ins
      rw [less_asymm hlt, if_neg (by simp), ih]
theorem put_old_length (x : α) {l : List α} (hr : Rising nm l) {y : α} (h : at? nm (nm x) l = some y) : (put nm x l).length = l.length := by
  rw [put_old nm x hr h, List.length_set]
theorem put_new_length (x : α) {l : List α} (hr : Rising nm l) (h : at? nm (nm x) l = none) : (put nm x l).length = l.length + 1 := by
  have := lo_le nm (nm x) l
  rw [put_new nm x hr h]
  simp
  omega
theorem at_put_same (x : α) {l : List α} (hr : Rising nm l) : at? nm (nm x) (put nm x l) = some x :=
  at_mem nm (put_rising nm x l hr) x ((ins_mem nm x _ x).2 (.inl rfl))
theorem at_iff {n : ByteArray} {l : List α} (hr : Rising nm l) (y : α) : at? nm n l = some y ↔ y ∈ l ∧ nm y = n :=
  ⟨at_some nm, fun ⟨h, e⟩ => by rw [← e]; exact at_mem nm hr y h⟩
theorem put_mem_iff (x : α) (l : List α) (z : α) : z ∈ put nm x l ↔ z = x ∨ (z ∈ l ∧ nm z ≠ nm x) := by
  unfold put
  rw [ins_mem]
  unfold del
  rw [List.mem_filter]
  simp
theorem at_put_other (x : α) {l : List α} (hr : Rising nm l) {n : ByteArray} (hn : n ≠ nm x) : at? nm n (put nm x l) = at? nm n l := by
  apply Option.ext
  intro y
  rw [at_iff nm (put_rising nm x l hr), at_iff nm hr, put_mem_iff]
  constructor
  · rintro ⟨rfl | ⟨h, _⟩, e⟩
    · exact absurd e.symm hn
    · exact ⟨h, e⟩
  · rintro ⟨h, e⟩
    exact ⟨.inr ⟨h, by rw [e]; exact hn⟩, e⟩
end

/-! Changes. -/
structure Chg where
  key : ByteArray
  val : ByteArray
  gone : Bool
deriving DecidableEq
def Chg.none : Chg := ⟨⟨#[]⟩, ⟨#[]⟩, false⟩
/-- A deletion has no value. -/
def Chg.norm (c : Chg) : Chg := if c.gone then ⟨c.key, ⟨#[]⟩, true⟩ else c
theorem norm_key (c : Chg) : c.norm.key = c.key := by unfold Chg.norm; split <;> rfl
theorem norm_gone (c : Chg) : c.norm.gone = c.gone := by unfold Chg.norm; split <;> simp_all
theorem norm_val (c : Chg) : c.norm.val.size ≤ c.val.size := by
  unfold Chg.norm
  split
  · exact Nat.zero_le _
  · exact Nat.le_refl _
def chk (c : Chg) : Nat := if c.key.size = 0 then 3 else if 200 < c.key.size ∨ 1048576 < c.val.size then 2 else 0
/-- Why a change is not made. -/
def code (q : List Chg) (c : Chg) : Nat := if chk c ≠ 0 then chk c else if at? Chg.key c.key q = none ∧ 2000 ≤ q.length then 8 else 0
def made (q : List Chg) (c : Chg) : List Chg := if code q c = 0 then put Chg.key c q else q
theorem chk_le (c : Chg) : chk c ≤ 3 := by unfold chk; repeat' split
                                           all_goals omega
theorem code_le (q : List Chg) (c : Chg) : code q c ≤ 8 := by
  have := chk_le c
  unfold code; repeat' split
  all_goals omega
/-- What a batch may hold. -/
structure Good (q : List Chg) : Prop where
  rise : Rising Chg.key q
  few : q.length ≤ 2000
  fits : ∀ x ∈ q, chk x = 0
theorem good_nil : Good [] := ⟨List.Pairwise.nil, by simp, by simp⟩
theorem good_made {q : List Chg} (h : Good q) (c : Chg) : Good (made q c) := by
  unfold made
  by_cases h0 : code q c = 0
  · rw [if_pos h0]
    have hc : chk c = 0 := by
      unfold code at h0
      by_cases e : chk c ≠ 0
      · rw [if_pos e] at h0; exact h0
      · simpa using e
    have hf : ¬ (at? Chg.key c.key q = none ∧ 2000 ≤ q.length) := by
      unfold code at h0
      rw [if_neg (by simp [hc])] at h0
      intro e
      rw [if_pos e] at h0
      cases h0
    refine ⟨put_rising Chg.key c q h.rise, ?_, fun x hx => ?_⟩
    · cases ha : at? Chg.key c.key q with
      | none =>
        rw [put_new_length Chg.key c h.rise ha]
        have := h.few
        rcases Nat.lt_or_ge q.length 2000 with h1 | h1
        · omega
        · exact absurd ⟨ha, h1⟩ hf
      | some y => rw [put_old_length Chg.key c h.rise ha]; exact h.few
    · rcases put_mem Chg.key hx with rfl | hx
      · exact hc
      · exact h.fits x hx
  · rw [if_neg h0]; exact h
theorem made_length (q : List Chg) (c : Chg) : (made q c).length ≤ q.length + 1 := by
  unfold made
  split
  · exact put_length Chg.key c q
  · omega
theorem made_mem {q : List Chg} {c z : Chg} (h : z ∈ made q c) : z = c ∨ z ∈ q := by
  unfold made at h
  split at h
  · exact put_mem Chg.key h
  · exact .inr h
theorem fits_size {x : Chg} (h : chk x = 0) : 0 < x.key.size ∧ x.key.size ≤ 200 ∧ x.val.size ≤ 1048576 := by
  unfold chk at h
  repeat' split at h
  all_goals omega

/-! Texts of changes. -/
open Nets (rowS textsS putS texts_row row_texts texts_bad)
def parts (c : Chg) : List ByteArray := if c.gone then [⟨#[45]⟩, c.key] else [⟨#[43]⟩, c.key, c.val]
def writeS (c : Chg) : List UInt8 := rowS ((parts c).map bl)
/-- The change that a row tells, if it tells one. -/
def changeS (ls : List ByteArray) : Option Chg := match ls with
  | [t, k] => if t = ⟨#[45]⟩ then some ⟨k, ⟨#[]⟩, true⟩ else none
  | [t, k, v] => if t = ⟨#[43]⟩ then some ⟨k, v, false⟩ else none
  | _ => none
def readS (l : List UInt8) : Chg × Nat :=
  if (textsS l).2 ≠ 0 then (Chg.none, (textsS l).2) else match changeS ((textsS l).1.map ba) with
    | none => (Chg.none, 3)
    | some c => if chk c ≠ 0 then (Chg.none, chk c) else (c, 0)
theorem map_ba (ls : List ByteArray) : (ls.map bl).map ba = ls := by
  rw [List.map_map]
  conv => rhs; rw [← List.map_id ls]
  rfl
theorem read_write (c : Chg) (hn : c.norm = c) (hc : chk c = 0) : readS (writeS c) = (c, 0) := by
  obtain ⟨h1, h2, h3⟩ := fits_size hc
  have ht : textsS (writeS c) = ((parts c).map bl, 0) := by
    refine texts_row _ fun s hs => ?_
    obtain ⟨x, hx, rfl⟩ := List.mem_map.1 hs
    rw [bl_length]
    unfold parts at hx
    split at hx
    · simp only [List.mem_cons, List.not_mem_nil, or_false] at hx
      rcases hx with rfl | rfl
      · decide
      · omega
    · simp only [List.mem_cons, List.not_mem_nil, or_false] at hx
      rcases hx with rfl | rfl | rfl
      · decide
      · omega
      · omega
  have he : changeS (parts c) = some c := by
    unfold parts
    unfold Chg.norm at hn
    cases hg : c.gone
    · rw [if_neg (by simp)]
      show some _ = some c
      rw [← hg]
    · rw [if_pos hg] at hn
      rw [if_pos rfl]
      show some _ = some c
      rw [hn]
  unfold readS
  rw [ht]
  simp only [ne_eq, not_true_eq_false, if_false, map_ba, he, hc]
end Go.Proofs.YtkbeppmjdjddhaaDoor.Batch
