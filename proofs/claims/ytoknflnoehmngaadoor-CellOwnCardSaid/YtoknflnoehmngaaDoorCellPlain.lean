/-
  Plain facts on bags: entries sorted by name, what is put and dropped, what is found; the document's loop over a sorted list; the same as a map's datum. No program is named here.
-/
import Derived.Test.YtoknflnoehmngaaDoorNetsPlain
import Derived.Maps.OwnSet
import Derived.Sort.KeysCollected
import Derived.Lib.Strings
namespace Go.Proofs.YtoknflnoehmngaaDoor.Cell
open Go

abbrev bl (s : ByteArray) : List UInt8 := s.data.toList

structure Val where
  kind : Int
  s : ByteArray
  n : Int
  is : Bool
  la : Option Addr
  ln : Nat
  lc : Nat
  ls : List ByteArray
abbrev Val.lv (v : Val) : Value := .slice v.la v.ln v.lc

structure Ent where
  name : ByteArray
  v : Val

def Val.zero : Val := ⟨0, ⟨#[]⟩, 0, false, none, 0, 0, []⟩
def okKind (k : Int) : Bool := decide (1 ≤ k) && decide (k ≤ 4)
/-- One name ahead of another one, by bytes. -/
def less (a b : ByteArray) : Bool := Op.bytesLess (bl a) (bl b)
theorem bl_inj {a b : ByteArray} (h : bl a = bl b) : a = b := ByteArray.ext (Array.toList_inj.1 h)

theorem before_eq : ∀ a b : List UInt8, bytesBefore a b = Op.bytesLess a b
  | [], [] => rfl
  | [], _ :: _ => rfl
  | _ :: _, [] => rfl
  | a :: r, b :: s => by
    show (decide (a < b) || (a == b && bytesBefore r s)) = (decide (a < b) || (a == b && Op.bytesLess r s))
    rw [before_eq r s]
theorem less_lt : ∀ a b : List UInt8, Op.bytesLess a b = true ↔ a < b
  | [], [] => by simp [Op.bytesLess]
  | [], _ :: _ => by simp [Op.bytesLess]
  | _ :: _, [] => by simp [Op.bytesLess]
  | a :: r, b :: s => by
    show (decide (a < b) || (a == b && Op.bytesLess r s)) = true ↔ _
    rw [List.cons_lt_cons_iff, Bool.or_eq_true, decide_eq_true_eq, Bool.and_eq_true, beq_iff_eq, less_lt r s]
theorem less_iff (a b : ByteArray) : less a b = true ↔ bl a < bl b := less_lt _ _
theorem less_not (a b : ByteArray) : less a b = false ↔ bl b ≤ bl a := by
  rw [← Bool.not_eq_true, less_iff]
  exact List.not_lt
theorem less_irrefl (a : ByteArray) : less a a = false := (less_not a a).2 (List.le_refl _)
theorem less_trans {a b c : ByteArray} (h : less a b = true) (k : less b c = true) : less a c = true := by
  rw [less_iff] at *
  exact List.lt_trans h k
theorem less_total {a b : ByteArray} (h : less a b = false) (hne : b ≠ a) : less b a = true := by
  rw [less_not] at h
  rw [less_iff]
  rcases List.le_iff_lt_or_eq.1 h with h | h
  · exact h
  · exact absurd (bl_inj h) hne
theorem less_asymm {a b : ByteArray} (h : less a b = true) : less b a = false := by
  cases h' : less b a
  · rfl
  · have := less_trans h h'
    rw [less_irrefl] at this
    cases this

section
variable {α : Type} (nm : α → ByteArray)

/-- Put in its place, by names. -/
def ins (x : α) : List α → List α
  | [] => [x]
  | y :: r => if less (nm x) (nm y) then x :: y :: r else y :: ins x r
def del (n : ByteArray) (l : List α) : List α := l.filter fun y => !decide (nm y = n)
def at? (n : ByteArray) (l : List α) : Option α := l.find? fun y => decide (nm y = n)
def put (x : α) (l : List α) : List α := ins nm x (del nm (nm x) l)
def Rising (l : List α) : Prop := l.Pairwise fun x y => less (nm x) (nm y) = true

theorem ins_length (x : α) : ∀ l : List α, (ins nm x l).length = l.length + 1
  | [] => rfl
  | y :: r => by
    unfold ins
    split
    · rfl
    · simp [ins_length x r]
theorem ins_mem (x : α) : ∀ (l : List α) (z : α), z ∈ ins nm x l ↔ z = x ∨ z ∈ l
  | [], z => by simp [ins]
  | y :: r, z => by
    unfold ins
    split
    · simp
    · simp only [List.mem_cons, ins_mem x r z]
      constructor
      · rintro (h | h | h)
        · exact .inr (.inl h)
        · exact .inl h
        · exact .inr (.inr h)
      · rintro (h | h | h)
        · exact .inr (.inl h)
        · exact .inl h
        · exact .inr (.inr h)
theorem ins_last (x z : α) (h : less (nm x) (nm z) = true) : ∀ l : List α, ins nm x (l ++ [z]) = ins nm x l ++ [z]
  | [] => by simp [ins, h]
  | y :: r => by
    simp only [List.cons_append, ins]
    split
    · rfl
    · rw [ins_last x z h r]; rfl
theorem ins_end (x : α) : ∀ l : List α, (∀ y ∈ l, less (nm x) (nm y) = false) → ins nm x l = l ++ [x]
  | [], _ => rfl
  | y :: r, h => by
    unfold ins
    rw [h y (by simp), if_neg (by simp), ins_end x r fun z hz => h z (by simp [hz])]
    rfl
theorem put_length (x : α) (l : List α) : (put nm x l).length ≤ l.length + 1 := by
  unfold put del
  rw [ins_length]
  have := List.length_filter_le (fun y => !decide (nm y = nm x)) l
  omega
theorem del_length (n : ByteArray) (l : List α) : (del nm n l).length ≤ l.length := List.length_filter_le _ _
theorem put_mem {x : α} {l : List α} {z : α} (h : z ∈ put nm x l) : z = x ∨ z ∈ l := by
  rcases (ins_mem nm x _ z).1 h with h | h
  · exact .inl h
  · exact .inr (List.mem_filter.1 h).1
theorem del_mem {n : ByteArray} {l : List α} {z : α} (h : z ∈ del nm n l) : z ∈ l := (List.mem_filter.1 h).1
theorem ins_rising (x : α) : ∀ l : List α, Rising nm l → (∀ y ∈ l, nm y ≠ nm x) → Rising nm (ins nm x l)
  | [], _, _ => by simp [ins, Rising]
  | y :: r, h, hne => by
    obtain ⟨h1, h2⟩ := List.pairwise_cons.1 h
    unfold ins
    split
    · rename_i hb
      refine List.pairwise_cons.2 ⟨fun q hq => ?_, h⟩
      rcases List.mem_cons.1 hq with rfl | hq
      · exact hb
      · exact less_trans hb (h1 q hq)
    · rename_i hb
      have hb : less (nm x) (nm y) = false := by simpa using hb
      refine List.pairwise_cons.2 ⟨fun q hq => ?_, ins_rising x r h2 fun z hz => hne z (by simp [hz])⟩
      rcases (ins_mem nm x r q).1 hq with rfl | hq
      · exact less_total hb (hne y (by simp))
      · exact h1 q hq
theorem del_rising (n : ByteArray) (l : List α) (h : Rising nm l) : Rising nm (del nm n l) := h.filter _
theorem put_rising (x : α) (l : List α) (h : Rising nm l) : Rising nm (put nm x l) :=
  ins_rising nm x _ (h.filter _) fun y hy => by simpa [del] using (List.mem_filter.1 hy).2

/-! The document's loop: what has come out, and whether the entry is put already, behind the first ones. -/
def outs (ok : Bool) (x : α) (p : List α) : List α := if ok && p.any (fun y => !less (nm y) (nm x)) then put nm x p else del nm (nm x) p
def flag (ok : Bool) (x : α) (p : List α) : Bool := !ok || p.any fun y => !less (nm y) (nm x)
def sets (ok : Bool) (x : α) (l : List α) : List α := if ok then put nm x l else del nm (nm x) l

theorem del_snoc (n : ByteArray) (p : List α) (y : α) : del nm n (p ++ [y]) = del nm n p ++ (if nm y = n then [] else [y]) := by
  unfold del
  rw [List.filter_append]
  by_cases h : nm y = n <;> simp [h]
theorem flag_snoc (ok : Bool) (x : α) (p : List α) (y : α) : flag nm ok x (p ++ [y]) = (flag nm ok x p || !less (nm y) (nm x)) := by
  simp [flag, Bool.or_assoc]
theorem outs_snoc (ok : Bool) (x : α) (p : List α) (y : α) (hr : Rising nm (p ++ [y])) :
    outs nm ok x (p ++ [y]) = (if !flag nm ok x p && !less (nm y) (nm x) then outs nm ok x p ++ [x] else outs nm ok x p) ++ (if nm y = nm x then [] else [y]) := by
  have hlast : ∀ z ∈ p, less (nm z) (nm y) = true := fun z hz => (List.pairwise_append.1 hr).2.2 z hz y (by simp)
  cases ok
  · simp [outs, flag, del_snoc]
  · by_cases ha : p.any (fun z => !less (nm z) (nm x)) = true
    · obtain ⟨z, hz, hzx⟩ := List.any_eq_true.1 ha
      have hxy : less (nm x) (nm y) = true := by
        by_cases e : nm z = nm x
        · rw [← e]; exact hlast z hz
        · exact less_trans (less_total (by simpa using hzx) (fun h => e h.symm)) (hlast z hz)
      have hne : nm y ≠ nm x := fun e => by rw [e, less_irrefl] at hxy; cases hxy
      have e1 : outs nm true x (p ++ [y]) = put nm x (p ++ [y]) := by
        unfold outs; rw [if_pos]; simp only [Bool.true_and, List.any_append, ha, Bool.true_or]
      have e2 : outs nm true x p = put nm x p := by
        unfold outs; rw [if_pos]; simp only [Bool.true_and, ha]
      have e3 : flag nm true x p = true := by simp only [flag, ha, Bool.or_true]
      rw [e1, e2, e3, if_neg hne]
      simp only [Bool.not_true, Bool.false_and, Bool.false_eq_true, if_false]
      unfold put
      rw [del_snoc, if_neg hne, ins_last nm x y hxy]
    · have ha : p.any (fun z => !less (nm z) (nm x)) = false := by simpa using ha
      have hall : ∀ z ∈ p, less (nm z) (nm x) = true := fun z hz => by
        have := List.any_eq_false.1 ha z hz
        simpa using this
      have hend : ins nm x (del nm (nm x) p) = del nm (nm x) p ++ [x] := ins_end nm x _ fun z hz => less_asymm (hall z (del_mem nm hz))
      have e2 : outs nm true x p = del nm (nm x) p := by
        unfold outs; rw [if_neg]; simp only [Bool.true_and, ha, Bool.false_eq_true, not_false_eq_true]
      have e3 : flag nm true x p = false := by simp only [flag, ha, Bool.or_false, Bool.not_true]
      rw [e2, e3]
      cases hy : less (nm y) (nm x)
      · have e1 : outs nm true x (p ++ [y]) = put nm x (p ++ [y]) := by
          unfold outs; rw [if_pos]; simp [hy]
        rw [e1]
        simp only [Bool.not_false, Bool.true_and, if_true]
        unfold put
        rw [del_snoc]
        by_cases e : nm y = nm x
        · rw [if_pos e, List.append_nil, hend, List.append_nil]
        · rw [if_neg e, ins_last nm x y (less_total hy (fun h => e h.symm)), hend]
      · have e1 : outs nm true x (p ++ [y]) = del nm (nm x) (p ++ [y]) := by
          unfold outs; rw [if_neg]; simp only [Bool.true_and, List.any_append, ha]; simp [hy]
        rw [e1, del_snoc]
        simp
theorem outs_end (ok : Bool) (x : α) (l : List α) : sets nm ok x l = if flag nm ok x l then outs nm ok x l else outs nm ok x l ++ [x] := by
  cases ok
  · simp [sets, flag, outs]
  · by_cases ha : l.any (fun z => !less (nm z) (nm x)) = true
    · unfold sets flag outs
      simp only [ha, Bool.true_and, if_true, Bool.or_true]
    · have ha : l.any (fun z => !less (nm z) (nm x)) = false := by simpa using ha
      have hall : ∀ z ∈ l, less (nm z) (nm x) = true := fun z hz => by
        have := List.any_eq_false.1 ha z hz
        simpa using this
      have hend : ins nm x (del nm (nm x) l) = del nm (nm x) l ++ [x] := ins_end nm x _ fun z hz => less_asymm (hall z (del_mem nm hz))
      have e3 : flag nm true x l = false := by simp only [flag, ha, Bool.or_false, Bool.not_true]
      have e2 : outs nm true x l = del nm (nm x) l := by
        unfold outs; rw [if_neg]; simp only [Bool.true_and, ha, Bool.false_eq_true, not_false_eq_true]
      rw [e3, e2]
      simp only [Bool.false_eq_true, if_false]
      unfold sets put
      rw [if_pos rfl, hend]
theorem outs_nil (ok : Bool) (x : α) : outs nm ok x [] = [] := by cases ok <;> rfl
theorem flag_nil (ok : Bool) (x : α) : flag nm ok x [] = !ok := by cases ok <;> rfl
theorem sets_length (ok : Bool) (x : α) (l : List α) : (sets nm ok x l).length ≤ l.length + 1 := by
  unfold sets
  split
  · exact put_length nm x l
  · exact Nat.le_succ_of_le (del_length nm _ l)
theorem outs_length (ok : Bool) (x : α) (l : List α) : (outs nm ok x l).length ≤ l.length + 1 := by
  unfold outs
  split
  · exact put_length nm x l
  · exact Nat.le_succ_of_le (del_length nm _ l)
theorem sets_mem {ok : Bool} {x : α} {l : List α} {z : α} (h : z ∈ sets nm ok x l) : (ok = true ∧ z = x) ∨ z ∈ l := by
  unfold sets at h
  cases ok
  · exact .inr (del_mem nm (by simpa using h))
  · rcases put_mem nm (by simpa using h) with h | h
    · exact .inl ⟨rfl, h⟩
    · exact .inr h
theorem sets_rising (ok : Bool) (x : α) (l : List α) (h : Rising nm l) : Rising nm (sets nm ok x l) := by
  unfold sets
  split
  · exact put_rising nm x l h
  · exact del_rising nm _ l h
theorem at_none {n : ByteArray} {l : List α} (h : at? nm n l = none) : ∀ y ∈ l, nm y ≠ n := fun y hy => by
  have := List.find?_eq_none.1 h y hy
  simpa using this
theorem at_some {n : ByteArray} {l : List α} {y : α} (h : at? nm n l = some y) : y ∈ l ∧ nm y = n := ⟨List.mem_of_find?_eq_some h, by simpa using List.find?_some h⟩
theorem at_mem {l : List α} (hr : Rising nm l) : ∀ y ∈ l, at? nm (nm y) l = some y := by
  induction l with
  | nil => intro y hy; cases hy
  | cons x r ih =>
    intro y hy
    obtain ⟨h1, h2⟩ := List.pairwise_cons.1 hr
    unfold at?
    rcases List.mem_cons.1 hy with rfl | hy
    · simp
    · have hne : nm x ≠ nm y := fun e => by have := h1 y hy; rw [e, less_irrefl] at this; cases this
      rw [List.find?_cons_of_neg (by simpa using hne)]
      exact ih h2 y hy
end

/-! Entries with what the program has for each. -/
abbrev Pair := Ent × Value
abbrev pn (g : Pair) : ByteArray := g.1.name

theorem ins_map (g : Pair) : ∀ G : List Pair, (ins pn g G).map (·.1) = ins Ent.name g.1 (G.map (·.1))
  | [] => rfl
  | y :: r => by
    unfold ins
    simp only [List.map_cons, ins]
    split
    · rfl
    · simp [ins_map g r]
theorem del_map (n : ByteArray) (G : List Pair) : (del pn n G).map (·.1) = del Ent.name n (G.map (·.1)) := by
  unfold del
  rw [List.filter_map]
  rfl
theorem put_map (g : Pair) (G : List Pair) : (put pn g G).map (·.1) = put Ent.name g.1 (G.map (·.1)) := by
  unfold put
  rw [ins_map, del_map]
theorem at_map (n : ByteArray) (G : List Pair) : at? Ent.name n (G.map (·.1)) = (at? pn n G).map (·.1) := by
  unfold at?
  rw [List.find?_map]
  rfl
theorem rising_map (G : List Pair) : Rising Ent.name (G.map (·.1)) ↔ Rising pn G := List.pairwise_map

/-- What a map reads as that has these. -/
def entry (g : Pair) : Lit × DataW Value := (.string (bl (pn g)), .held g.2)
def datum (G : List Pair) : DataW Value := .map (G.map entry)
def el (v : Value) : Option (DataW Value × List MemPlace) := some (.held v, [])

theorem same_key (a b : ByteArray) : Lit.sameKey (.string (bl a)) (.string (bl b)) = decide (a = b) := by
  show (bl a == bl b) = _
  rw [Bool.eq_iff_iff, beq_iff_eq, decide_eq_true_eq]
  exact ⟨bl_inj, fun h => by rw [h]⟩
theorem datum_del (G : List Pair) (n : ByteArray) : (datum G).del (.string (bl n)) = datum (del pn n G) := by
  unfold datum DataW.del del
  simp only
  rw [List.filter_map]
  congr 1
  congr 1
  apply List.filter_congr
  intro g _
  show (!Lit.sameKey (.string (bl (pn g))) (.string (bl n))) = _
  rw [same_key]
theorem entry_ins (g : Pair) : ∀ G : List Pair, (ins pn g G).map entry = DataW.insert (entry g) (G.map entry)
  | [] => rfl
  | y :: r => by
    have e : (entry g).1.before (entry y).1 = less (pn g) (pn y) := before_eq _ _
    unfold ins
    simp only [List.map_cons, DataW.insert, e]
    split
    · rfl
    · simp [entry_ins g r]
theorem datum_put (G : List Pair) (g : Pair) : (datum G).put (.string (bl (pn g))) (.held g.2) = datum (put pn g G) := by
  have h : (datum G).put (.string (bl (pn g))) (.held g.2) = .map (DataW.insert (entry g) ((G.map entry).filter fun p => !p.1.sameKey (.string (bl (pn g))))) := rfl
  have h2 : (datum G).del (.string (bl (pn g))) = .map ((G.map entry).filter fun p => !p.1.sameKey (.string (bl (pn g)))) := rfl
  have h3 := datum_del G (pn g)
  rw [h2] at h3
  unfold datum at h3
  rw [h, DataW.map.inj h3, ← entry_ins]
  rfl
def valueAt (n : ByteArray) (G : List Pair) : Value := match at? pn n G with | some g => g.2 | none => .nilIface
theorem datum_at (G : List Pair) (n : ByteArray) : (datum G).atKey (.string (bl n)) (.held .nilIface) = .held (valueAt n G) := by
  have e : ((fun p : Lit × DataW Value => p.1.sameKey (.string (bl n))) ∘ entry) = fun g : Pair => decide (pn g = n) := funext fun g => same_key _ _
  unfold datum DataW.atKey valueAt at?
  simp only [List.find?_map]
  rw [e]
  cases G.find? fun g => decide (pn g = n) <;> rfl
theorem datum_has (G : List Pair) (n : ByteArray) : Maps.has (datum G) (.string (bl n)) = (at? pn n G).isSome := by
  have h : Maps.has (datum G) (.string (bl n)) = (G.map entry).any fun p => p.1.sameKey (.string (bl n)) := rfl
  rw [h, List.any_map]
  unfold at?
  rw [Bool.eq_iff_iff, List.find?_isSome, List.any_eq_true]
  constructor
  · rintro ⟨g, h1, h2⟩
    exact ⟨g, h1, (same_key _ _).symm.trans h2⟩
  · rintro ⟨g, h1, h2⟩
    exact ⟨g, h1, (same_key _ _).trans h2⟩
theorem datum_size (G : List Pair) : Maps.size (datum G) = G.length := by
  show (G.map entry).length = _
  simp
theorem datum_keys (G : List Pair) : strKeys (datum G) = G.map fun g => bl (pn g) := by
  show (G.map entry).map (fun p => strOf p.1) = _
  rw [List.map_map]
  rfl
/-- The keys of a sorted list, sorted once more. -/
theorem keys_sorted (G : List Pair) (hr : Rising pn G) (ss : List (List UInt8)) (hp : ss.Perm (strKeys (datum G))) : ss.mergeSort (fun x y => decide (x ≤ y)) = G.map fun g => bl (pn g) := by
  rw [mergeSort_of_perm hp, datum_keys]
  refine List.mergeSort_of_pairwise ?_
  rw [List.pairwise_map]
  refine hr.imp fun {a b} h => ?_
  rw [decide_eq_true_eq]
  exact List.le_of_lt ((less_iff _ _).1 h)
end Go.Proofs.YtoknflnoehmngaaDoor.Cell
