/-
  A batch in memory: its own block, its changes; lists of changes in memory.
-/
import Derived.Test.YtkbeppmjdjddhaaDoorProg
import Derived.Test.YtkbeppmjdjddhaaDoorBatchPlain
import Derived.Test.YtkbeppmjdjddhaaDoorNetsBase
import Derived.WalkKit
import Derived.WalkSpells
import Derived.WalkLawsBesides
import Derived.Lib.Hide
import Derived.Lib.Strings
import Derived.WalkSmall
import Derived.ShutString
import Derived.RegionTactic
import Derived.Deep.QuietTactic
import Derived.BigQuiet
import Derived.Laws.IdiomStrings
import Derived.Laws.BytesArg
import Derived.Laws.Rows
import Derived.Laws.Tables
import Derived.Laws.MakeOwn
import Derived.Maps.AppendAt
import Derived.Deep.RegionWith
import Derived.Deep.MidRow
namespace Go.Proofs.YtkbeppmjdjddhaaDoor.Batch
open Go Go.RowKit

abbrev chgT : TypeId := 30
abbrev refT : TypeId := 33
abbrev chsT : TypeId := 59
abbrev refsT : TypeId := 22
abbrev batT : TypeId := 65
abbrev ptr (b : Nat) : Value := .pointer (some ⟨b, 0, none⟩)

theorem addr_add (b off j : Nat) : (⟨b, off, none⟩ : Addr).add j = ⟨b, off + j, none⟩ := by unfold Addr.add; split <;> simp_all

/-- A block of memory that lies there whole, and may be written. -/
def Lies (w : World) (b : Nat) (cs : Array Value) (t : TypeId) : Prop := w.heap[b]? = some (.cells cs t (0, 0))
section
variable {w w' : World} {b c i : Nat} {cs : Array Value} {t : TypeId}
theorem Lies.lt (h : Lies w b cs t) : b < w.heap.size := by
  by_cases hl : b < w.heap.size
  · exact hl
  · have : w.heap[b]? = none := by simp; omega
    rw [Lies, this] at h
    cases h
theorem Lies.cell (h : Lies w b cs t) (j : Nat) : w.cell? ⟨b, j, none⟩ = cs[j]? := cell_of_row w b j cs t (0, 0) h
theorem Lies.free (h : Lies w b cs t) (j : Nat) : w.frozen? ⟨b, j, none⟩ = false := frozen_of_row w b j cs t h
theorem Lies.same (h : Lies w b cs t) (e : w'.heap[b]? = w.heap[b]?) : Lies w' b cs t := e.trans h
theorem Lies.new (w : World) (cs : Array Value) (t : TypeId) : Lies (w.alloc (.cells cs t)) w.heap.size cs t := heap_alloc_new w _
theorem Lies.set (h : Lies w b cs t) (i : Nat) (v : Value) : Lies (w.setCell ⟨b, i, none⟩ v) b (cs.setIfInBounds i v) t := heap_setCell_same w b i cs t v h
theorem Lies.other (h : Lies w b cs t) (v : Value) (hne : b ≠ c) : Lies (w.setCell ⟨c, i, none⟩ v) b cs t := by
  unfold Lies
  rw [heap_setCell_other w ⟨c, i, none⟩ b v hne]; exact h
end

/-- What of the blocks that were there may have turned: those of F alone. -/
structure Fr (F : Nat → Prop) (w w' : World) : Prop where
  os : w'.os = w.os
  tape : w'.tape = w.tape
  output : w'.output = w.output
  size : w.heap.size ≤ w'.heap.size
  block : ∀ k, k < w.heap.size → ¬ F k → w'.heap[k]? = w.heap[k]?
theorem Fr.refl (F : Nat → Prop) (w : World) : Fr F w w := ⟨rfl, rfl, rfl, Nat.le_refl _, fun _ _ _ => rfl⟩
theorem Fr.trans {F F' : Nat → Prop} {a b c : World} (h : Fr F a b) (k : Fr F' b c) (hF : ∀ i, i < a.heap.size → F' i → F i) : Fr F a c :=
  ⟨k.os.trans h.os, k.tape.trans h.tape, k.output.trans h.output, Nat.le_trans h.size k.size, fun i hi hn => (k.block i (Nat.lt_of_lt_of_le hi h.size) fun e => hn (hF i hi e)).trans (h.block i hi hn)⟩
theorem Fr.mono {F F' : Nat → Prop} {a b : World} (h : Fr F a b) (hF : ∀ i, i < a.heap.size → F i → F' i) : Fr F' a b :=
  ⟨h.os, h.tape, h.output, h.size, fun i hi hn => h.block i hi fun e => hn (hF i hi e)⟩
theorem Fr.of_below {F : Nat → Prop} {w w' : World} (h : Below w.heap.size w w') : Fr F w w' := ⟨h.os, h.tape, h.output, h.size, fun k hk _ => h.block k hk⟩
theorem Fr.below {F : Nat → Prop} {w w' : World} {B : Nat} (h : Fr F w w') (hB : B ≤ w.heap.size) (hF : ∀ k, F k → B ≤ k) : Below B w w' :=
  ⟨h.os, h.tape, h.output, h.size, fun k hk => h.block k (by omega) fun e => by have := hF k e; omega⟩
theorem Fr.setCell {F : Nat → Prop} {a w : World} (h : Fr F a w) {b i : Nat} (hb : b < a.heap.size → F b) (v : Value) : Fr F a (w.setCell ⟨b, i, none⟩ v) :=
  ⟨h.os, h.tape, h.output, by simpa [World.setCell] using h.size, fun k hk hn => (Below.heap_setCell _ _ _ _ (fun e => hn (by subst e; exact hb hk))).trans (h.block k hk hn)⟩
theorem Fr.one (w : World) (b i : Nat) (v : Value) : Fr (fun k => k = b) w (w.setCell ⟨b, i, none⟩ v) := Fr.setCell (F := fun k => k = b) (Fr.refl _ w) (fun _ => rfl) v
theorem Fr.alloc {F : Nat → Prop} {a w : World} (h : Fr F a w) (o : Obj) : Fr F a (w.alloc o) :=
  ⟨h.os, h.tape, h.output, by simpa using Nat.le_succ_of_le h.size, fun k hk hn => (Below.heap_alloc _ _ _ (Nat.lt_of_lt_of_le hk h.size)).trans (h.block k hk hn)⟩
theorem Fr.drew {F : Nat → Prop} {a w : World} (h : Fr F a w) : Fr F a w.drew := ⟨h.os, h.tape, h.output, h.size, h.block⟩
theorem Fr.drewN {F : Nat → Prop} {a w : World} (h : Fr F a w) (n : Nat) : Fr F a (w.drewN n) :=
  h.trans (Fr.of_below (F := fun _ => False) (below_drewN (Below.refl _ _) n)) fun _ _ e => e.elim
theorem Fr.grown {F : Nat → Prop} {a w w' : World} {row : Option Nat} (h : Fr F a w) (hg : w.grownBy w' row) (hr : ∀ k, row = some k → k < a.heap.size → F k) : Fr F a w' :=
  ⟨hg.os.trans h.os, hg.tape.trans h.tape, hg.output.trans h.output, Nat.le_trans h.size hg.size, fun k hk hn => (hg.block k (Nat.lt_of_lt_of_le hk h.size) fun e => hn (hr k e.symm hk)).trans (h.block k hk hn)⟩
theorem Fr.owns {F : Nat → Prop} {w w' : World} {B : Nat} {t : TypeId} {z n : Nat} {v : Value} {xs : List Value} (h : w.ownsRow B t z v n xs) (hf : Fr F w w') (hn : ∀ k, v.ownBlock = some k → ¬ F k) : w'.ownsRow B t z v n xs := by
  refine ⟨h.1, ?_⟩
  rcases h.2 with h2 | ⟨g, cap, cur, rfl, hb, hg, r⟩
  · exact .inl h2
  · refine .inr ⟨g, cap, cur, rfl, hb, ?_, r⟩
    rw [hf.block g (Array.getElem?_eq_some_iff.1 hg).1 (hn g rfl)]
    exact hg
theorem owns_set {w : World} {B : Nat} {t : TypeId} {z n : Nat} {v : Value} {xs : List Value} (h : w.ownsRow B t z v n xs) {g : Nat} (hg : v.ownBlock = some g) (i : Nat) (x : Value) (_hi : i < n * z) : (w.setCell ⟨g, i, none⟩ x).ownsRow B t z v n (xs.set i x) := by
  refine ⟨by rw [List.length_set]; exact h.1, ?_⟩
  rcases h.2 with ⟨rfl, _⟩ | ⟨g', cap, cur, rfl, hb, hh, h1, h2, h3, h4⟩
  · cases hg
  · obtain rfl : g' = g := by simpa [Value.ownBlock] using hg
    refine .inr ⟨g', cap, cur.setIfInBounds i x, rfl, hb, heap_setCell_same w g' i cur t x hh, h1, h2, by rw [Array.size_setIfInBounds]; exact h3, ?_⟩
    rw [Array.toList_setIfInBounds, List.take_set, h4]
theorem owns_slice {w : World} {B : Nat} {t : TypeId} {z n : Nat} {v : Value} {xs : List Value} (h : w.ownsRow B t z v n xs) : ∃ a c, v = .slice a n c := by
  rcases h.2 with ⟨rfl, rfl⟩ | ⟨g, cap, cur, rfl, _⟩
  · exact ⟨_, _, rfl⟩
  · exact ⟨_, _, rfl⟩

/-! Changes in memory. -/
def chC (c : Chg) : List Value := [.string c.key, .string c.val, .bool c.gone]
abbrev chV (c : Chg) : Value := .agg #[.string c.key, .string c.val, .bool c.gone]
abbrev boxC (t : TypeId) (c : Chg) : Obj := .cells #[.string c.key, .string c.val, .bool c.gone] t
theorem chC_length (c : Chg) : (chC c).length = 3 := rfl
theorem flat_length (q : List Chg) : (q.flatMap chC).length = q.length * 3 := by
  induction q with
  | nil => rfl
  | cons e q ih => rw [List.flatMap_cons, List.length_append, ih, chC_length, List.length_cons]; omega
theorem flat_get : ∀ (q : List Chg) (i : Nat) (e : Chg), q[i]? = some e → ∀ j, j < 3 → (q.flatMap chC)[i * 3 + j]? = (chC e)[j]?
  | [], _, _, h, _, _ => by simp at h
  | x :: q, 0, e, h, j, hj => by
    obtain rfl : x = e := by simpa using h
    rw [List.flatMap_cons, List.getElem?_append_left (by rw [chC_length]; omega)]
    simp
  | x :: q, i + 1, e, h, j, hj => by
    rw [List.flatMap_cons, List.getElem?_append_right (by rw [chC_length]; omega), chC_length, show (i + 1) * 3 + j - 3 = i * 3 + j by omega]
    exact flat_get q i e (by simpa using h) j hj
theorem flat_take : ∀ (q : List Chg) (i : Nat), (q.take i).flatMap chC = (q.flatMap chC).take (i * 3)
  | [], i => by simp
  | x :: q, 0 => by simp
  | x :: q, i + 1 => by
    rw [List.take_succ_cons, List.flatMap_cons, List.flatMap_cons, flat_take q i, List.take_append, chC_length, show (i + 1) * 3 - 3 = i * 3 by omega, List.take_of_length_le (l := chC x) (by rw [chC_length]; omega)]
theorem flat_drop : ∀ (q : List Chg) (i : Nat), (q.drop i).flatMap chC = (q.flatMap chC).drop (i * 3)
  | [], i => by simp
  | x :: q, 0 => by simp
  | x :: q, i + 1 => by
    rw [List.drop_succ_cons, List.flatMap_cons, flat_drop q i, List.drop_append, chC_length, show (i + 1) * 3 - 3 = i * 3 by omega, List.drop_eq_nil_of_le (show (chC x).length ≤ (i + 1) * 3 by rw [chC_length]; omega), List.nil_append]
theorem flat_snoc (l : List Chg) (e : Chg) : (l ++ [e]).flatMap chC = l.flatMap chC ++ chC e := by simp
theorem one_cell (c : Chg) : ∀ u ∈ chC c, u.oneCell' = true := by
  intro u hu
  unfold chC at hu
  simp only [List.mem_cons, List.not_mem_nil, or_false] at hu
  rcases hu with rfl | rfl | rfl <;> rfl
theorem flat_one (q : List Chg) : ∀ u ∈ q.flatMap chC, u.oneCell' = true := by
  intro u hu
  obtain ⟨c, _, hc⟩ := List.mem_flatMap.1 hu
  exact one_cell c u hc
/-- The three cells of a change. -/
theorem three {w : World} {b o : Nat} {e : Chg} (h : w.rangeAt b o (chC e)) : w.cell? ⟨b, o, none⟩ = some (.string e.key) ∧ w.cell? ⟨b, o + 1, none⟩ = some (.string e.val) ∧ w.cell? ⟨b, o + 2, none⟩ = some (.bool e.gone) :=
  ⟨h 0 _ rfl, h 1 _ rfl, h 2 _ rfl⟩
theorem range_below {w w' : World} {b o : Nat} {cs : List Value} (h : w.rangeAt b o cs) (hl : b < w.heap.size) (hb : Below w.heap.size w w') : w'.rangeAt b o cs := fun j v hv => by
  rw [hb.cell (p := ⟨b, o + j, none⟩) hl]
  exact h j v hv

/-- The value is a slice that reads as these changes. -/
def ReadsC (w : World) (v : Value) (q : List Chg) : Prop :=
  (∃ a cap, v = .slice a 0 cap ∧ q = []) ∨
  (0 < q.length ∧ ∃ b off cap, v = .slice (some ⟨b, off, none⟩) q.length cap ∧ b < w.heap.size ∧ ∀ i e, q[i]? = some e → w.rangeAt b (off + i * 3) (chC e))
theorem ReadsC.below {w w' : World} {v : Value} {q : List Chg} (h : ReadsC w v q) (hb : Below w.heap.size w w') : ReadsC w' v q := by
  rcases h with h | ⟨h0, b, off, cap, rfl, h3, h4⟩
  · exact .inl h
  · exact .inr ⟨h0, b, off, cap, rfl, by have := hb.size; omega, fun i e hi => range_below (h4 i e hi) h3 hb⟩
theorem ReadsC.frame {F : Nat → Prop} {w w' : World} {v : Value} {q : List Chg} (h : ReadsC w v q) (hf : Fr F w w') (hn : ∀ k, v.ownBlock = some k → ¬ F k) : ReadsC w' v q := by
  rcases h with h | ⟨h0, b, off, cap, rfl, h3, h4⟩
  · exact .inl h
  · refine .inr ⟨h0, b, off, cap, rfl, by have := hf.size; omega, fun i e hi j x hx => ?_⟩
    have hb := hf.block b h3 (hn b rfl)
    rw [World.cell?_of_block (a := ⟨b, off + i * 3 + j, none⟩) hb]
    exact h4 i e hi j x hx
theorem owns_reads {w : World} {B : Nat} {t : TypeId} {v : Value} {q : List Chg} (h : w.ownsRow B t 3 v q.length (q.flatMap chC)) : ReadsC w v q := by
  have hc := fun g hg => h.cells (g := g) hg
  have hlt := h.lt
  rcases h.2 with ⟨rfl, hn⟩ | ⟨g, cap, cur, rfl, hb, hg, h1, h2, _, _⟩
  · exact .inl ⟨none, 0, rfl, List.length_eq_zero_iff.1 hn⟩
  · by_cases h0 : q.length = 0
    · exact .inl ⟨some ⟨g, 0, none⟩, cap, by rw [h0], List.length_eq_zero_iff.1 h0⟩
    · refine .inr ⟨by omega, g, 0, cap, rfl, (hlt g rfl).2, fun i e hi j v hv => ?_⟩
      have hj : j < 3 := by
        have := (List.getElem?_eq_some_iff.1 hv).1
        rw [chC_length] at this
        exact this
      have e1 := hc g rfl (i * 3 + j) v (by rw [flat_get q i e hi j hj]; exact hv)
      rw [addr_add] at e1
      rw [← e1]
      congr 2
      omega
theorem size3 : (Tryd.prog.info? chgT).map (·.size) = some 3 := by kernel_rfl
theorem sizeR : (Tryd.prog.info? refT).map (·.size) = some 3 := by kernel_rfl
theorem infoC : (Tryd.prog.info? chgT).map (fun i => (i.zero, i.size, i.bytes)) = some (some (.agg #[.string ⟨#[]⟩, .string ⟨#[]⟩, .bool false]), 3, 40) := by kernel_rfl
theorem infoR : (Tryd.prog.info? refT).map (fun i => (i.zero, i.size, i.bytes)) = some (some (.agg #[.string ⟨#[]⟩, .string ⟨#[]⟩, .bool false]), 3, 40) := by kernel_rfl
theorem new_box (w : World) (t : TypeId) (c : Chg) : (w.alloc (boxC t c)).rangeAt w.heap.size 0 (chC c) := by
  intro j u h
  have hb := heap_alloc_new w (boxC t c)
  simp only [World.cell?, hb, Nat.zero_add]
  unfold chC at h
  match j, h with
  | 0, h => simpa using h
  | 1, h => simpa using h
  | 2, h => simpa using h
  | j + 3, h => simp at h
theorem nil_reads (w : World) : ReadsC w (.slice none 0 0) [] := .inl ⟨none, 0, rfl, rfl⟩
theorem key_eq (x y : ByteArray) : (x.toList == y.toList) = decide (x = y) := by
  rw [Bool.eq_iff_iff]
  simp only [beq_iff_eq, decide_eq_true_eq]
  rw [Lib.toList_data, Lib.toList_data]
  constructor
  · intro h
    exact ByteArray.ext (Array.toList_inj.1 h)
  · intro h; rw [h]

/-! A batch. -/
structure Bt where
  B : Nat
  pb : Nat
  cv : Value
def own (d : Bt) (k : Nat) : Prop := k = d.pb ∨ d.cv.ownBlock = some k
structure Mem (w : World) (d : Bt) (q : List Chg) : Prop where
  self : Lies w d.pb #[d.cv] batT
  owns : w.ownsRow d.B chgT 3 d.cv q.length (q.flatMap chC)
  ne : ∀ k, d.cv.ownBlock = some k → k ≠ d.pb
  low : d.B ≤ d.pb
section
variable {w w' : World} {d : Bt} {q : List Chg}
theorem Mem.own_lt (h : Mem w d q) {k : Nat} (hk : own d k) : k < w.heap.size ∧ d.B ≤ k := by
  rcases hk with rfl | hk
  · exact ⟨h.self.lt, h.low⟩
  · have := h.owns.lt k hk; exact ⟨this.2, this.1⟩
theorem Mem.cell (h : Mem w d q) : w.cell? ⟨d.pb, 0, none⟩ = some d.cv := h.self.cell 0
theorem Mem.free (h : Mem w d q) : w.frozen? ⟨d.pb, 0, none⟩ = false := h.self.free 0
theorem Mem.reads (h : Mem w d q) : ReadsC w d.cv q := owns_reads h.owns
theorem Mem.frame {F : Nat → Prop} (h : Mem w d q) (hf : Fr F w w') (hF : ∀ k, F k → ¬ own d k) : Mem w' d q :=
  ⟨h.self.same (hf.block _ h.self.lt fun e => hF _ e (.inl rfl)), Fr.owns h.owns hf fun k hk e => hF k e (.inr hk), h.ne, h.low⟩
theorem Mem.below (h : Mem w d q) (hb : Below w.heap.size w w') : Mem w' d q := h.frame (F := fun _ => False) (Fr.of_below hb) fun _ e => e.elim
theorem Mem.drew (h : Mem w d q) : Mem w.drew d q := ⟨h.self, h.owns, h.ne, h.low⟩
theorem Mem.alloc (h : Mem w d q) (o : Obj) : Mem (w.alloc o) d q := h.below ((Below.refl _ _).alloc (Nat.le_refl _) _)
/-- The list turned: one that is owned, in a block of its own. -/
theorem Mem.setV (h : Mem w d q) (cv : Value) (q' : List Chg) (ho : w.ownsRow d.B chgT 3 cv q'.length (q'.flatMap chC)) (hc : ∀ k, cv.ownBlock = some k → k ≠ d.pb) :
    Mem (w.setCell ⟨d.pb, 0, none⟩ cv) { d with cv := cv } q' :=
  ⟨h.self.set 0 cv, Fr.owns (F := fun k => k = d.pb) ho (Fr.one w _ _ _) fun k hk e => hc k hk e, hc, h.low⟩

/-- A call on a batch: what may have turned. -/
structure Step (w : World) (d : Bt) (w' : World) (d' : Bt) : Prop where
  fr : Fr (own d) w w'
  B : d'.B = d.B
  pb : d'.pb = d.pb
  cv : ∀ k, d'.cv.ownBlock = some k → d.cv.ownBlock = some k ∨ w.heap.size ≤ k
theorem Step.refl (w : World) (d : Bt) : Step w d w d := ⟨Fr.refl _ _, rfl, rfl, fun _ h => .inl h⟩
theorem Step.own {d' : Bt} (h : Step w d w' d') {k : Nat} (hk : own d' k) : own d k ∨ w.heap.size ≤ k := by
  rcases hk with rfl | hk
  · exact .inl (.inl h.pb)
  · rcases h.cv k hk with e | e
    · exact .inl (.inr e)
    · exact .inr e
theorem Step.trans {d' d2 : Bt} {w2 : World} (h : Step w d w' d') (k : Step w' d' w2 d2) : Step w d w2 d2 := by
  refine ⟨h.fr.trans k.fr fun i hi e => ?_, k.B.trans h.B, k.pb.trans h.pb, fun i e => ?_⟩
  · rcases h.own e with e | e
    · exact e
    · omega
  · rcases k.cv i e with e | e
    · exact h.cv i e
    · exact .inr (Nat.le_trans h.fr.size e)
theorem Step.of_below (d : Bt) (h : Below w.heap.size w w') : Step w d w' d := ⟨Fr.of_below h, rfl, rfl, fun _ h => .inl h⟩
theorem Step.below {d' : Bt} (h : Step w d w' d') (hm : Mem w d q) {B : Nat} (hB : B ≤ d.B) : Below B w w' := by
  have h1 := hm.own_lt (k := d.pb) (.inl rfl)
  exact h.fr.below (by omega) fun k hk => Nat.le_trans hB (hm.own_lt hk).2
end

/-! The first walks: New, Len, Clear. -/
theorem new_any (w : World) : Calls Tryd.prog 8 #[] w fun e w' => ∃ d, e = .returned (ptr d.pb) ∧ d.pb = w.heap.size ∧ d.B = w.heap.size ∧ Mem w' d [] ∧ Below w.heap.size w w' := by
  go_enter Tryd.func8, Tryd.ntmps8
  go_wp2
  go_ret
  exact ⟨⟨w.heap.size, w.heap.size, .slice none 0 0⟩, rfl, rfl, rfl, ⟨Lies.new w _ _, World.ownsRow_nil _ _ _ _, fun k hk => (by cases hk), Nat.le_refl _⟩, (Below.refl _ _).alloc (Nat.le_refl _) _⟩
section
variable {w : World} {d : Bt} {q : List Chg}
theorem len_any (h : Mem w d q) : Calls Tryd.prog 19 #[ptr d.pb] w fun e w' => e = .returned (.int .i64 q.length) ∧ w = w' := by
  have hc := h.cell
  obtain ⟨a, c, hv⟩ := owns_slice h.owns
  rw [hv] at hc
  go_enter Tryd.func19, Tryd.ntmps19
  go_wp2
  go_ret
  exact ⟨rfl, rfl⟩
theorem clear_any (h : Mem w d q) : Calls Tryd.prog 18 #[ptr d.pb] w fun e w' => e = .returned (.tuple #[]) ∧ Mem w' { d with cv := .slice none 0 0 } [] ∧ Step w d w' { d with cv := .slice none 0 0 } := by
  have hc := h.cell
  have hf := h.free
  go_enter Tryd.func18, Tryd.ntmps18
  go_wp2
  go_end0
  exact ⟨rfl, h.setV _ [] (World.ownsRow_nil _ _ _ _) (fun k hk => (by cases hk)), (Fr.refl _ w).setCell (fun _ => .inl rfl) _, rfl, rfl, fun k hk => (by cases hk)⟩
end
end Go.Proofs.YtkbeppmjdjddhaaDoor.Batch
