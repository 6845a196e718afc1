/-
  A disk in memory: its own block, what is durable, what is read, its cache.
-/
import Derived.Test.YtebiebbbkdbffaaProg
import Derived.Test.YtebiebbbkdbffaaDiskPlain
import Derived.Test.YtebiebbbkdbffaaShaKept
import Derived.WalkKit
import Derived.WalkSpells
import Derived.WalkLawsBesides
import Derived.Lib.Hide
import Derived.Lib.Strings
import Derived.WalkSmall
import Derived.ShutString
import Derived.RegionTactic
import Derived.Deep.QuietTactic
import Derived.BigQuiet
import Derived.Laws.IdiomStrings
import Derived.Laws.BytesArg
import Derived.Laws.Rows
import Derived.Laws.Tables
import Derived.Laws.MakeOwn
import Derived.Maps.AppendAt
import Derived.Deep.RegionWith
import Derived.Deep.MidRow
namespace Go.Proofs.Ytebiebbbkdbffaa.Disk
open Go Go.RowKit

abbrev strT : TypeId := 9
abbrev wrT : TypeId := 70
abbrev diskT : TypeId := 55
abbrev ptr (b : Nat) : Value := .pointer (some ⟨b, 0, none⟩)

theorem addr_add (b off j : Nat) : (⟨b, off, none⟩ : Addr).add j = ⟨b, off + j, none⟩ := by unfold Addr.add; split <;> simp_all

/-- A block of memory that lies there whole, and may be written. -/
def Lies (w : World) (b : Nat) (cs : Array Value) (t : TypeId) : Prop := w.heap[b]? = some (.cells cs t (0, 0))
section
variable {w w' : World} {b c i : Nat} {cs : Array Value} {t : TypeId}
theorem Lies.lt (h : Lies w b cs t) : b < w.heap.size := by
  by_cases hl : b < w.heap.size
  · exact hl
  · have : w.heap[b]? = none := by simp; omega
    rw [Lies, this] at h
    cases h
theorem Lies.cell (h : Lies w b cs t) (j : Nat) : w.cell? ⟨b, j, none⟩ = cs[j]? := cell_of_row w b j cs t (0, 0) h
theorem Lies.free (h : Lies w b cs t) (j : Nat) : w.frozen? ⟨b, j, none⟩ = false := frozen_of_row w b j cs t h
theorem Lies.same (h : Lies w b cs t) (e : w'.heap[b]? = w.heap[b]?) : Lies w' b cs t := e.trans h
theorem Lies.new (w : World) (cs : Array Value) (t : TypeId) : Lies (w.alloc (.cells cs t)) w.heap.size cs t := heap_alloc_new w _
theorem Lies.set (h : Lies w b cs t) (i : Nat) (v : Value) : Lies (w.setCell ⟨b, i, none⟩ v) b (cs.setIfInBounds i v) t := heap_setCell_same w b i cs t v h
theorem Lies.other (h : Lies w b cs t) (v : Value) (hne : b ≠ c) : Lies (w.setCell ⟨c, i, none⟩ v) b cs t := by
  unfold Lies
  rw [heap_setCell_other w ⟨c, i, none⟩ b v hne]; exact h
end

/-- What of the blocks that were there may have turned: those of F alone. -/
structure Fr (F : Nat → Prop) (w w' : World) : Prop where
  os : w'.os = w.os
  tape : w'.tape = w.tape
  output : w'.output = w.output
  size : w.heap.size ≤ w'.heap.size
  block : ∀ k, k < w.heap.size → ¬ F k → w'.heap[k]? = w.heap[k]?
theorem Fr.refl (F : Nat → Prop) (w : World) : Fr F w w := ⟨rfl, rfl, rfl, Nat.le_refl _, fun _ _ _ => rfl⟩
theorem Fr.trans {F F' : Nat → Prop} {a b c : World} (h : Fr F a b) (k : Fr F' b c) (hF : ∀ i, i < a.heap.size → F' i → F i) : Fr F a c :=
  ⟨k.os.trans h.os, k.tape.trans h.tape, k.output.trans h.output, Nat.le_trans h.size k.size, fun i hi hn => (k.block i (Nat.lt_of_lt_of_le hi h.size) fun e => hn (hF i hi e)).trans (h.block i hi hn)⟩
theorem Fr.mono {F F' : Nat → Prop} {a b : World} (h : Fr F a b) (hF : ∀ i, i < a.heap.size → F i → F' i) : Fr F' a b :=
  ⟨h.os, h.tape, h.output, h.size, fun i hi hn => h.block i hi fun e => hn (hF i hi e)⟩
theorem Fr.of_below {F : Nat → Prop} {w w' : World} (h : Below w.heap.size w w') : Fr F w w' := ⟨h.os, h.tape, h.output, h.size, fun k hk _ => h.block k hk⟩
theorem Fr.below {F : Nat → Prop} {w w' : World} {B : Nat} (h : Fr F w w') (hB : B ≤ w.heap.size) (hF : ∀ k, F k → B ≤ k) : Below B w w' :=
  ⟨h.os, h.tape, h.output, h.size, fun k hk => h.block k (by omega) fun e => by have := hF k e; omega⟩
theorem Fr.setCell {F : Nat → Prop} {a w : World} (h : Fr F a w) {b i : Nat} (hb : b < a.heap.size → F b) (v : Value) : Fr F a (w.setCell ⟨b, i, none⟩ v) :=
  ⟨h.os, h.tape, h.output, by simpa [World.setCell] using h.size, fun k hk hn => (Below.heap_setCell _ _ _ _ (fun e => hn (by subst e; exact hb hk))).trans (h.block k hk hn)⟩
theorem Fr.one (w : World) (b i : Nat) (v : Value) : Fr (fun k => k = b) w (w.setCell ⟨b, i, none⟩ v) := Fr.setCell (F := fun k => k = b) (Fr.refl _ w) (fun _ => rfl) v
theorem Fr.alloc {F : Nat → Prop} {a w : World} (h : Fr F a w) (o : Obj) : Fr F a (w.alloc o) :=
  ⟨h.os, h.tape, h.output, by simpa using Nat.le_succ_of_le h.size, fun k hk hn => (Below.heap_alloc _ _ _ (Nat.lt_of_lt_of_le hk h.size)).trans (h.block k hk hn)⟩
theorem Fr.drew {F : Nat → Prop} {a w : World} (h : Fr F a w) : Fr F a w.drew := ⟨h.os, h.tape, h.output, h.size, h.block⟩
theorem Fr.drewN {F : Nat → Prop} {a w : World} (h : Fr F a w) (n : Nat) : Fr F a (w.drewN n) :=
  h.trans (Fr.of_below (F := fun _ => False) (below_drewN (Below.refl _ _) n)) fun _ _ e => e.elim
theorem Fr.grown {F : Nat → Prop} {a w w' : World} {row : Option Nat} (h : Fr F a w) (hg : w.grownBy w' row) (hr : ∀ k, row = some k → k < a.heap.size → F k) : Fr F a w' :=
  ⟨hg.os.trans h.os, hg.tape.trans h.tape, hg.output.trans h.output, Nat.le_trans h.size hg.size, fun k hk hn => (hg.block k (Nat.lt_of_lt_of_le hk h.size) fun e => hn (hr k e.symm hk)).trans (h.block k hk hn)⟩
theorem Fr.owns {F : Nat → Prop} {w w' : World} {B : Nat} {t : TypeId} {z n : Nat} {v : Value} {xs : List Value} (h : w.ownsRow B t z v n xs) (hf : Fr F w w') (hn : ∀ k, v.ownBlock = some k → ¬ F k) : w'.ownsRow B t z v n xs := by
  refine ⟨h.1, ?_⟩
  rcases h.2 with h2 | ⟨g, cap, cur, rfl, hb, hg, r⟩
  · exact .inl h2
  · refine .inr ⟨g, cap, cur, rfl, hb, ?_, r⟩
    rw [hf.block g (Array.getElem?_eq_some_iff.1 hg).1 (hn g rfl)]
    exact hg
theorem owns_set {w : World} {B : Nat} {t : TypeId} {z n : Nat} {v : Value} {xs : List Value} (h : w.ownsRow B t z v n xs) {g : Nat} (hg : v.ownBlock = some g) (i : Nat) (x : Value) (_hi : i < n * z) : (w.setCell ⟨g, i, none⟩ x).ownsRow B t z v n (xs.set i x) := by
  refine ⟨by rw [List.length_set]; exact h.1, ?_⟩
  rcases h.2 with ⟨rfl, _⟩ | ⟨g', cap, cur, rfl, hb, hh, h1, h2, h3, h4⟩
  · cases hg
  · obtain rfl : g' = g := by simpa [Value.ownBlock] using hg
    refine .inr ⟨g', cap, cur.setIfInBounds i x, rfl, hb, heap_setCell_same w g' i cur t x hh, h1, h2, by rw [Array.size_setIfInBounds]; exact h3, ?_⟩
    rw [Array.toList_setIfInBounds, List.take_set, h4]
theorem owns_slice {w : World} {B : Nat} {t : TypeId} {z n : Nat} {v : Value} {xs : List Value} (h : w.ownsRow B t z v n xs) : ∃ a c, v = .slice a n c := by
  rcases h.2 with ⟨rfl, rfl⟩ | ⟨g, cap, cur, rfl, _⟩
  · exact ⟨_, _, rfl⟩
  · exact ⟨_, _, rfl⟩

/-! A disk. -/
structure Raw where
  z : Nat
  dur : List ByteArray
  con : List ByteArray
  cache : List Wr
  left : Int
  full : Bool
  off : Bool
  ops : Nat
structure Dk where
  B : Nat
  pb : Nat
  db : Nat
  cb : Nat
  cv : Value
def wC (x : Wr) : List Value := [.int .i64 x.p, .string x.s]
def strs (L : List ByteArray) : Array Value := (L.map Value.string).toArray
def cellsD (d : Dk) (R : Raw) : Array Value := #[.int .i64 R.z, .slice (some ⟨d.db, 0, none⟩) R.dur.length R.dur.length, .slice (some ⟨d.cb, 0, none⟩) R.con.length R.con.length, d.cv, .int .i64 R.left, .bool R.full, .bool R.off, .int .i64 R.ops]
def own (d : Dk) (k : Nat) : Prop := k = d.pb ∨ k = d.db ∨ k = d.cb ∨ d.cv.ownBlock = some k
theorem Fr.pbAt {d : Dk} {a w : World} (h : Fr (own d) a w) (i : Nat) (v : Value) : Fr (own d) a (w.setCell ⟨d.pb, i, none⟩ v) := h.setCell (fun _ => .inl rfl) v
theorem Fr.dbAt {d : Dk} {a w : World} (h : Fr (own d) a w) (i : Nat) (v : Value) : Fr (own d) a (w.setCell ⟨d.db, i, none⟩ v) := h.setCell (fun _ => .inr (.inl rfl)) v
theorem Fr.cbAt {d : Dk} {a w : World} (h : Fr (own d) a w) (i : Nat) (v : Value) : Fr (own d) a (w.setCell ⟨d.cb, i, none⟩ v) := h.setCell (fun _ => .inr (.inr (.inl rfl))) v
/-- A disk lies in memory. -/
structure Mem (w : World) (d : Dk) (R : Raw) : Prop where
  self : Lies w d.pb (cellsD d R) diskT
  dur : Lies w d.db (strs R.dur) strT
  con : Lies w d.cb (strs R.con) strT
  cache : w.ownsRow d.B wrT 2 d.cv R.cache.length (R.cache.flatMap wC)
  ne : d.pb ≠ d.db ∧ d.pb ≠ d.cb ∧ d.db ≠ d.cb
  cv : ∀ k, d.cv.ownBlock = some k → k ≠ d.pb ∧ k ≠ d.db ∧ k ≠ d.cb
  low : d.B ≤ d.pb ∧ d.B ≤ d.db ∧ d.B ≤ d.cb
theorem wC_length (x : Wr) : (wC x).length = 2 := rfl
theorem flat_length : ∀ ws : List Wr, (ws.flatMap wC).length = ws.length * 2
  | [] => rfl
  | w :: ws => by rw [List.flatMap_cons, List.length_append, flat_length ws, wC_length, List.length_cons]; omega
theorem flat_get : ∀ (ws : List Wr) (k : Nat) (x : Wr) (j : Nat), ws[k]? = some x → j < 2 → (ws.flatMap wC)[k * 2 + j]? = (wC x)[j]?
  | [], k, x, j, h, _ => by simp at h
  | y :: ws, 0, x, j, h, hj => by
    obtain rfl : y = x := by simpa using h
    rw [List.flatMap_cons, Nat.zero_mul, Nat.zero_add, List.getElem?_append_left (by rw [wC_length]; exact hj)]
  | y :: ws, k + 1, x, j, h, hj => by
    rw [List.flatMap_cons, show (k + 1) * 2 + j = 2 + (k * 2 + j) by omega, List.getElem?_append_right (by rw [wC_length]; omega), wC_length, show 2 + (k * 2 + j) - 2 = k * 2 + j by omega]
    exact flat_get ws k x j (by simpa using h) hj
theorem strs_size (L : List ByteArray) : (strs L).size = L.length := by simp [strs]
theorem strs_get {L : List ByteArray} {i : Nat} (h : i < L.length) : (strs L)[i]? = some (.string (at0 L i)) := by
  unfold strs at0
  simp [List.getD_eq_getElem?_getD, h]
theorem strs_set (L : List ByteArray) (i : Nat) (s : ByteArray) : (strs L).setIfInBounds i (.string s) = strs (L.set i s) := by
  apply Array.ext'
  unfold strs
  rw [Array.toList_setIfInBounds, List.map_set]

section
variable {w w' : World} {d : Dk} {R : Raw}
theorem Mem.lts (h : Mem w d R) : d.pb < w.heap.size ∧ d.db < w.heap.size ∧ d.cb < w.heap.size := ⟨h.self.lt, h.dur.lt, h.con.lt⟩
theorem Mem.own_lt (h : Mem w d R) {k : Nat} (hk : own d k) : k < w.heap.size ∧ d.B ≤ k := by
  rcases hk with rfl | rfl | rfl | hk
  · exact ⟨h.self.lt, h.low.1⟩
  · exact ⟨h.dur.lt, h.low.2.1⟩
  · exact ⟨h.con.lt, h.low.2.2⟩
  · have := h.cache.lt k hk; exact ⟨this.2, this.1⟩
/-- The eight cells. -/
theorem Mem.cells (h : Mem w d R) : w.cell? ⟨d.pb, 0, none⟩ = some (.int .i64 R.z) ∧ w.cell? ⟨d.pb, 1, none⟩ = some (.slice (some ⟨d.db, 0, none⟩) R.dur.length R.dur.length) ∧
    w.cell? ⟨d.pb, 2, none⟩ = some (.slice (some ⟨d.cb, 0, none⟩) R.con.length R.con.length) ∧ w.cell? ⟨d.pb, 3, none⟩ = some d.cv ∧ w.cell? ⟨d.pb, 4, none⟩ = some (.int .i64 R.left) ∧
    w.cell? ⟨d.pb, 5, none⟩ = some (.bool R.full) ∧ w.cell? ⟨d.pb, 6, none⟩ = some (.bool R.off) ∧ w.cell? ⟨d.pb, 7, none⟩ = some (.int .i64 R.ops) :=
  ⟨h.self.cell 0, h.self.cell 1, h.self.cell 2, h.self.cell 3, h.self.cell 4, h.self.cell 5, h.self.cell 6, h.self.cell 7⟩
theorem Mem.free (h : Mem w d R) (j : Nat) : w.frozen? ⟨d.pb, j, none⟩ = false := h.self.free j
theorem Mem.durAt (h : Mem w d R) {i : Nat} (hi : i < R.dur.length) : w.cell? ⟨d.db, i, none⟩ = some (.string (at0 R.dur i)) := (h.dur.cell i).trans (strs_get hi)
theorem Mem.conAt (h : Mem w d R) {i : Nat} (hi : i < R.con.length) : w.cell? ⟨d.cb, i, none⟩ = some (.string (at0 R.con i)) := (h.con.cell i).trans (strs_get hi)
theorem Mem.shape (h : Mem w d R) : ∃ a c, d.cv = .slice a R.cache.length c := owns_slice h.cache
/-- The two cells of a write of the cache. -/
theorem owns_write {w : World} {B : Nat} {t : TypeId} {v : Value} {ws : List Wr} (h : w.ownsRow B t 2 v ws.length (ws.flatMap wC)) {k : Nat} {x : Wr} (hk : ws[k]? = some x) :
    ∃ g c, v = .slice (some ⟨g, 0, none⟩) ws.length c ∧ v.ownBlock = some g ∧ w.cell? ⟨g, k * 2, none⟩ = some (.int .i64 x.p) ∧ w.cell? ⟨g, k * 2 + 1, none⟩ = some (.string x.s) ∧ w.rangeAt g (k * 2) [.int .i64 x.p, .string x.s] := by
  have hl : k < ws.length := (List.getElem?_eq_some_iff.1 hk).1
  rcases h.2 with ⟨_, h0⟩ | ⟨g, c, cur, rfl, _⟩
  · omega
  · have c0 := h.cells (g := g) rfl (k * 2 + 0) (.int .i64 x.p) (by rw [flat_get ws k x 0 hk (by omega)]; rfl)
    have c1 := h.cells (g := g) rfl (k * 2 + 1) (.string x.s) (by rw [flat_get ws k x 1 hk (by omega)]; rfl)
    rw [addr_add, Nat.zero_add] at c0 c1
    refine ⟨g, c, rfl, rfl, c0, c1, fun j y hy => ?_⟩
    match j, hy with
    | 0, hy => obtain rfl : Value.int .i64 x.p = y := by simpa using hy
               exact c0
    | 1, hy => obtain rfl : Value.string x.s = y := by simpa using hy
               exact c1
/-- .. while other blocks turn. -/
theorem Mem.frame {F : Nat → Prop} (h : Mem w d R) (hf : Fr F w w') (hF : ∀ k, F k → ¬ own d k) : Mem w' d R := by
  refine ⟨h.self.same (hf.block _ h.self.lt fun e => hF _ e (.inl rfl)), h.dur.same (hf.block _ h.dur.lt fun e => hF _ e (.inr (.inl rfl))), h.con.same (hf.block _ h.con.lt fun e => hF _ e (.inr (.inr (.inl rfl)))),
    Fr.owns h.cache hf fun k hk e => hF k e (.inr (.inr (.inr hk))), h.ne, h.cv, h.low⟩
theorem Mem.below (h : Mem w d R) (hb : Below w.heap.size w w') : Mem w' d R := h.frame (F := fun _ => False) (Fr.of_below hb) fun _ e => e.elim
theorem Mem.drew (h : Mem w d R) : Mem w.drew d R := ⟨h.self, h.dur, h.con, h.cache, h.ne, h.cv, h.low⟩
theorem Mem.drewN (h : Mem w d R) (n : Nat) : Mem (w.drewN n) d R := h.below (below_drewN (Below.refl _ _) n)
theorem Mem.alloc (h : Mem w d R) (o : Obj) : Mem (w.alloc o) d R := h.below ((Below.refl _ _).alloc (Nat.le_refl _) _)
/-- A store into one of its cells. -/
theorem Mem.setSelf (h : Mem w d R) (j : Nat) (v : Value) (R' : Raw) (he : (cellsD d R).setIfInBounds j v = cellsD d R') (h1 : R'.dur = R.dur) (h2 : R'.con = R.con) (h3 : R'.cache = R.cache) : Mem (w.setCell ⟨d.pb, j, none⟩ v) d R' := by
  refine ⟨by rw [← he]; exact h.self.set j v, by rw [h1]; exact h.dur.other v (fun e => h.ne.1 e.symm), by rw [h2]; exact h.con.other v (fun e => h.ne.2.1 e.symm), ?_, h.ne, h.cv, h.low⟩
  rw [h3]
  refine Fr.owns (F := fun k => k = d.pb) h.cache (Fr.one w _ _ _) fun k hk e => (h.cv k hk).1 e
theorem Mem.setLeft (h : Mem w d R) (x : Int) : Mem (w.setCell ⟨d.pb, 4, none⟩ (.int .i64 x)) d { R with left := x } := h.setSelf 4 _ _ rfl rfl rfl rfl
theorem Mem.setFull (h : Mem w d R) (x : Bool) : Mem (w.setCell ⟨d.pb, 5, none⟩ (.bool x)) d { R with full := x } := h.setSelf 5 _ _ rfl rfl rfl rfl
theorem Mem.setOff (h : Mem w d R) (x : Bool) : Mem (w.setCell ⟨d.pb, 6, none⟩ (.bool x)) d { R with off := x } := h.setSelf 6 _ _ rfl rfl rfl rfl
theorem Mem.setOps (h : Mem w d R) (x : Nat) : Mem (w.setCell ⟨d.pb, 7, none⟩ (.int .i64 x)) d { R with ops := x } := h.setSelf 7 _ _ rfl rfl rfl rfl
/-- The cache turned: one that is owned, in a block of its own. -/
theorem Mem.setCache (h : Mem w d R) (cv : Value) (ws : List Wr) (ho : w.ownsRow d.B wrT 2 cv ws.length (ws.flatMap wC)) (hc : ∀ k, cv.ownBlock = some k → k ≠ d.pb ∧ k ≠ d.db ∧ k ≠ d.cb) :
    Mem (w.setCell ⟨d.pb, 3, none⟩ cv) { d with cv := cv } { R with cache := ws } :=
  ⟨h.self.set 3 cv, h.dur.other cv (fun e => h.ne.1 e.symm), h.con.other cv (fun e => h.ne.2.1 e.symm),
    Fr.owns (F := fun k => k = d.pb) ho (Fr.one w _ _ _) fun k hk e => (hc k hk).1 e, h.ne, hc, h.low⟩
theorem Mem.setDur (h : Mem w d R) (i : Nat) (s : ByteArray) : Mem (w.setCell ⟨d.db, i, none⟩ (.string s)) d { R with dur := R.dur.set i s } := by
  refine ⟨?_, ?_, h.con.other _ (fun e => h.ne.2.2 e.symm), ?_, h.ne, h.cv, h.low⟩
  · have : cellsD d { R with dur := R.dur.set i s } = cellsD d R := by simp [cellsD]
    rw [this]
    exact h.self.other _ h.ne.1
  · rw [← strs_set]; exact h.dur.set i _
  · exact Fr.owns (F := fun k => k = d.db) h.cache (Fr.one w _ _ _) fun k hk e => (h.cv k hk).2.1 e
theorem Mem.setCon (h : Mem w d R) (i : Nat) (s : ByteArray) : Mem (w.setCell ⟨d.cb, i, none⟩ (.string s)) d { R with con := R.con.set i s } := by
  refine ⟨?_, h.dur.other _ h.ne.2.2, ?_, ?_, h.ne, h.cv, h.low⟩
  · have : cellsD d { R with con := R.con.set i s } = cellsD d R := by simp [cellsD]
    rw [this]
    exact h.self.other _ h.ne.2.1
  · rw [← strs_set]; exact h.con.set i _
  · exact Fr.owns (F := fun k => k = d.cb) h.cache (Fr.one w _ _ _) fun k hk e => (h.cv k hk).2.2 e

/-- A call on a disk: what may have turned. -/
structure Step (w : World) (d : Dk) (w' : World) (d' : Dk) : Prop where
  fr : Fr (own d) w w'
  B : d'.B = d.B
  pb : d'.pb = d.pb
  db : d'.db = d.db
  cb : d'.cb = d.cb
  cv : ∀ k, d'.cv.ownBlock = some k → d.cv.ownBlock = some k ∨ w.heap.size ≤ k
theorem Step.refl (w : World) (d : Dk) : Step w d w d := ⟨Fr.refl _ _, rfl, rfl, rfl, rfl, fun _ h => .inl h⟩
theorem Step.own {d' : Dk} (h : Step w d w' d') {k : Nat} (hk : own d' k) : own d k ∨ w.heap.size ≤ k := by
  rcases hk with rfl | rfl | rfl | hk
  · exact .inl (.inl h.pb)
  · exact .inl (.inr (.inl h.db))
  · exact .inl (.inr (.inr (.inl h.cb)))
  · rcases h.cv k hk with e | e
    · exact .inl (.inr (.inr (.inr e)))
    · exact .inr e
theorem Step.trans {d' d2 : Dk} {w2 : World} (h : Step w d w' d') (k : Step w' d' w2 d2) : Step w d w2 d2 := by
  refine ⟨h.fr.trans k.fr fun i hi e => ?_, k.B.trans h.B, k.pb.trans h.pb, k.db.trans h.db, k.cb.trans h.cb, fun i e => ?_⟩
  · rcases h.own e with e | e
    · exact e
    · omega
  · rcases k.cv i e with e | e
    · exact h.cv i e
    · exact .inr (Nat.le_trans h.fr.size e)
theorem Step.of_below (d : Dk) (h : Below w.heap.size w w') : Step w d w' d := ⟨Fr.of_below h, rfl, rfl, rfl, rfl, fun _ h => .inl h⟩
theorem Step.put {d' : Dk} (h : Step w d w' d') {w2 : World} (hf : Fr (Disk.own d) w' w2) : Step w d w2 d' :=
  ⟨h.fr.trans hf fun _ _ e => e, h.B, h.pb, h.db, h.cb, h.cv⟩
theorem Step.below {d' : Dk} (h : Step w d w' d') (hm : Mem w d R) {B : Nat} (hB : B ≤ d.B) : Below B w w' := by
  have h1 := hm.own_lt (k := d.pb) (.inl rfl)
  exact h.fr.below (by omega) fun k hk => Nat.le_trans hB (hm.own_lt hk).2
end
end Go.Proofs.Ytebiebbbkdbffaa.Disk
