/-
  Fields and texts in memory: lists of them, read and appended to.
-/
import Derived.Test.YtpklmlhioklpoaaDoorHeadBase
import Derived.Test.YtpklmlhioklpoaaDoorShaKept
import Derived.Laws.IdiomStrings
import Derived.Laws.Rows
import Derived.Laws.Tables
import Derived.Laws.MakeOwn
import Derived.Laws.StructEq
import Derived.Maps.AppendAt
import Derived.Deep.RegionWith
import Derived.Deep.MidRow
import Derived.Deep.CutRange
import Derived.Lib.SliceRun
import Derived.Lib.AppendZeros
import Derived.StillTailTactics
namespace Go.Proofs.YtpklmlhioklpoaaDoor.Head
open Go Go.RowKit

theorem addr_add (b off j : Nat) : (⟨b, off, none⟩ : Addr).add j = ⟨b, off + j, none⟩ := by unfold Addr.add; split <;> simp_all

/-- A block of memory that lies there whole, and may be written. -/
def Lies (w : World) (b : Nat) (cs : Array Value) (t : TypeId) : Prop := w.heap[b]? = some (.cells cs t (0, 0))
section
variable {w w' : World} {b c i : Nat} {cs : Array Value} {t : TypeId}
theorem Lies.lt (h : Lies w b cs t) : b < w.heap.size := by
  by_cases hl : b < w.heap.size
  · exact hl
  · have : w.heap[b]? = none := by simp; omega
    rw [Lies, this] at h
    cases h
theorem Lies.cell (h : Lies w b cs t) (j : Nat) : w.cell? ⟨b, j, none⟩ = cs[j]? := cell_of_row w b j cs t (0, 0) h
theorem Lies.free (h : Lies w b cs t) (j : Nat) : w.frozen? ⟨b, j, none⟩ = false := frozen_of_row w b j cs t h
theorem Lies.same (h : Lies w b cs t) (e : w'.heap[b]? = w.heap[b]?) : Lies w' b cs t := e.trans h
theorem Lies.new (w : World) (cs : Array Value) (t : TypeId) : Lies (w.alloc (.cells cs t)) w.heap.size cs t := heap_alloc_new w _
theorem Lies.set (h : Lies w b cs t) (i : Nat) (v : Value) : Lies (w.setCell ⟨b, i, none⟩ v) b (cs.setIfInBounds i v) t := heap_setCell_same w b i cs t v h
theorem Lies.other (h : Lies w b cs t) (v : Value) (hne : b ≠ c) : Lies (w.setCell ⟨c, i, none⟩ v) b cs t := by
  unfold Lies
  rw [heap_setCell_other w ⟨c, i, none⟩ b v hne]; exact h
end

/-- What of the blocks that were there may have turned: those of F alone. -/
structure Fr (F : Nat → Prop) (w w' : World) : Prop where
  os : w'.os = w.os
  tape : w'.tape = w.tape
  output : w'.output = w.output
  size : w.heap.size ≤ w'.heap.size
  block : ∀ k, k < w.heap.size → ¬ F k → w'.heap[k]? = w.heap[k]?
theorem Fr.refl (F : Nat → Prop) (w : World) : Fr F w w := ⟨rfl, rfl, rfl, Nat.le_refl _, fun _ _ _ => rfl⟩
theorem Fr.trans {F F' : Nat → Prop} {a b c : World} (h : Fr F a b) (k : Fr F' b c) (hF : ∀ i, i < a.heap.size → F' i → F i) : Fr F a c :=
  ⟨k.os.trans h.os, k.tape.trans h.tape, k.output.trans h.output, Nat.le_trans h.size k.size, fun i hi hn => (k.block i (Nat.lt_of_lt_of_le hi h.size) fun e => hn (hF i hi e)).trans (h.block i hi hn)⟩
theorem Fr.mono {F F' : Nat → Prop} {a b : World} (h : Fr F a b) (hF : ∀ i, i < a.heap.size → F i → F' i) : Fr F' a b :=
  ⟨h.os, h.tape, h.output, h.size, fun i hi hn => h.block i hi fun e => hn (hF i hi e)⟩
theorem Fr.of_below {F : Nat → Prop} {w w' : World} (h : Below w.heap.size w w') : Fr F w w' := ⟨h.os, h.tape, h.output, h.size, fun k hk _ => h.block k hk⟩
theorem Fr.below {F : Nat → Prop} {w w' : World} {B : Nat} (h : Fr F w w') (hB : B ≤ w.heap.size) (hF : ∀ k, F k → B ≤ k) : Below B w w' :=
  ⟨h.os, h.tape, h.output, h.size, fun k hk => h.block k (by omega) fun e => by have := hF k e; omega⟩
theorem Fr.setCell {F : Nat → Prop} {a w : World} (h : Fr F a w) {b i : Nat} (hb : b < a.heap.size → F b) (v : Value) : Fr F a (w.setCell ⟨b, i, none⟩ v) :=
  ⟨h.os, h.tape, h.output, by simpa [World.setCell] using h.size, fun k hk hn => (Below.heap_setCell _ _ _ _ (fun e => hn (by subst e; exact hb hk))).trans (h.block k hk hn)⟩
theorem Fr.one (w : World) (b i : Nat) (v : Value) : Fr (fun k => k = b) w (w.setCell ⟨b, i, none⟩ v) := Fr.setCell (F := fun k => k = b) (Fr.refl _ w) (fun _ => rfl) v
theorem Fr.alloc {F : Nat → Prop} {a w : World} (h : Fr F a w) (o : Obj) : Fr F a (w.alloc o) :=
  ⟨h.os, h.tape, h.output, by simpa using Nat.le_succ_of_le h.size, fun k hk hn => (Below.heap_alloc _ _ _ (Nat.lt_of_lt_of_le hk h.size)).trans (h.block k hk hn)⟩
theorem Fr.drew {F : Nat → Prop} {a w : World} (h : Fr F a w) : Fr F a w.drew := ⟨h.os, h.tape, h.output, h.size, h.block⟩
theorem Fr.drewN {F : Nat → Prop} {a w : World} (h : Fr F a w) (n : Nat) : Fr F a (w.drewN n) :=
  h.trans (Fr.of_below (F := fun _ => False) (below_drewN (Below.refl _ _) n)) fun _ _ e => e.elim
theorem Fr.grown {F : Nat → Prop} {a w w' : World} {row : Option Nat} (h : Fr F a w) (hg : w.grownBy w' row) (hr : ∀ k, row = some k → k < a.heap.size → F k) : Fr F a w' :=
  ⟨hg.os.trans h.os, hg.tape.trans h.tape, hg.output.trans h.output, Nat.le_trans h.size hg.size, fun k hk hn => (hg.block k (Nat.lt_of_lt_of_le hk h.size) fun e => hn (hr k e.symm hk)).trans (h.block k hk hn)⟩
theorem Fr.owns {F : Nat → Prop} {w w' : World} {B : Nat} {t : TypeId} {z n : Nat} {v : Value} {xs : List Value} (h : w.ownsRow B t z v n xs) (hf : Fr F w w') (hn : ∀ k, v.ownBlock = some k → ¬ F k) : w'.ownsRow B t z v n xs := by
  refine ⟨h.1, ?_⟩
  rcases h.2 with h2 | ⟨g, cap, cur, rfl, hb, hg, r⟩
  · exact .inl h2
  · refine .inr ⟨g, cap, cur, rfl, hb, ?_, r⟩
    rw [hf.block g (Array.getElem?_eq_some_iff.1 hg).1 (hn g rfl)]
    exact hg
theorem owns_set {w : World} {B : Nat} {t : TypeId} {z n : Nat} {v : Value} {xs : List Value} (h : w.ownsRow B t z v n xs) {g : Nat} (hg : v.ownBlock = some g) (i : Nat) (x : Value) (_hi : i < n * z) : (w.setCell ⟨g, i, none⟩ x).ownsRow B t z v n (xs.set i x) := by
  refine ⟨by rw [List.length_set]; exact h.1, ?_⟩
  rcases h.2 with ⟨rfl, _⟩ | ⟨g', cap, cur, rfl, hb, hh, h1, h2, h3, h4⟩
  · cases hg
  · obtain rfl : g' = g := by simpa [Value.ownBlock] using hg
    refine .inr ⟨g', cap, cur.setIfInBounds i x, rfl, hb, heap_setCell_same w g' i cur t x hh, h1, h2, by rw [Array.size_setIfInBounds]; exact h3, ?_⟩
    rw [Array.toList_setIfInBounds, List.take_set, h4]
theorem owns_slice {w : World} {B : Nat} {t : TypeId} {z n : Nat} {v : Value} {xs : List Value} (h : w.ownsRow B t z v n xs) : ∃ a c, v = .slice a n c := by
  rcases h.2 with ⟨rfl, rfl⟩ | ⟨g, cap, cur, rfl, _⟩
  · exact ⟨_, _, rfl⟩
  · exact ⟨_, _, rfl⟩


theorem range_below {w w' : World} {b o : Nat} {cs : List Value} (h : w.rangeAt b o cs) (hl : b < w.heap.size) (hb : Below w.heap.size w w') : w'.rangeAt b o cs := fun j v hv => by
  rw [hb.cell (p := ⟨b, o + j, none⟩) hl]
  exact h j v hv
theorem owns_below {w w' : World} {B : Nat} {e : TypeId} {z : Nat} {v : Value} {n : Nat} {xs : List Value} (h : w.ownsRow B e z v n xs) (hb : Below w.heap.size w w') : w'.ownsRow B e z v n xs :=
  Fr.owns (F := fun _ => False) h (Fr.of_below hb) (fun _ _ e => e)


/-! Texts. -/
abbrev strT : TypeId := 9
abbrev strsT : TypeId := 45
theorem infoS : (Tryd.prog.info? strT).map (fun i => (i.zero, i.size, i.bytes)) = some (some (.string ByteArray.empty), 1, 16) := by kernel_rfl
theorem new_str (w : World) (x : ByteArray) : (w.alloc (.cells #[.string x] strT)).cell? ⟨w.heap.size, 0, none⟩ = some (.string x) := by
  rw [cell_of_row _ _ _ _ _ _ (heap_alloc_new w _)]
  rfl
/-- One text appended. -/
theorem append_str (w : World) (B : Nat) (v : Value) (ws : List ByteArray) (x : ByteArray) (ho : w.ownsRow B strT 1 v ws.length (ws.map Value.string)) (hl : ws.length ≤ 2000000) (hB : B ≤ w.heap.size) :
    ∃ a c w', (Builtin.append_ #[strsT, strsT] strsT #[v, .slice (some ⟨w.heap.size, 0, none⟩) 1 1]).run Tryd.prog (w.alloc (.cells #[.string x] strT)) = .ok (.slice a (ws.length + 1) c) w' ∧
      Hid (w'.ownsRow B strT 1 (.slice a (ws.length + 1) c) (ws.length + 1) ((ws ++ [x]).map Value.string) ∧ Below B w w' ∧ (w.alloc (.cells #[.string x] strT)).grownBy w' v.ownBlock ∧ (∀ k, (Value.slice a (ws.length + 1) c).ownBlock = some k → v.ownBlock = some k ∨ w.heap.size ≤ k)) := by
  obtain ⟨i, hi, hz, hs, hb⟩ := info_parts infoS
  obtain ⟨v', w', hr, h2, h3, _, h5⟩ := run_append_own_at (P := Tryd.prog) (w.alloc (.cells #[.string x] strT)) B strsT strsT strT i (.string ByteArray.empty) 1 16 Tryd.underlying45 hi hz hs hb rfl (by decide) v ws.length (ws.map Value.string) (ho.alloc _) ⟨w.heap.size, 0, none⟩ 1 1 [.string x] rfl (fun j u hu => by
    rw [addr_add, Nat.zero_add]
    match j, hu with
    | 0, hu =>
      obtain rfl : Value.string x = u := by simpa using hu
      exact new_str w x
    | j + 1, hu => simp at hu) (by intro u hu; obtain rfl := List.mem_singleton.1 hu; rfl) (by unfold maxLen; omega) (by omega) (by simp; omega)
  obtain ⟨a, c, rfl⟩ := owns_slice h2
  refine ⟨a, c, w', hr, Lib.hid ⟨by simpa using h2, ((Below.refl B w).alloc hB _).grown h3 (by simp; omega) fun k hk => ((ho.alloc (.cells #[.string x] strT)).lt k hk).1, h3, fun k hk => ?_⟩⟩
  rcases h5 with e | e
  · rw [e] at hk; exact .inl hk
  · rw [e] at hk
    obtain rfl := Option.some.inj hk
    exact .inr (by simp)
/-- The value is a slice that reads as these strings. -/
def ReadsS (w : World) (v : Value) (ws : List ByteArray) : Prop :=
  (∃ a cap, v = .slice a 0 cap ∧ ws = []) ∨
  (∃ b cap, v = .slice (some ⟨b, 0, none⟩) ws.length cap ∧ ws.length ≤ cap ∧ cap ≤ 9223372036854775807 ∧ b < w.heap.size ∧ ∀ i x, ws[i]? = some x → w.cell? ⟨b, i, none⟩ = some (.string x))
section
variable {w w' : World} {v : Value} {q : List ByteArray}
theorem ReadsS.below (h : ReadsS w v q) (hb : Below w.heap.size w w') : ReadsS w' v q := by
  rcases h with h | ⟨b, cap, rfl, h1, h2, h3, h4⟩
  · exact .inl h
  · exact .inr ⟨b, cap, rfl, h1, h2, by have := hb.size; omega, fun i e hi => by rw [hb.cell (p := ⟨b, i, none⟩) h3]; exact h4 i e hi⟩
theorem owns_readsS {B : Nat} (h : w.ownsRow B strT 1 v q.length (q.map Value.string)) : ReadsS w v q := by
  have hc := fun g hg => h.cells (g := g) hg
  have hlt := h.lt
  rcases h.2 with ⟨rfl, hn⟩ | ⟨g, cap, cur, rfl, hb, hg, h1, h2, _, _⟩
  · exact .inl ⟨_, _, rfl, List.length_eq_zero_iff.1 hn⟩
  · refine .inr ⟨g, cap, rfl, h1, by unfold maxLen at h2; omega, (hlt g rfl).2, fun i e hi => ?_⟩
    have e1 := hc g rfl i (.string e) (by rw [List.getElem?_map, hi]; rfl)
    rw [addr_add, Nat.zero_add] at e1
    exact e1
end
def TxAt (w wr : World) (v : Value) (ws : List ByteArray) : Prop := wr.ownsRow w.heap.size strT 1 v ws.length (ws.map Value.string) ∧ Below w.heap.size w wr
theorem TxAt.start (w : World) : TxAt w w (.slice none 0 0) [] := ⟨World.ownsRow_nil _ _ _ _, Below.refl _ _⟩
theorem TxAt.on {w wr w' : World} {v : Value} {ws : List ByteArray} (h : TxAt w wr v ws) (hb : Below wr.heap.size wr w') : TxAt w w' v ws := ⟨owns_below h.1 hb, h.2.trans (hb.mono h.2.size)⟩

/-! Fields. -/
abbrev fdT : TypeId := 42
abbrev fdsT : TypeId := 23
abbrev rfT : TypeId := 35
abbrev rfsT : TypeId := 27
def fdC (p : Fd) : List Value := [.string p.n, .string p.v]
abbrev fdV (p : Fd) : Value := .agg #[.string p.n, .string p.v]
abbrev boxF (t : TypeId) (p : Fd) : Obj := .cells #[.string p.n, .string p.v] t
theorem tkC_length (p : Fd) : (fdC p).length = 2 := rfl
theorem flat2_length (q : List Fd) : (q.flatMap fdC).length = q.length * 2 := by
  induction q with
  | nil => rfl
  | cons e q ih => rw [List.flatMap_cons, List.length_append, ih, tkC_length, List.length_cons]; omega
theorem flat2_get : ∀ (q : List Fd) (i : Nat) (e : Fd), q[i]? = some e → ∀ j, j < 2 → (q.flatMap fdC)[i * 2 + j]? = (fdC e)[j]?
  | [], _, _, h, _, _ => by simp at h
  | x :: q, 0, e, h, j, hj => by
    obtain rfl : x = e := by simpa using h
    rw [List.flatMap_cons, List.getElem?_append_left (by rw [tkC_length]; omega)]
    simp
  | x :: q, i + 1, e, h, j, hj => by
    rw [List.flatMap_cons, List.getElem?_append_right (by rw [tkC_length]; omega), tkC_length, show (i + 1) * 2 + j - 2 = i * 2 + j by omega]
    exact flat2_get q i e (by simpa using h) j hj
theorem flat2_snoc (l : List Fd) (e : Fd) : (l ++ [e]).flatMap fdC = l.flatMap fdC ++ fdC e := by simp
theorem one_cell2 (c : Fd) : ∀ u ∈ fdC c, u.oneCell' = true := by
  intro u hu
  unfold fdC at hu
  simp only [List.mem_cons, List.not_mem_nil, or_false] at hu
  rcases hu with rfl | rfl <;> rfl
theorem flat2_one (q : List Fd) : ∀ u ∈ q.flatMap fdC, u.oneCell' = true := by
  intro u hu
  obtain ⟨c, _, hc⟩ := List.mem_flatMap.1 hu
  exact one_cell2 c u hc
theorem two {w : World} {b o : Nat} {e : Fd} (h : w.rangeAt b o (fdC e)) : w.cell? ⟨b, o, none⟩ = some (.string e.n) ∧ w.cell? ⟨b, o + 1, none⟩ = some (.string e.v) := ⟨h 0 _ rfl, h 1 _ rfl⟩

/-- The value is a slice that reads as these fields. -/
def ReadsF (w : World) (v : Value) (q : List Fd) : Prop :=
  (∃ a cap, v = .slice a 0 cap ∧ q = []) ∨
  (∃ b off cap, v = .slice (some ⟨b, off, none⟩) q.length cap ∧ q.length ≤ cap ∧ cap ≤ 9223372036854775807 ∧ b < w.heap.size ∧ ∀ i e, q[i]? = some e → w.rangeAt b (off + i * 2) (fdC e))
section
variable {w w' : World} {v : Value} {q : List Fd}
theorem ReadsF.below (h : ReadsF w v q) (hb : Below w.heap.size w w') : ReadsF w' v q := by
  rcases h with h | ⟨b, off, cap, rfl, h1, h2, h3, h4⟩
  · exact .inl h
  · exact .inr ⟨b, off, cap, rfl, h1, h2, by have := hb.size; omega, fun i e hi => range_below (h4 i e hi) h3 hb⟩
theorem ReadsF.shape (h : ReadsF w v q) : ∃ a cap, v = .slice a q.length cap := by
  rcases h with ⟨a, cap, rfl, rfl⟩ | ⟨b, off, cap, rfl, _⟩
  · exact ⟨a, cap, rfl⟩
  · exact ⟨_, cap, rfl⟩
theorem nil_readsF (w : World) : ReadsF w (.slice none 0 0) [] := .inl ⟨_, _, rfl, rfl⟩
/-- Where the cells of an entry stand. -/
theorem ReadsF.at_ {a : Option Addr} {n cap : Nat} (h : ReadsF w (.slice a n cap) q) (i : Nat) (e : Fd) (hi : q[i]? = some e) : ∃ b off, a = some ⟨b, off, none⟩ ∧ b < w.heap.size ∧ w.rangeAt b (off + i * 2) (fdC e) := by
  rcases h with ⟨a', cap', he, rfl⟩ | ⟨b, off, cap', he, h1, h2, h3, h4⟩
  · simp at hi
  · obtain ⟨rfl, -, -⟩ := Value.slice.inj he
    exact ⟨b, off, rfl, h3, h4 i e hi⟩
end
theorem owns_readsF {w : World} {B : Nat} {t : TypeId} {v : Value} {q : List Fd} (h : w.ownsRow B t 2 v q.length (q.flatMap fdC)) : ReadsF w v q := by
  have hc := fun g hg => h.cells (g := g) hg
  have hlt := h.lt
  rcases h.2 with ⟨rfl, hn⟩ | ⟨g, cap, cur, rfl, hb, hg, h1, h2, _, _⟩
  · exact .inl ⟨_, _, rfl, List.length_eq_zero_iff.1 hn⟩
  · refine .inr ⟨g, 0, cap, rfl, h1, by unfold maxLen at h2; omega, (hlt g rfl).2, fun i e hi j v hv => ?_⟩
    have hj : j < 2 := by
      have := (List.getElem?_eq_some_iff.1 hv).1
      rw [tkC_length] at this
      exact this
    have e1 := hc g rfl (i * 2 + j) v (by rw [flat2_get q i e hi j hj]; exact hv)
    rw [addr_add] at e1
    rw [← e1]
    congr 2
    omega
theorem sizeFd : (Tryd.prog.info? fdT).map (·.size) = some 2 := by kernel_rfl
theorem sizeR : (Tryd.prog.info? rfT).map (·.size) = some 2 := by kernel_rfl
theorem infoFd : (Tryd.prog.info? fdT).map (fun i => (i.zero, i.size, i.bytes)) = some (some (.agg #[.string ⟨#[]⟩, .string ⟨#[]⟩]), 2, 32) := by kernel_rfl
theorem infoR : (Tryd.prog.info? rfT).map (fun i => (i.zero, i.size, i.bytes)) = some (some (.agg #[.string ⟨#[]⟩, .string ⟨#[]⟩]), 2, 32) := by kernel_rfl
theorem new_boxF (w : World) (t : TypeId) (c : Fd) : (w.alloc (boxF t c)).rangeAt w.heap.size 0 (fdC c) := by
  intro j u h
  have hb := heap_alloc_new w (boxF t c)
  simp only [World.cell?, hb, Nat.zero_add]
  unfold fdC at h
  match j, h with
  | 0, h => simpa using h
  | 1, h => simpa using h
  | j + 2, h => simp at h
/-- One field appended, as the program does it. -/
theorem append_oneF (mo : Nat) {us : List Fd} (hn : us.length = mo) (W : World) (B : Nat) (ou : Value) (y : Fd) (ho : W.ownsRow B fdT 2 ou mo (us.flatMap fdC)) (hl : mo ≤ 100000000) (hB : B ≤ W.heap.size) :
    ∃ a c w', (Builtin.append_ #[fdsT, fdsT] fdsT #[ou, .slice (some ⟨W.heap.size, 0, none⟩) 1 1]).run Tryd.prog (W.alloc (boxF fdT y)) = .ok (.slice a (mo + 1) c) w' ∧
      Hid (w'.ownsRow B fdT 2 (.slice a (mo + 1) c) (mo + 1) ((us ++ [y]).flatMap fdC) ∧ Below B W w') := by
  subst hn
  have hal : Below B W (W.alloc (boxF fdT y)) := (Below.refl _ _).alloc hB _
  obtain ⟨i0, hi, hz0, hz1, hz2⟩ := info_parts infoFd
  obtain ⟨v', w', hr, h2, h3, h4⟩ := run_append_own (P := Tryd.prog) (W.alloc (boxF fdT y)) B fdsT fdsT fdT i0 _ 2 32 Tryd.underlying23 hi hz0 hz1 hz2 rfl (by decide) ou us.length _ (ho.alloc _) ⟨W.heap.size, 0, none⟩ 1 1 (fdC y) rfl (fun j u hu => by rw [addr_add]; exact new_boxF W fdT y j u hu) (one_cell2 y) (by unfold maxLen; omega) (by omega) (by simp; omega)
  obtain ⟨a, c, rfl⟩ := owns_slice h2
  refine ⟨a, c, w', hr, Lib.hid ⟨?_, ?_⟩⟩
  · rw [flat2_snoc]; exact h2
  · exact hal.grown h3 (by simp; omega) fun k hk => ((ho.alloc (boxF fdT y)).lt k hk).1
/-- One field appended, as the document does it. -/
theorem append_oneR (mo : Nat) {us : List Fd} (hn : us.length = mo) (W : World) (B : Nat) (ou : Value) (y : Fd) (ho : W.ownsRow B rfT 2 ou mo (us.flatMap fdC)) (hl : mo ≤ 100000000) (hB : B ≤ W.heap.size) :
    ∃ a c w', (Builtin.append_ #[rfsT, rfsT] rfsT #[ou, .slice (some ⟨W.heap.size, 0, none⟩) 1 1]).run Tryd.prog (W.alloc (boxF rfT y)) = .ok (.slice a (mo + 1) c) w' ∧
      Hid (w'.ownsRow B rfT 2 (.slice a (mo + 1) c) (mo + 1) ((us ++ [y]).flatMap fdC) ∧ Below B W w') := by
  subst hn
  have hal : Below B W (W.alloc (boxF rfT y)) := (Below.refl _ _).alloc hB _
  obtain ⟨i0, hi, hz0, hz1, hz2⟩ := info_parts infoR
  obtain ⟨v', w', hr, h2, h3, h4⟩ := run_append_own (P := Tryd.prog) (W.alloc (boxF rfT y)) B rfsT rfsT rfT i0 _ 2 32 Tryd.underlying27 hi hz0 hz1 hz2 rfl (by decide) ou us.length _ (ho.alloc _) ⟨W.heap.size, 0, none⟩ 1 1 (fdC y) rfl (fun j u hu => by rw [addr_add]; exact new_boxF W rfT y j u hu) (one_cell2 y) (by unfold maxLen; omega) (by omega) (by simp; omega)
  obtain ⟨a, c, rfl⟩ := owns_slice h2
  refine ⟨a, c, w', hr, Lib.hid ⟨?_, ?_⟩⟩
  · rw [flat2_snoc]; exact h2
  · exact hal.grown h3 (by simp; omega) fun k hk => ((ho.alloc (boxF rfT y)).lt k hk).1
end Go.Proofs.YtpklmlhioklpoaaDoor.Head
