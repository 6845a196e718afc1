/-
  Tokens in memory: two cells each; lists of them, read and appended to.
-/
import Derived.Test.YtklmhjoiffaniaaDoorLexBuild
import Derived.Test.YtklmhjoiffaniaaDoorLexWalkB
import Derived.Test.YtklmhjoiffaniaaDoorShaKept
import Derived.Laws.IdiomStrings
import Derived.Laws.Rows
import Derived.Laws.Tables
import Derived.Laws.MakeOwn
import Derived.Maps.AppendAt
import Derived.Deep.RegionWith
import Derived.Deep.MidRow
import Derived.Lib.SliceRun
import Derived.Lib.AppendZeros
import Derived.StillTailTactics
namespace Go.Proofs.YtklmhjoiffaniaaDoor.Lex
open Go Go.RowKit

theorem addr_add (b off j : Nat) : (⟨b, off, none⟩ : Addr).add j = ⟨b, off + j, none⟩ := by unfold Addr.add; split <;> simp_all

/-- A block of memory that lies there whole, and may be written. -/
def Lies (w : World) (b : Nat) (cs : Array Value) (t : TypeId) : Prop := w.heap[b]? = some (.cells cs t (0, 0))
section
variable {w w' : World} {b c i : Nat} {cs : Array Value} {t : TypeId}
theorem Lies.lt (h : Lies w b cs t) : b < w.heap.size := by
  by_cases hl : b < w.heap.size
  · exact hl
  · have : w.heap[b]? = none := by simp; omega
    rw [Lies, this] at h
    cases h
theorem Lies.cell (h : Lies w b cs t) (j : Nat) : w.cell? ⟨b, j, none⟩ = cs[j]? := cell_of_row w b j cs t (0, 0) h
theorem Lies.free (h : Lies w b cs t) (j : Nat) : w.frozen? ⟨b, j, none⟩ = false := frozen_of_row w b j cs t h
theorem Lies.same (h : Lies w b cs t) (e : w'.heap[b]? = w.heap[b]?) : Lies w' b cs t := e.trans h
theorem Lies.new (w : World) (cs : Array Value) (t : TypeId) : Lies (w.alloc (.cells cs t)) w.heap.size cs t := heap_alloc_new w _
theorem Lies.set (h : Lies w b cs t) (i : Nat) (v : Value) : Lies (w.setCell ⟨b, i, none⟩ v) b (cs.setIfInBounds i v) t := heap_setCell_same w b i cs t v h
theorem Lies.other (h : Lies w b cs t) (v : Value) (hne : b ≠ c) : Lies (w.setCell ⟨c, i, none⟩ v) b cs t := by
  unfold Lies
  rw [heap_setCell_other w ⟨c, i, none⟩ b v hne]; exact h
end

/-- What of the blocks that were there may have turned: those of F alone. -/
structure Fr (F : Nat → Prop) (w w' : World) : Prop where
  os : w'.os = w.os
  tape : w'.tape = w.tape
  output : w'.output = w.output
  size : w.heap.size ≤ w'.heap.size
  block : ∀ k, k < w.heap.size → ¬ F k → w'.heap[k]? = w.heap[k]?
theorem Fr.refl (F : Nat → Prop) (w : World) : Fr F w w := ⟨rfl, rfl, rfl, Nat.le_refl _, fun _ _ _ => rfl⟩
theorem Fr.trans {F F' : Nat → Prop} {a b c : World} (h : Fr F a b) (k : Fr F' b c) (hF : ∀ i, i < a.heap.size → F' i → F i) : Fr F a c :=
  ⟨k.os.trans h.os, k.tape.trans h.tape, k.output.trans h.output, Nat.le_trans h.size k.size, fun i hi hn => (k.block i (Nat.lt_of_lt_of_le hi h.size) fun e => hn (hF i hi e)).trans (h.block i hi hn)⟩
theorem Fr.mono {F F' : Nat → Prop} {a b : World} (h : Fr F a b) (hF : ∀ i, i < a.heap.size → F i → F' i) : Fr F' a b :=
  ⟨h.os, h.tape, h.output, h.size, fun i hi hn => h.block i hi fun e => hn (hF i hi e)⟩
theorem Fr.of_below {F : Nat → Prop} {w w' : World} (h : Below w.heap.size w w') : Fr F w w' := ⟨h.os, h.tape, h.output, h.size, fun k hk _ => h.block k hk⟩
theorem Fr.below {F : Nat → Prop} {w w' : World} {B : Nat} (h : Fr F w w') (hB : B ≤ w.heap.size) (hF : ∀ k, F k → B ≤ k) : Below B w w' :=
  ⟨h.os, h.tape, h.output, h.size, fun k hk => h.block k (by omega) fun e => by have := hF k e; omega⟩
theorem Fr.setCell {F : Nat → Prop} {a w : World} (h : Fr F a w) {b i : Nat} (hb : b < a.heap.size → F b) (v : Value) : Fr F a (w.setCell ⟨b, i, none⟩ v) :=
  ⟨h.os, h.tape, h.output, by simpa [World.setCell] using h.size, fun k hk hn => (Below.heap_setCell _ _ _ _ (fun e => hn (by subst e; exact hb hk))).trans (h.block k hk hn)⟩
theorem Fr.one (w : World) (b i : Nat) (v : Value) : Fr (fun k => k = b) w (w.setCell ⟨b, i, none⟩ v) := Fr.setCell (F := fun k => k = b) (Fr.refl _ w) (fun _ => rfl) v
theorem Fr.alloc {F : Nat → Prop} {a w : World} (h : Fr F a w) (o : Obj) : Fr F a (w.alloc o) :=
  ⟨h.os, h.tape, h.output, by simpa using Nat.le_succ_of_le h.size, fun k hk hn => (Below.heap_alloc _ _ _ (Nat.lt_of_lt_of_le hk h.size)).trans (h.block k hk hn)⟩
theorem Fr.drew {F : Nat → Prop} {a w : World} (h : Fr F a w) : Fr F a w.drew := ⟨h.os, h.tape, h.output, h.size, h.block⟩
theorem Fr.drewN {F : Nat → Prop} {a w : World} (h : Fr F a w) (n : Nat) : Fr F a (w.drewN n) :=
  h.trans (Fr.of_below (F := fun _ => False) (below_drewN (Below.refl _ _) n)) fun _ _ e => e.elim
theorem Fr.grown {F : Nat → Prop} {a w w' : World} {row : Option Nat} (h : Fr F a w) (hg : w.grownBy w' row) (hr : ∀ k, row = some k → k < a.heap.size → F k) : Fr F a w' :=
  ⟨hg.os.trans h.os, hg.tape.trans h.tape, hg.output.trans h.output, Nat.le_trans h.size hg.size, fun k hk hn => (hg.block k (Nat.lt_of_lt_of_le hk h.size) fun e => hn (hr k e.symm hk)).trans (h.block k hk hn)⟩
theorem Fr.owns {F : Nat → Prop} {w w' : World} {B : Nat} {t : TypeId} {z n : Nat} {v : Value} {xs : List Value} (h : w.ownsRow B t z v n xs) (hf : Fr F w w') (hn : ∀ k, v.ownBlock = some k → ¬ F k) : w'.ownsRow B t z v n xs := by
  refine ⟨h.1, ?_⟩
  rcases h.2 with h2 | ⟨g, cap, cur, rfl, hb, hg, r⟩
  · exact .inl h2
  · refine .inr ⟨g, cap, cur, rfl, hb, ?_, r⟩
    rw [hf.block g (Array.getElem?_eq_some_iff.1 hg).1 (hn g rfl)]
    exact hg
theorem owns_set {w : World} {B : Nat} {t : TypeId} {z n : Nat} {v : Value} {xs : List Value} (h : w.ownsRow B t z v n xs) {g : Nat} (hg : v.ownBlock = some g) (i : Nat) (x : Value) (_hi : i < n * z) : (w.setCell ⟨g, i, none⟩ x).ownsRow B t z v n (xs.set i x) := by
  refine ⟨by rw [List.length_set]; exact h.1, ?_⟩
  rcases h.2 with ⟨rfl, _⟩ | ⟨g', cap, cur, rfl, hb, hh, h1, h2, h3, h4⟩
  · cases hg
  · obtain rfl : g' = g := by simpa [Value.ownBlock] using hg
    refine .inr ⟨g', cap, cur.setIfInBounds i x, rfl, hb, heap_setCell_same w g' i cur t x hh, h1, h2, by rw [Array.size_setIfInBounds]; exact h3, ?_⟩
    rw [Array.toList_setIfInBounds, List.take_set, h4]
theorem owns_slice {w : World} {B : Nat} {t : TypeId} {z n : Nat} {v : Value} {xs : List Value} (h : w.ownsRow B t z v n xs) : ∃ a c, v = .slice a n c := by
  rcases h.2 with ⟨rfl, rfl⟩ | ⟨g, cap, cur, rfl, _⟩
  · exact ⟨_, _, rfl⟩
  · exact ⟨_, _, rfl⟩


theorem range_below {w w' : World} {b o : Nat} {cs : List Value} (h : w.rangeAt b o cs) (hl : b < w.heap.size) (hb : Below w.heap.size w w') : w'.rangeAt b o cs := fun j v hv => by
  rw [hb.cell (p := ⟨b, o + j, none⟩) hl]
  exact h j v hv
theorem owns_below {w w' : World} {B : Nat} {e : TypeId} {z : Nat} {v : Value} {n : Nat} {xs : List Value} (h : w.ownsRow B e z v n xs) (hb : Below w.heap.size w w') : w'.ownsRow B e z v n xs :=
  Fr.owns (F := fun _ => False) h (Fr.of_below hb) (fun _ _ e => e)

abbrev tkT : TypeId := 76
abbrev tksT : TypeId := 50
abbrev rfT : TypeId := 84
abbrev rfsT : TypeId := 56
def tkC (p : Tk) : List Value := [.int .i64 p.kind, .string p.text]
abbrev tkV (p : Tk) : Value := .agg #[.int .i64 p.kind, .string p.text]
abbrev boxT (t : TypeId) (p : Tk) : Obj := .cells #[.int .i64 p.kind, .string p.text] t
theorem tkC_length (p : Tk) : (tkC p).length = 2 := rfl
theorem flat2_length (q : List Tk) : (q.flatMap tkC).length = q.length * 2 := by
  induction q with
  | nil => rfl
  | cons e q ih => rw [List.flatMap_cons, List.length_append, ih, tkC_length, List.length_cons]; omega
theorem flat2_get : ∀ (q : List Tk) (i : Nat) (e : Tk), q[i]? = some e → ∀ j, j < 2 → (q.flatMap tkC)[i * 2 + j]? = (tkC e)[j]?
  | [], _, _, h, _, _ => by simp at h
  | x :: q, 0, e, h, j, hj => by
    obtain rfl : x = e := by simpa using h
    rw [List.flatMap_cons, List.getElem?_append_left (by rw [tkC_length]; omega)]
    simp
  | x :: q, i + 1, e, h, j, hj => by
    rw [List.flatMap_cons, List.getElem?_append_right (by rw [tkC_length]; omega), tkC_length, show (i + 1) * 2 + j - 2 = i * 2 + j by omega]
    exact flat2_get q i e (by simpa using h) j hj
theorem flat2_snoc (l : List Tk) (e : Tk) : (l ++ [e]).flatMap tkC = l.flatMap tkC ++ tkC e := by simp
theorem one_cell2 (c : Tk) : ∀ u ∈ tkC c, u.oneCell' = true := by
  intro u hu
  unfold tkC at hu
  simp only [List.mem_cons, List.not_mem_nil, or_false] at hu
  rcases hu with rfl | rfl <;> rfl
theorem flat2_one (q : List Tk) : ∀ u ∈ q.flatMap tkC, u.oneCell' = true := by
  intro u hu
  obtain ⟨c, _, hc⟩ := List.mem_flatMap.1 hu
  exact one_cell2 c u hc
theorem two {w : World} {b o : Nat} {e : Tk} (h : w.rangeAt b o (tkC e)) : w.cell? ⟨b, o, none⟩ = some (.int .i64 e.kind) ∧ w.cell? ⟨b, o + 1, none⟩ = some (.string e.text) := ⟨h 0 _ rfl, h 1 _ rfl⟩

/-- The value is a slice that reads as these tokens. -/
def ReadsT (w : World) (v : Value) (q : List Tk) : Prop :=
  (∃ a cap, v = .slice a 0 cap ∧ q = []) ∨
  (∃ b off cap, v = .slice (some ⟨b, off, none⟩) q.length cap ∧ q.length ≤ cap ∧ cap ≤ 9223372036854775807 ∧ b < w.heap.size ∧ ∀ i e, q[i]? = some e → w.rangeAt b (off + i * 2) (tkC e))
section
variable {w w' : World} {v : Value} {q : List Tk}
theorem ReadsT.below (h : ReadsT w v q) (hb : Below w.heap.size w w') : ReadsT w' v q := by
  rcases h with h | ⟨b, off, cap, rfl, h1, h2, h3, h4⟩
  · exact .inl h
  · exact .inr ⟨b, off, cap, rfl, h1, h2, by have := hb.size; omega, fun i e hi => range_below (h4 i e hi) h3 hb⟩
theorem ReadsT.shape (h : ReadsT w v q) : ∃ a cap, v = .slice a q.length cap := by
  rcases h with ⟨a, cap, rfl, rfl⟩ | ⟨b, off, cap, rfl, _⟩
  · exact ⟨a, cap, rfl⟩
  · exact ⟨_, cap, rfl⟩
theorem nil_readsT (w : World) : ReadsT w (.slice none 0 0) [] := .inl ⟨_, _, rfl, rfl⟩
/-- Where the cells of an entry stand. -/
theorem ReadsT.at_ {a : Option Addr} {n cap : Nat} (h : ReadsT w (.slice a n cap) q) (i : Nat) (e : Tk) (hi : q[i]? = some e) : ∃ b off, a = some ⟨b, off, none⟩ ∧ b < w.heap.size ∧ w.rangeAt b (off + i * 2) (tkC e) := by
  rcases h with ⟨a', cap', he, rfl⟩ | ⟨b, off, cap', he, h1, h2, h3, h4⟩
  · simp at hi
  · obtain ⟨rfl, -, -⟩ := Value.slice.inj he
    exact ⟨b, off, rfl, h3, h4 i e hi⟩
end
theorem owns_readsT {w : World} {B : Nat} {t : TypeId} {v : Value} {q : List Tk} (h : w.ownsRow B t 2 v q.length (q.flatMap tkC)) : ReadsT w v q := by
  have hc := fun g hg => h.cells (g := g) hg
  have hlt := h.lt
  rcases h.2 with ⟨rfl, hn⟩ | ⟨g, cap, cur, rfl, hb, hg, h1, h2, _, _⟩
  · exact .inl ⟨_, _, rfl, List.length_eq_zero_iff.1 hn⟩
  · refine .inr ⟨g, 0, cap, rfl, h1, by unfold maxLen at h2; omega, (hlt g rfl).2, fun i e hi j v hv => ?_⟩
    have hj : j < 2 := by
      have := (List.getElem?_eq_some_iff.1 hv).1
      rw [tkC_length] at this
      exact this
    have e1 := hc g rfl (i * 2 + j) v (by rw [flat2_get q i e hi j hj]; exact hv)
    rw [addr_add] at e1
    rw [← e1]
    congr 2
    omega
theorem sizeT : (Tryd.prog.info? tkT).map (·.size) = some 2 := by kernel_rfl
theorem sizeF : (Tryd.prog.info? rfT).map (·.size) = some 2 := by kernel_rfl
theorem infoT : (Tryd.prog.info? tkT).map (fun i => (i.zero, i.size, i.bytes)) = some (some (.agg #[.int .i64 0, .string ⟨#[]⟩]), 2, 24) := by kernel_rfl
theorem infoF : (Tryd.prog.info? rfT).map (fun i => (i.zero, i.size, i.bytes)) = some (some (.agg #[.int .i64 0, .string ⟨#[]⟩]), 2, 24) := by kernel_rfl
theorem new_boxT (w : World) (t : TypeId) (c : Tk) : (w.alloc (boxT t c)).rangeAt w.heap.size 0 (tkC c) := by
  intro j u h
  have hb := heap_alloc_new w (boxT t c)
  simp only [World.cell?, hb, Nat.zero_add]
  unfold tkC at h
  match j, h with
  | 0, h => simpa using h
  | 1, h => simpa using h
  | j + 2, h => simp at h
/-- One token appended, as the program does it. -/
theorem append_oneT (mo : Nat) {us : List Tk} (hn : us.length = mo) (W : World) (B : Nat) (ou : Value) (y : Tk) (ho : W.ownsRow B tkT 2 ou mo (us.flatMap tkC)) (hl : mo ≤ 100000000) (hB : B ≤ W.heap.size) :
    ∃ a c w', (Builtin.append_ #[tksT, tksT] tksT #[ou, .slice (some ⟨W.heap.size, 0, none⟩) 1 1]).run Tryd.prog (W.alloc (boxT tkT y)) = .ok (.slice a (mo + 1) c) w' ∧
      Hid (w'.ownsRow B tkT 2 (.slice a (mo + 1) c) (mo + 1) ((us ++ [y]).flatMap tkC) ∧ Below B W w') := by
  subst hn
  have hal : Below B W (W.alloc (boxT tkT y)) := (Below.refl _ _).alloc hB _
  obtain ⟨i0, hi, hz0, hz1, hz2⟩ := info_parts infoT
  obtain ⟨v', w', hr, h2, h3, h4⟩ := run_append_own (P := Tryd.prog) (W.alloc (boxT tkT y)) B tksT tksT tkT i0 _ 2 24 Tryd.underlying50 hi hz0 hz1 hz2 rfl (by decide) ou us.length _ (ho.alloc _) ⟨W.heap.size, 0, none⟩ 1 1 (tkC y) rfl (fun j u hu => by rw [addr_add]; exact new_boxT W tkT y j u hu) (one_cell2 y) (by unfold maxLen; omega) (by omega) (by simp; omega)
  obtain ⟨a, c, rfl⟩ := owns_slice h2
  refine ⟨a, c, w', hr, Lib.hid ⟨?_, ?_⟩⟩
  · rw [flat2_snoc]; exact h2
  · exact hal.grown h3 (by simp; omega) fun k hk => ((ho.alloc (boxT tkT y)).lt k hk).1
/-- One token appended, as the document does it. -/
theorem append_oneF (mo : Nat) {us : List Tk} (hn : us.length = mo) (W : World) (B : Nat) (ou : Value) (y : Tk) (ho : W.ownsRow B rfT 2 ou mo (us.flatMap tkC)) (hl : mo ≤ 100000000) (hB : B ≤ W.heap.size) :
    ∃ a c w', (Builtin.append_ #[rfsT, rfsT] rfsT #[ou, .slice (some ⟨W.heap.size, 0, none⟩) 1 1]).run Tryd.prog (W.alloc (boxT rfT y)) = .ok (.slice a (mo + 1) c) w' ∧
      Hid (w'.ownsRow B rfT 2 (.slice a (mo + 1) c) (mo + 1) ((us ++ [y]).flatMap tkC) ∧ Below B W w') := by
  subst hn
  have hal : Below B W (W.alloc (boxT rfT y)) := (Below.refl _ _).alloc hB _
  obtain ⟨i0, hi, hz0, hz1, hz2⟩ := info_parts infoF
  obtain ⟨v', w', hr, h2, h3, h4⟩ := run_append_own (P := Tryd.prog) (W.alloc (boxT rfT y)) B rfsT rfsT rfT i0 _ 2 24 Tryd.underlying56 hi hz0 hz1 hz2 rfl (by decide) ou us.length _ (ho.alloc _) ⟨W.heap.size, 0, none⟩ 1 1 (tkC y) rfl (fun j u hu => by rw [addr_add]; exact new_boxT W rfT y j u hu) (one_cell2 y) (by unfold maxLen; omega) (by omega) (by simp; omega)
  obtain ⟨a, c, rfl⟩ := owns_slice h2
  refine ⟨a, c, w', hr, Lib.hid ⟨?_, ?_⟩⟩
  · rw [flat2_snoc]; exact h2
  · exact hal.grown h3 (by simp; omega) fun k hk => ((ho.alloc (boxT rfT y)).lt k hk).1
theorem append_noT {w : World} {B : Nat} {v : Value} {n cap : Nat} {a : Option Addr} {xs : List Value} (ho : w.ownsRow B tkT 2 v n xs) : (Builtin.append_ #[tksT, tksT] tksT #[v, .slice a 0 cap]).run Tryd.prog w = .ok v w := by
  obtain ⟨i, hi, _, hz1, _⟩ := info_parts infoT
  rcases ho.2 with ⟨rfl, rfl⟩ | ⟨g, c, cur, rfl, _, _, hnc, _⟩
  · cases a <;> simp [Builtin.append_, run_underlying Tryd.underlying50, sizeOf, typeInfo, hi, Builtin.lenOf, Builtin.firstCells, loadCells, loadCellsFrom]
  · cases a <;> simp [Builtin.append_, run_underlying Tryd.underlying50, sizeOf, typeInfo, hi, Builtin.lenOf, Builtin.firstCells, hnc, storeCells, loadCells, loadCellsFrom]
/-- A list appended to an owned list. -/
theorem append_listT (w : World) (B : Nat) (u v : Value) (us ps : List Tk) (ho : w.ownsRow B tkT 2 u us.length (us.flatMap tkC)) (hr : ReadsT w v ps) (hl : us.length ≤ 1000000) (hm : ps.length ≤ 1000000) (hB : B ≤ w.heap.size) :
    ∃ v' w', (Builtin.append_ #[tksT, tksT] tksT #[u, v]).run Tryd.prog w = .ok v' w' ∧
      Hid (w'.ownsRow B tkT 2 v' (us ++ ps).length ((us ++ ps).flatMap tkC) ∧ Below B w w') := by
  obtain ⟨i0, hi, hz0, hz1, hz2⟩ := info_parts infoT
  rcases hr with ⟨a, cap, rfl, rfl⟩ | ⟨b, off, cap, rfl, h1, h2, h3, h4⟩
  · exact ⟨u, w, append_noT ho, Lib.hid ⟨by simpa using ho, Below.refl _ _⟩⟩
  · obtain ⟨v', w', hr, h5, h6, _, h7⟩ := run_append_own_at (P := Tryd.prog) w B tksT tksT tkT i0 _ 2 24 Tryd.underlying50 hi hz0 hz1 hz2 rfl (by decide) u us.length _ ho ⟨b, off, none⟩ ps.length cap (ps.flatMap tkC) (flat2_length ps) (fun j x hx => by
      have hj := (List.getElem?_eq_some_iff.1 hx).1
      rw [flat2_length] at hj
      have hk : j / 2 < ps.length := by omega
      have e := flat2_get ps (j / 2) ps[j / 2] (List.getElem?_eq_getElem hk) (j % 2) (by omega)
      rw [show j / 2 * 2 + j % 2 = j by omega, hx] at e
      have := h4 (j / 2) _ (List.getElem?_eq_getElem hk) (j % 2) x e.symm
      rw [addr_add]
      rwa [show off + j / 2 * 2 + j % 2 = off + j by omega] at this) (flat2_one ps) (by unfold maxLen; omega) (by omega) hB
    refine ⟨v', w', hr, Lib.hid ⟨?_, (Below.refl _ w).grown h6 hB fun k hk => (ho.lt k hk).1⟩⟩
    rw [List.length_append, List.flatMap_append]
    exact h5
theorem results_tk3 {P : Program} {fn : Func} {p u u' : Tmp} {ty : TypeId} (h : fn.results = #[.cell p ty, .tmp u, .tmp u']) (tmps : Array Value) (w : World) (g : Nat) (t : TypeId) (cs : Array Value) (fr : Nat × Nat) (d : TypeDesc)
    (hp : tmps.getD p undef = .pointer (some ⟨g, 0, none⟩)) (hg : w.heap[g]? = some (.cells cs t fr))
    (hu : P.underlying ty = some d) (hd : (match d with | .struct _ | .array _ _ => true | _ => false) = true) (hi : (P.info? ty).map (·.size) = some cs.size) :
    (results fn tmps).run P w = .ok (.tuple #[.agg cs, tmps.getD u undef, tmps.getD u' undef]) w := by
  have hp' : tmps[p]?.getD undef = .pointer (some ⟨g, 0, none⟩) := by simpa using hp
  simp [results, h, hp', asAddr, run_loadVar_row w g t ty cs fr d hg hu hd hi]
end Go.Proofs.YtklmhjoiffaniaaDoor.Lex
