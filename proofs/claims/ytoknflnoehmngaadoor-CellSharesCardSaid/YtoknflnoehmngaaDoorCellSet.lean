/-
  Walks of the document's answer: Set.
-/
import Derived.Test.YtoknflnoehmngaaDoorCellRef
namespace Go.Proofs.YtoknflnoehmngaaDoor.Cell
open Go Go.RowKit
open Go.Proofs.YtoknflnoehmngaaDoor.Nets (putS rowS Tab)

theorem entC_length (e : Ent) : (entC e).length = 6 := rfl
theorem flat_length (q : List Ent) : (q.flatMap entC).length = q.length * 6 := by
  induction q with
  | nil => rfl
  | cons e q ih => rw [List.flatMap_cons, List.length_append, ih, entC_length, List.length_cons]; omega
theorem flat_get : ∀ (q : List Ent) (i : Nat) (e : Ent), q[i]? = some e → ∀ j, j < 6 → (q.flatMap entC)[i * 6 + j]? = (entC e)[j]?
  | [], _, _, h, _, _ => by simp at h
  | x :: q, 0, e, h, j, hj => by
    obtain rfl : x = e := by simpa using h
    rw [List.flatMap_cons, List.getElem?_append_left (by rw [entC_length]; omega)]
    simp
  | x :: q, i + 1, e, h, j, hj => by
    rw [List.flatMap_cons, List.getElem?_append_right (by rw [entC_length]; omega), entC_length, show (i + 1) * 6 + j - 6 = i * 6 + j by omega]
    exact flat_get q i e (by simpa using h) j hj
theorem reads_ownsE {w : World} {B : Nat} {v : Value} {q : List Ent} (h : w.ownsRow B 32 6 v q.length (q.flatMap entC)) : ReadsE w v q := by
  have hc := fun g hg => h.cells (g := g) hg
  have hlt := h.lt
  rcases h.2 with ⟨rfl, hn⟩ | ⟨g, cap, cur, rfl, hb, hg, h1, h2, _, _⟩
  · exact .inl ⟨none, 0, rfl, List.length_eq_zero_iff.1 hn⟩
  · by_cases h0 : q.length = 0
    · exact .inl ⟨some ⟨g, 0, none⟩, cap, by rw [h0], List.length_eq_zero_iff.1 h0⟩
    · refine .inr ⟨by omega, g, 0, cap, rfl, (hlt g rfl).2, fun i e hi j v hv => ?_⟩
      have hj : j < 6 := by
        have := (List.getElem?_eq_some_iff.1 hv).1
        rw [entC_length] at this
        exact this
      have e1 := hc g rfl (i * 6 + j) v (by rw [flat_get q i e hi j hj]; exact hv)
      rw [addr_add] at e1
      rw [← e1]
      congr 2
      omega
theorem infoEnt : (Tryd.prog.info? 32).map (fun i => (i.zero, i.size, i.bytes)) = some (some (.agg #[.string ⟨#[]⟩, .int .i64 0, .string ⟨#[]⟩, .int .i64 0, .bool false, .slice none 0 0]), 6, 80) := by kernel_rfl
theorem new_ent (w : World) (e : Ent) : ∀ (j : Nat) (u : Value), (entC e)[j]? = some u → (w.alloc (.cells #[.string e.name, .int .i64 e.v.kind, .string e.v.s, .int .i64 e.v.n, .bool e.v.is, e.v.lv] 32)).cell? ((⟨w.heap.size, 0, none⟩ : Addr).add j) = some u := by
  intro j u h
  have hb := heap_alloc_new w (.cells #[.string e.name, .int .i64 e.v.kind, .string e.v.s, .int .i64 e.v.n, .bool e.v.is, e.v.lv] 32)
  rw [addr_add]
  simp only [World.cell?, hb, Nat.zero_add]
  unfold entC valC at h
  match j, h with
  | 0, h => simpa using h
  | 1, h => simpa using h
  | 2, h => simpa using h
  | 3, h => simpa using h
  | 4, h => simpa using h
  | 5, h => simpa using h
  | j + 6, h => simp at h
theorem ent_one (e : Ent) : ∀ u ∈ entC e, u.oneCell' = true := by
  intro u hu
  unfold entC valC at hu
  simp only [List.mem_cons, List.not_mem_nil, or_false] at hu
  rcases hu with rfl | rfl | rfl | rfl | rfl | rfl <;> rfl

abbrev boxE (e : Ent) : Obj := .cells #[.string e.name, .int .i64 e.v.kind, .string e.v.s, .int .i64 e.v.n, .bool e.v.is, e.v.lv] 32
def okB (e : Ent) : Bool := okKind e.v.kind
def SetAt (w0 : World) (q : List Ent) (e : Ent) (ov pv i : Value) (wr : World) : Prop :=
  ∃ (k : Nat) (u : Value), k ≤ q.length ∧ i = .int .i64 k ∧ pv = .bool (flag Ent.name (okB e) e (q.take k)) ∧ u = ov ∧ wr.ownsRow w0.heap.size 32 6 u (outs Ent.name (okB e) e (q.take k)).length ((outs Ent.name (okB e) e (q.take k)).flatMap entC) ∧ Below w0.heap.size w0 wr

theorem less_toList (a b : ByteArray) : Op.bytesLess a.toList b.toList = less a b := by rw [Lib.toList_data, Lib.toList_data]; rfl
theorem SetAt_step {w0 w2 : World} {q : List Ent} {e x : Ent} {k : Nat} {ov pv : Value} {fl lb : Bool} (L : List Ent) (hkx : q[k]? = some x) (hr : Rising Ent.name q) (hfl : flag Ent.name (okB e) e (q.take k) = fl) (hlb : less x.name e.name = lb)
    (hL : L = (if !fl && !lb then outs Ent.name (okB e) e (q.take k) ++ [e] else outs Ent.name (okB e) e (q.take k)) ++ (if x.name = e.name then [] else [x])) (hp : pv = .bool (fl || !lb))
    (hO : w2.ownsRow w0.heap.size 32 6 ov L.length (L.flatMap entC)) (hb : Below w0.heap.size w0 w2) : SetAt w0 q e ov pv (.int .i64 ((k : Int) + 1)) w2 := by
  have ht : q.take (k + 1) = q.take k ++ [x] := by rw [List.take_add_one, hkx]; rfl
  have hr2 : Rising Ent.name (q.take k ++ [x]) := by rw [← ht]; exact List.Pairwise.sublist (List.take_sublist _ _) hr
  have hlt := (List.getElem?_eq_some_iff.1 hkx).1
  refine ⟨k + 1, ov, by omega, by simp, ?_, rfl, ?_, hb⟩
  · rw [ht, flag_snoc, hfl, hlb]; exact hp
  · rw [ht, outs_snoc Ent.name (okB e) e (q.take k) x hr2, hfl, hlb, ← hL]; exact hO
theorem flat_snoc (l : List Ent) (e : Ent) : (l ++ [e]).flatMap entC = l.flatMap entC ++ entC e := by simp
/-- One entry, just laid, appended to a list of the call's own. -/
theorem append_ent (w : World) (v : Value) (l : List Ent) (e : Ent) (B : Nat) (ho : w.ownsRow B 32 6 v l.length (l.flatMap entC)) (hl : l.length ≤ 2000) (hB : B ≤ w.heap.size) :
    ∃ v' w', (Builtin.append_ #[22, 22] 22 #[v, .slice (some ⟨w.heap.size, 0, none⟩) 1 1]).run Tryd.prog (w.alloc (boxE e)) = .ok v' w' ∧
      Hid (w'.ownsRow B 32 6 v' (l ++ [e]).length ((l ++ [e]).flatMap entC) ∧ Below B w w') := by
  obtain ⟨i0, hi, hz0, hz1, hz2⟩ := info_parts infoEnt
  obtain ⟨v', w', hr, h2, h3, h4⟩ := run_append_own (P := Tryd.prog) (w.alloc (boxE e)) B 22 22 32 i0 _ 6 80 Tryd.underlying22 hi hz0 hz1 hz2 rfl (by decide) v l.length _ (ho.alloc _) ⟨w.heap.size, 0, none⟩ 1 1 (entC e) rfl (new_ent w e) (ent_one e) (by unfold maxLen; omega) (by omega) (by simp; omega)
  refine ⟨v', w', hr, Lib.hid ⟨?_, ?_⟩⟩
  · rw [flat_snoc, List.length_append]; exact h2
  · have h5 : Below B w (w.alloc (boxE e)) := (Below.refl _ _).alloc hB _
    exact h5.grown h3 (by simp; omega) (fun k hk => (ho.lt k hk).1)

/-- The cells of the entry in its box, and of one in the list, in every world that keeps both. -/
theorem all_cells {w W : World} {b o : Nat} {e x : Ent} (h : w.rangeAt b o (entC x)) (hl : b < w.heap.size) (hb : Below (w.alloc (boxE e)).heap.size (w.alloc (boxE e)) W) : W.rangeAt w.heap.size 0 (entC e) ∧ W.rangeAt b o (entC x) := by
  have hH := heap_alloc_new w (boxE e)
  have hH2 : W.heap[w.heap.size]? = some (boxE e) := (hb.block _ (by simp)).trans hH
  refine ⟨fun j v hv => ?_, range_below (range_below h hl ((Below.refl _ _).alloc (Nat.le_refl _) (boxE e))) (by simp; omega) hb⟩
  have hn := new_ent w e j v hv
  rw [addr_add] at hn
  rw [← hn]
  simp only [World.cell?, hH2, hH]
theorem range_box {w W : World} {e : Ent} (hb : Below (w.alloc (boxE e)).heap.size (w.alloc (boxE e)) W) : W.rangeAt w.heap.size 0 (entC e) := by
  have hH := heap_alloc_new w (boxE e)
  have hH2 : W.heap[w.heap.size]? = some (boxE e) := (hb.block _ (by simp)).trans hH
  intro j v hv
  have hn := new_ent w e j v hv
  rw [addr_add] at hn
  rw [← hn]
  simp only [World.cell?, hH2, hH]
end Go.Proofs.YtoknflnoehmngaaDoor.Cell
