/-
  Lists of texts and of entries among the arguments, opened.
-/
import Derived.Test.YtoknflnoehmngaaDoorLawB
import Derived.ProofKit
import Derived.OpenShut
import Derived.SliceStrings
import Derived.ChangeSame
import Derived.Deep.Slices
namespace Go.Proofs.YtoknflnoehmngaaDoor.Cell
open Go Go.RowKit Go.ChangeShapes Go.WideShapes Go.ChangeAt

theorem cellsS : Tryd.prog.cellsOf 9 = 1 := by kernel_rfl
theorem cellsI : Tryd.prog.cellsOf 3 = 1 := by kernel_rfl
theorem cellsB : Tryd.prog.cellsOf 4 = 1 := by kernel_rfl
theorem cellsL : Tryd.prog.cellsOf 28 = 1 := by kernel_rfl
theorem cellsV : Tryd.prog.cellsOf 30 = 5 := by kernel_rfl
theorem cellsE : Tryd.prog.cellsOf 32 = 6 := by kernel_rfl

theorem cell_lt {W : World} {b o : Nat} {x : Value} (h : W.cell? ⟨b, o, none⟩ = some x) : b < W.heap.size := by
  rcases Nat.lt_or_ge b W.heap.size with h' | h'
  · exact h'
  · have : W.heap[b]? = none := Array.getElem?_eq_none h'
    simp [World.cell?, this] at h

section
variable {H : Type} {enc : TypeId × Value → H} {W : World}
/-- A list of texts, as it is read: its shape, and what it reads as. -/
theorem open_list {fuel : Nat} {cs : List Value} {x : DataW H × List MemPlace} (hf : DataW.trod enc Tryd.prog W 0 (fun _ => true) true fuel 28 cs = some x) :
    ∃ a len cap ss, cs = [.slice a len cap] ∧ Reads W (.slice a len cap) ss ∧ (∀ s ∈ ss, s.size ≤ 9223372036854775807) ∧ ss.length ≤ 9223372036854775807 := by
  rcases open_strings Tryd.underlying28 Tryd.underlying9 cellsS hf with ⟨rfl, _⟩ | ⟨a, len, cap, ss, rfl, _, hl, hm, hz, _, hcell, hws⟩
  · exact ⟨none, 0, 0, [], rfl, .inl ⟨none, 0, rfl, rfl⟩, by simp, by simp⟩
  · simp only [if_true] at hz
    by_cases h0 : len = 0
    · subst h0
      exact ⟨_, _, _, [], rfl, .inl ⟨_, _, rfl, rfl⟩, by simp, by simp⟩
    · obtain ⟨b, off, spot⟩ := a
      have hspot : spot = none := by simpa [Addr.add] using World.cell?_spot (hcell 0 (by omega))
      subst hspot
      have hc : ∀ i, i < ss.length → W.cell? ⟨b, off + i, none⟩ = some (.string (ss.getD i ByteArray.empty)) := fun i hi => by rw [← addr_add]; exact hcell i hi
      have ht : ∀ i, i < len → (ss.take len).getD i ByteArray.empty = ss.getD i ByteArray.empty := fun i hi => by
        rw [List.getD_eq_getElem?_getD, List.getD_eq_getElem?_getD, List.getElem?_take, if_pos hi]
      have hl2 : (ss.take len).length = len := by simp; omega
      refine ⟨_, _, _, ss.take len, rfl, .inr ⟨by omega, b, off, cap, by rw [hl2], by omega, hm, cell_lt (hc 0 (by omega)), fun i hi => ?_⟩, fun s hs => ?_, by unfold maxLen at hm; omega⟩
      · rw [hl2] at hi
        rw [ht i hi]
        exact hc i (by omega)
      · have := hws s (List.mem_of_mem_take hs)
        unfold maxLen at this
        exact this
theorem trod_struct5 {t : TypeId} {f0 f1 f2 f3 f4 : Field} {fuel : Nat} {cs : List Value} {x : DataW H × List MemPlace} (ht : Tryd.prog.underlying t = some (.struct #[f0, f1, f2, f3, f4])) (h : DataW.trod enc Tryd.prog W 0 (fun _ => true) true fuel t cs = some x) :
    ∃ y0 y1 y2 y3 y4 n, cs.length = Tryd.prog.cellsOf t ∧ DataW.trod enc Tryd.prog W 0 (fun _ => true) true n f0.type ((cs.drop f0.offset).take (Tryd.prog.cellsOf f0.type)) = some y0 ∧
      DataW.trod enc Tryd.prog W 0 (fun _ => true) true n f1.type ((cs.drop f1.offset).take (Tryd.prog.cellsOf f1.type)) = some y1 ∧ DataW.trod enc Tryd.prog W 0 (fun _ => true) true n f2.type ((cs.drop f2.offset).take (Tryd.prog.cellsOf f2.type)) = some y2 ∧
      DataW.trod enc Tryd.prog W 0 (fun _ => true) true n f3.type ((cs.drop f3.offset).take (Tryd.prog.cellsOf f3.type)) = some y3 ∧ DataW.trod enc Tryd.prog W 0 (fun _ => true) true n f4.type ((cs.drop f4.offset).take (Tryd.prog.cellsOf f4.type)) = some y4 := by
  obtain ⟨xs, n, _, rfl, hl, hlen, hf⟩ := DataW.trod_struct ht h
  match xs, hlen with
  | [y0, y1, y2, y3, y4], _ => exact ⟨y0, y1, y2, y3, y4, n, hl, by simpa using hf 0 f0 rfl, by simpa using hf 1 f1 rfl, by simpa using hf 2 f2 rfl, by simpa using hf 3 f3 rfl, by simpa using hf 4 f4 rfl⟩
set_option maxRecDepth 100000 in
/-- The five cells of a value. -/
theorem open_val {fuel : Nat} {cs : List Value} {x : DataW H × List MemPlace} (hf : DataW.trod enc Tryd.prog W 0 (fun _ => true) true fuel 30 cs = some x) :
    ∃ v : Val, cs = valC v ∧ v.s.size ≤ 9223372036854775807 ∧ -9223372036854775808 ≤ v.n ∧ v.n ≤ 9223372036854775807 ∧ -9223372036854775808 ≤ v.kind ∧ v.kind ≤ 9223372036854775807 ∧ Reads W v.lv v.ls ∧ (∀ s ∈ v.ls, s.size ≤ 9223372036854775807) ∧ v.ls.length ≤ 9223372036854775807 := by
  obtain ⟨y0, y1, y2, y3, y4, n, hl, h0, h1, h2, h3, h4⟩ := trod_struct5 Tryd.underlying30 hf
  rw [cellsV] at hl
  match cs, hl with
  | [c0, c1, c2, c3, c4], _ =>
    simp only [cellsS, cellsI, cellsB, cellsL, List.drop_zero, List.drop_succ_cons, List.take_succ_cons, List.take_zero] at h0 h1 h2 h3 h4
    obtain ⟨k, e0, _, w0⟩ := DataW.trod_int Tryd.underlying3 h0
    obtain ⟨s, e1, _, w1⟩ := DataW.trod_string Tryd.underlying9 h1
    obtain ⟨m, e2, _, w2⟩ := DataW.trod_int Tryd.underlying3 h2
    obtain ⟨b, e3, _⟩ := DataW.trod_bool Tryd.underlying4 h3
    obtain ⟨a, len, cap, ss, e4, hr, hz, hn⟩ := open_list h4
    obtain rfl := List.cons.inj e0 |>.1
    obtain rfl := List.cons.inj e1 |>.1
    obtain rfl := List.cons.inj e2 |>.1
    obtain rfl := List.cons.inj e3 |>.1
    obtain rfl := List.cons.inj e4 |>.1
    have b0 := bounds_i64 w0
    have b2 := bounds_i64 w2
    unfold maxLen at w1
    exact ⟨⟨k, s, m, b, a, len, cap, ss⟩, rfl, w1, b2.1, b2.2, b0.1, b0.2, hr, hz, hn⟩
set_option maxRecDepth 100000 in
/-- The six cells of an entry. -/
theorem open_ent {fuel : Nat} {cs : List Value} {x : DataW H × List MemPlace} (hf : DataW.trod enc Tryd.prog W 0 (fun _ => true) true fuel 32 cs = some x) : ∃ e : Ent, cs = entC e ∧ OkE W e := by
  obtain ⟨y0, y1, n, _, hl, h0, h1⟩ := trod_struct2 Tryd.underlying32 hf
  rw [cellsE] at hl
  match cs, hl with
  | [c0, c1, c2, c3, c4, c5], _ =>
    simp only [cellsS, cellsV, List.drop_zero, List.drop_succ_cons, List.take_succ_cons, List.take_zero] at h0 h1
    obtain ⟨s, e0, _, w0⟩ := DataW.trod_string Tryd.underlying9 h0
    obtain ⟨v, e1, z1, z2, z3, z4, z5, z6, z7, z8⟩ := open_val h1
    obtain rfl := List.cons.inj e0 |>.1
    unfold maxLen at w0
    exact ⟨⟨s, v⟩, by rw [e1]; rfl, w0, z1, z2, z3, z4, z5, z6, z7, z8⟩

set_option maxRecDepth 100000 in
theorem arg_list {base : Nat} {v : Value} {d : DataW H} {p : List MemPlace} (hv : Value.okWide Tryd.prog W .any base 28 v) (h : DataW.Trod enc Tryd.prog W 0 (fun _ => true) true 28 v d p) :
    ∃ ss, Reads W v ss ∧ (∀ s ∈ ss, s.size ≤ 9223372036854775807) ∧ ss.length ≤ 9223372036854775807 := by
  obtain ⟨a0, len, cap, rfl⟩ := okWide_slice Tryd.underlying28 hv
  obtain ⟨fuel, hf⟩ := h
  obtain ⟨a, l, c, ss, e, h1, h2, h3⟩ := open_list hf
  have e2 : Value.slice a0 len cap = .slice a l c := by simpa [Value.cells] using e
  rw [e2]
  exact ⟨ss, h1, h2, h3⟩
set_option maxRecDepth 100000 in
theorem arg_ents {base : Nat} {v : Value} {d : DataW H} {p : List MemPlace} (hv : Value.okWide Tryd.prog W .any base 22 v) (h : DataW.Trod enc Tryd.prog W 0 (fun _ => true) true 22 v d p) :
    ∃ es, ReadsE W v es ∧ (∀ e ∈ es, OkE W e) ∧ es.length ≤ 9223372036854775807 := by
  obtain ⟨a0, len, cap, rfl⟩ := okWide_slice Tryd.underlying22 hv
  obtain ⟨fuel, hf⟩ := h
  rcases Go.Deep.open_slice Tryd.underlying22 hf with ⟨e, _⟩ | ⟨a, l, c, m, n, D, Pl, e, _, hl, hm, hmm, _, hel⟩
  · have e2 : Value.slice a0 len cap = .slice none 0 0 := by simpa [Value.cells] using e
    rw [e2]
    exact ⟨[], .inl ⟨none, 0, rfl, rfl⟩, by simp, by simp⟩
  · have e2 : Value.slice a0 len cap = .slice (some a) l c := by simpa [Value.cells] using e
    rw [e2]
    simp only [if_true] at hmm
    subst hmm
    rw [cellsE] at hel
    by_cases h0 : l = 0
    · subst h0
      exact ⟨[], .inl ⟨_, _, rfl, rfl⟩, by simp, by simp⟩
    · have hone : ∀ i, i < l → ∃ e : Ent, W.cells? 0 (a.add (i * 6)) 6 = some (entC e) ∧ OkE W e := fun i hi => by
        obtain ⟨cs', h1, h2⟩ := hel i (by omega)
        obtain ⟨e, rfl, h3⟩ := open_ent h2
        exact ⟨e, h1, h3⟩
      haveI : Inhabited Ent := ⟨⟨⟨#[]⟩, Val.zero⟩⟩
      obtain ⟨f, hfe⟩ := Go.Deep.choose_lt hone
      have hcell : ∀ i, i < l → ∀ j x, (entC (f i))[j]? = some x → W.cell? ((a.add (i * 6)).add j) = some x := fun i hi j x hx => by
        have hh := World.cells?_some (hfe i hi).1
        rw [hh.2.2 j (by rw [← entC_length (f i)]; exact (List.getElem?_eq_some_iff.1 hx).1)]
        exact hx
      obtain ⟨b, off, spot⟩ := a
      have hspot : spot = none := by simpa [Addr.add] using World.cell?_spot (hcell 0 (by omega) 0 _ rfl)
      subst hspot
      refine ⟨(List.range l).map f, .inr ⟨by simp; omega, b, off, m, by simp, ?_, fun i e hi j x hx => ?_⟩, fun e he => ?_, by unfold maxLen at hm; simp; omega⟩
      · have := hcell 0 (by omega) 0 _ rfl
        rw [addr_add, addr_add] at this
        exact cell_lt this
      · obtain ⟨hi2, rfl⟩ : i < l ∧ f i = e := by
          rw [List.getElem?_map, Option.map_eq_some_iff] at hi
          obtain ⟨y, hy, rfl⟩ := hi
          obtain ⟨h1, h2⟩ := List.getElem?_eq_some_iff.1 hy
          rw [List.getElem_range] at h2
          subst h2
          exact ⟨by simpa using h1, rfl⟩
        have := hcell i hi2 j x hx
        rw [addr_add, addr_add] at this
        exact this
      · obtain ⟨i, hi, rfl⟩ := List.mem_map.1 he
        exact (hfe i (List.mem_range.1 hi)).2
end
end Go.Proofs.YtoknflnoehmngaaDoor.Cell
