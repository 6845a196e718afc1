/-
  The laws' arguments, opened: a list of changes, a change.
-/
import Derived.Test.YtkbeppmjdjddhaaDoorBatchLawA
import Derived.ProofKit
import Derived.OpenShut
import Derived.SliceStrings
import Derived.ChangeSame
import Derived.Deep.Slices
namespace Go.Proofs.YtkbeppmjdjddhaaDoor.Batch
open Go Go.RowKit Go.ChangeShapes Go.WideShapes Go.ChangeAt

theorem cellsS : Tryd.prog.cellsOf 9 = 1 := by kernel_rfl
theorem cellsB : Tryd.prog.cellsOf 4 = 1 := by kernel_rfl
theorem cellsCh : Tryd.prog.cellsOf 33 = 3 := by kernel_rfl
theorem cell_lt {W : World} {b o : Nat} {x : Value} (h : W.cell? ⟨b, o, none⟩ = some x) : b < W.heap.size := World.block_lt_of_cell? W _ h

section
variable {H : Type} {enc : TypeId × Value → H} {W : World}
theorem trod_struct3 {t : TypeId} {f0 f1 f2 : Field} {fuel : Nat} {cs : List Value} {x : DataW H × List MemPlace} (ht : Tryd.prog.underlying t = some (.struct #[f0, f1, f2])) (h : DataW.trod enc Tryd.prog W 0 (fun _ => true) true fuel t cs = some x) :
    ∃ y0 y1 y2 n, cs.length = Tryd.prog.cellsOf t ∧ DataW.trod enc Tryd.prog W 0 (fun _ => true) true n f0.type ((cs.drop f0.offset).take (Tryd.prog.cellsOf f0.type)) = some y0 ∧
      DataW.trod enc Tryd.prog W 0 (fun _ => true) true n f1.type ((cs.drop f1.offset).take (Tryd.prog.cellsOf f1.type)) = some y1 ∧ DataW.trod enc Tryd.prog W 0 (fun _ => true) true n f2.type ((cs.drop f2.offset).take (Tryd.prog.cellsOf f2.type)) = some y2 := by
  obtain ⟨xs, n, _, rfl, hl, hlen, hf⟩ := DataW.trod_struct ht h
  match xs, hlen with
  | [y0, y1, y2], _ => exact ⟨y0, y1, y2, n, hl, by simpa using hf 0 f0 rfl, by simpa using hf 1 f1 rfl, by simpa using hf 2 f2 rfl⟩
set_option maxRecDepth 100000 in
/-- The three cells of a change. -/
theorem open_chg {fuel : Nat} {cs : List Value} {x : DataW H × List MemPlace} (hf : DataW.trod enc Tryd.prog W 0 (fun _ => true) true fuel 33 cs = some x) : ∃ c : Chg, cs = chC c ∧ OkC c := by
  obtain ⟨y0, y1, y2, n, hl, h0, h1, h2⟩ := trod_struct3 Tryd.underlying33 hf
  rw [cellsCh] at hl
  match cs, hl with
  | [c0, c1, c2], _ =>
    simp only [cellsB, cellsS, List.drop_zero, List.drop_succ_cons, List.take_succ_cons, List.take_zero] at h0 h1 h2
    obtain ⟨k, e0, _, w0⟩ := DataW.trod_string Tryd.underlying9 h0
    obtain ⟨s, e1, _, w1⟩ := DataW.trod_string Tryd.underlying9 h1
    obtain ⟨g, e2, _⟩ := DataW.trod_bool Tryd.underlying4 h2
    obtain rfl := List.cons.inj e0 |>.1
    obtain rfl := List.cons.inj e1 |>.1
    obtain rfl := List.cons.inj e2 |>.1
    unfold maxLen at w0 w1
    exact ⟨⟨k, s, g⟩, rfl, w0, w1⟩
set_option maxRecDepth 100000 in
theorem arg_chgs {base : Nat} {v : Value} {d : DataW H} {p : List MemPlace} (hv : Value.okWide Tryd.prog W .any base 22 v) (h : DataW.Trod enc Tryd.prog W 0 (fun _ => true) true 22 v d p) :
    ∃ es, ReadsC W v es ∧ (∀ e ∈ es, OkC e) ∧ es.length ≤ 9223372036854775807 := by
  obtain ⟨a0, len, cap, rfl⟩ := okWide_slice Tryd.underlying22 hv
  obtain ⟨fuel, hf⟩ := h
  rcases Go.Deep.open_slice Tryd.underlying22 hf with ⟨e, _⟩ | ⟨a, l, c, m, n, D, Pl, e, _, hl, hm, hmm, _, hel⟩
  · have e2 : Value.slice a0 len cap = .slice none 0 0 := by simpa [Value.cells] using e
    rw [e2]
    exact ⟨[], .inl ⟨none, 0, rfl, rfl⟩, by simp, by simp⟩
  · have e2 : Value.slice a0 len cap = .slice (some a) l c := by simpa [Value.cells] using e
    rw [e2]
    simp only [if_true] at hmm
    subst hmm
    rw [cellsCh] at hel
    by_cases h0 : l = 0
    · subst h0
      exact ⟨[], .inl ⟨_, _, rfl, rfl⟩, by simp, by simp⟩
    · have hone : ∀ i, i < l → ∃ e : Chg, W.cells? 0 (a.add (i * 3)) 3 = some (chC e) ∧ OkC e := fun i hi => by
        obtain ⟨cs', h1, h2⟩ := hel i (by omega)
        obtain ⟨e, rfl, h3⟩ := open_chg h2
        exact ⟨e, h1, h3⟩
      haveI : Inhabited Chg := ⟨Chg.none⟩
      obtain ⟨f, hfe⟩ := Go.Deep.choose_lt hone
      have hcell : ∀ i, i < l → ∀ j x, (chC (f i))[j]? = some x → W.cell? ((a.add (i * 3)).add j) = some x := fun i hi j x hx => by
        have hh := World.cells?_some (hfe i hi).1
        rw [hh.2.2 j (by rw [← chC_length (f i)]; exact (List.getElem?_eq_some_iff.1 hx).1)]
        exact hx
      obtain ⟨b, off, spot⟩ := a
      have hspot : spot = none := by simpa [Addr.add] using World.cell?_spot (hcell 0 (by omega) 0 _ rfl)
      subst hspot
      refine ⟨(List.range l).map f, .inr ⟨by simp; omega, b, off, m, by simp, ?_, fun i e hi j x hx => ?_⟩, fun e he => ?_, by unfold maxLen at hm; simp; omega⟩
      · have := hcell 0 (by omega) 0 _ rfl
        rw [addr_add, addr_add] at this
        exact cell_lt this
      · obtain ⟨hi2, rfl⟩ : i < l ∧ f i = e := by
          rw [List.getElem?_map, Option.map_eq_some_iff] at hi
          obtain ⟨y, hy, rfl⟩ := hi
          obtain ⟨h1, h2⟩ := List.getElem?_eq_some_iff.1 hy
          rw [List.getElem_range] at h2
          subst h2
          exact ⟨by simpa using h1, rfl⟩
        have := hcell i hi2 j x hx
        rw [addr_add, addr_add] at this
        exact this
      · obtain ⟨i, hi, rfl⟩ := List.mem_map.1 he
        exact (hfe i (List.mem_range.1 hi)).2
set_option maxRecDepth 100000 in
theorem arg_chg {base : Nat} {v : Value} {d : DataW H} {p : List MemPlace} (hv : Value.okWide Tryd.prog W .any base 33 v) (h : DataW.Trod enc Tryd.prog W 0 (fun _ => true) true 33 v d p) :
    ∃ c : Chg, v = chV c ∧ OkC c := by
  obtain ⟨cs, rfl, hsz, _⟩ : ∃ cs, v = .agg cs ∧ cs.size = Tryd.prog.cellsOf 33 ∧ Row.okWide Tryd.prog W .any base 33 cs := by
    simpa [Value.okWide, Tryd.underlying33] using hv
  obtain ⟨l⟩ := cs
  obtain ⟨fuel, hf⟩ := h
  obtain ⟨c, hc, ho⟩ := open_chg (cs := l) (by simpa [Value.cells] using hf)
  subst hc
  exact ⟨c, rfl, ho⟩
end
end Go.Proofs.YtkbeppmjdjddhaaDoor.Batch
