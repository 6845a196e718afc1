/-
  A list of tokens among the arguments, opened.
-/
import Derived.Test.YtjdlhfjmcghdlaaLexTok
import Derived.ProofKit
import Derived.OpenShut
import Derived.SliceStrings
import Derived.ChangeSame
import Derived.Deep.Slices
import Derived.Deep.Grids
import Derived.Laws.BitsAllLaws
namespace Go.Proofs.Ytjdlhfjmcghdlaa.Lex
open Go Go.RowKit Go.ChangeShapes Go.WideShapes Go.ChangeAt

theorem cellsStr : Try.prog.cellsOf 9 = 1 := by kernel_rfl
theorem cellsI : Try.prog.cellsOf 3 = 1 := by kernel_rfl
theorem cellsTk : Try.prog.cellsOf 33 = 2 := by kernel_rfl
theorem cell_lt {W : World} {b o : Nat} {x : Value} (h : W.cell? ⟨b, o, none⟩ = some x) : b < W.heap.size := World.block_lt_of_cell? W _ h
section
variable {H : Type} {enc : TypeId × Value → H} {W : World}
set_option maxRecDepth 100000 in
/-- The two cells of a token. -/
theorem open_tok {fuel : Nat} {cs : List Value} {x : DataW H × List MemPlace} (hf : DataW.trod enc Try.prog W 0 (fun _ => true) true fuel 33 cs = some x) : ∃ c : Tk, cs = tkC c := by
  obtain ⟨y0, y1, n, _, hl, h0, h1⟩ := trod_struct2 Try.underlying33 hf
  rw [cellsTk] at hl
  match cs, hl with
  | [c0, c1], _ =>
    simp only [cellsI, cellsStr, List.drop_zero, List.drop_succ_cons, List.take_succ_cons, List.take_zero] at h0 h1
    obtain ⟨k, e0, _, w0⟩ := DataW.trod_int Try.underlying3 h0
    obtain ⟨s, e1, _, w1⟩ := DataW.trod_string Try.underlying9 h1
    obtain rfl := List.cons.inj e0 |>.1
    obtain rfl := List.cons.inj e1 |>.1
    exact ⟨⟨k, s⟩, rfl⟩
set_option maxRecDepth 100000 in
theorem open_toks {fuel : Nat} {cs : List Value} {x : DataW H × List MemPlace} (hf : DataW.trod enc Try.prog W 0 (fun _ => true) true fuel 27 cs = some x) :
    ∃ a len cap es, cs = [.slice a len cap] ∧ ReadsT W (.slice a len cap) es ∧ es.length ≤ 9223372036854775807 := by
  rcases Go.Deep.open_slice Try.underlying27 hf with ⟨e, _⟩ | ⟨a, l, c, m, n, D, Pl, e, _, hl, hm, hmm, _, hel⟩
  · exact ⟨none, 0, 0, [], e, .inl ⟨none, 0, rfl, rfl⟩, by simp⟩
  · simp only [if_true] at hmm
    subst hmm
    rw [cellsTk] at hel
    by_cases h0 : l = 0
    · subst h0
      exact ⟨_, _, _, [], e, .inl ⟨_, _, rfl, rfl⟩, by simp⟩
    · have hone : ∀ i, i < l → ∃ e : Tk, W.cells? 0 (a.add (i * 2)) 2 = some (tkC e) := fun i hi => by
        obtain ⟨cs', h1, h2⟩ := hel i (by omega)
        obtain ⟨e, rfl⟩ := open_tok h2
        exact ⟨e, h1⟩
      haveI : Inhabited Tk := ⟨⟨0, ⟨#[]⟩⟩⟩
      obtain ⟨f, hfe⟩ := Go.Deep.choose_lt hone
      have hcell : ∀ i, i < l → ∀ j x, (tkC (f i))[j]? = some x → W.cell? ((a.add (i * 2)).add j) = some x := fun i hi j x hx => by
        have hh := World.cells?_some (hfe i hi)
        rw [hh.2.2 j (by rw [← tkC_length (f i)]; exact (List.getElem?_eq_some_iff.1 hx).1)]
        exact hx
      obtain ⟨b, off, spot⟩ := a
      have hspot : spot = none := by simpa [Addr.add] using World.cell?_spot (hcell 0 (by omega) 0 _ rfl)
      subst hspot
      have hlen : ((List.range l).map f).length = l := by simp
      refine ⟨_, _, _, (List.range l).map f, e, .inr ⟨b, off, m, by rw [hlen], by rw [hlen]; omega, by unfold maxLen at hm; omega, ?_, fun i e hi j x hx => ?_⟩, by unfold maxLen at hm; rw [hlen]; omega⟩
      · have := hcell 0 (by omega) 0 _ rfl
        rw [addr_add, addr_add] at this
        exact cell_lt this
      · obtain ⟨hi2, rfl⟩ : i < l ∧ f i = e := by
          rw [List.getElem?_map, Option.map_eq_some_iff] at hi
          obtain ⟨y, hy, rfl⟩ := hi
          obtain ⟨h1, h2⟩ := List.getElem?_eq_some_iff.1 hy
          rw [List.getElem_range] at h2
          subst h2
          exact ⟨by simpa using h1, rfl⟩
        have := hcell i hi2 j x hx
        rw [addr_add, addr_add] at this
        exact this
set_option maxRecDepth 100000 in
theorem arg_toks {base : Nat} {v : Value} {d : DataW H} {p : List MemPlace} (hv : Value.okWide Try.prog W .any base 27 v) (h : DataW.Trod enc Try.prog W 0 (fun _ => true) true 27 v d p) :
    ∃ es, ReadsT W v es ∧ es.length < 9223372036854775808 := by
  obtain ⟨a0, len, cap, rfl⟩ := okWide_slice Try.underlying27 hv
  obtain ⟨fuel, hf⟩ := h
  obtain ⟨a, l, c, es, e, h1, h2⟩ := open_toks hf
  have e2 : Value.slice a0 len cap = .slice a l c := by simpa [Value.cells] using e
  rw [e2]
  exact ⟨es, h1, by omega⟩
end
end Go.Proofs.Ytjdlhfjmcghdlaa.Lex
