/-
  A field, and a list of fields, among the arguments, opened; what the world's shape tells of internal/bytealg.MaxLen.
-/
import Derived.Test.YtpklmlhioklpoaaDoorHeadMem
import Derived.ProofKit
import Derived.OpenShut
import Derived.SliceStrings
import Derived.ChangeSame
import Derived.Shelf.Vars
import Derived.Deep.Slices
import Derived.Deep.Grids
namespace Go.Proofs.YtpklmlhioklpoaaDoor.Head
open Go Go.RowKit Go.ChangeShapes Go.WideShapes Go.ChangeAt

theorem cellsStr : Tryd.prog.cellsOf 9 = 1 := by kernel_rfl
theorem cellsFd : Tryd.prog.cellsOf 35 = 2 := by kernel_rfl
theorem maxAt_of_shape {W : World} (h : W.ShapedOpen Tryd.prog) : MaxAt W :=
  Go.Proofs.cell_of_shapedOpen_int (zero := #[.int .i64 0]) (t := 3) h (of_decide_eq_true (by kernel_rfl)) (by kernel_rfl) rfl (by kernel_rfl) (by kernel_rfl) Tryd.underlying3
section
variable {H : Type} {enc : TypeId × Value → H} {W : World}
set_option maxRecDepth 100000 in
/-- The two cells of a field. -/
theorem open_fd {fuel : Nat} {cs : List Value} {x : DataW H × List MemPlace} (hf : DataW.trod enc Tryd.prog W 0 (fun _ => true) true fuel 35 cs = some x) : ∃ f : Fd, cs = fdC f := by
  obtain ⟨y0, y1, n, _, hl, h0, h1⟩ := trod_struct2 Tryd.underlying35 hf
  rw [cellsFd] at hl
  match cs, hl with
  | [c0, c1], _ =>
    simp only [cellsStr, List.drop_zero, List.drop_succ_cons, List.take_succ_cons, List.take_zero] at h0 h1
    obtain ⟨k, e0, _, w0⟩ := DataW.trod_string Tryd.underlying9 h0
    obtain ⟨s, e1, _, w1⟩ := DataW.trod_string Tryd.underlying9 h1
    obtain rfl := List.cons.inj e0 |>.1
    obtain rfl := List.cons.inj e1 |>.1
    exact ⟨⟨k, s⟩, rfl⟩
set_option maxRecDepth 100000 in
theorem arg_fd {base : Nat} {v : Value} {d : DataW H} {p : List MemPlace} (hv : Value.okWide Tryd.prog W .any base 35 v) (h : DataW.Trod enc Tryd.prog W 0 (fun _ => true) true 35 v d p) :
    ∃ f : Fd, v = fdV f := by
  obtain ⟨cs, rfl, hsz, _⟩ : ∃ cs, v = .agg cs ∧ cs.size = Tryd.prog.cellsOf 35 ∧ Row.okWide Tryd.prog W .any base 35 cs := by
    simpa [Value.okWide, Tryd.underlying35] using hv
  obtain ⟨l⟩ := cs
  obtain ⟨fuel, hf⟩ := h
  obtain ⟨f1, hc⟩ := open_fd (cs := l) (by simpa [Value.cells] using hf)
  subst hc
  exact ⟨f1, rfl⟩
set_option maxRecDepth 100000 in
theorem arg_fds {base : Nat} {v : Value} {d : DataW H} {p : List MemPlace} (hv : Value.okWide Tryd.prog W .any base 27 v) (h : DataW.Trod enc Tryd.prog W 0 (fun _ => true) true 27 v d p) :
    ∃ q, ReadsF W v q := by
  obtain ⟨a0, len, cap, rfl⟩ := okWide_slice Tryd.underlying27 hv
  obtain ⟨fuel, hf⟩ := h
  rcases Go.Deep.open_slice Tryd.underlying27 hf with ⟨e, _⟩ | ⟨a, l, c, m, n, D, Pl, e, _, hl, hm, hmm, _, hel⟩
  · have e2 : Value.slice a0 len cap = .slice none 0 0 := by simpa [Value.cells] using e
    rw [e2]
    exact ⟨[], .inl ⟨none, 0, rfl, rfl⟩⟩
  · have e2 : Value.slice a0 len cap = .slice (some a) l c := by simpa [Value.cells] using e
    rw [e2]
    simp only [if_true] at hmm
    subst hmm
    rw [cellsFd] at hel
    by_cases h0 : l = 0
    · subst h0
      exact ⟨[], .inl ⟨_, _, rfl, rfl⟩⟩
    · have hone : ∀ i, i < l → ∃ e : Fd, W.cells? 0 (a.add (i * 2)) 2 = some (fdC e) := fun i hi => by
        obtain ⟨cs', h1, h2⟩ := hel i (by omega)
        obtain ⟨e, rfl⟩ := open_fd h2
        exact ⟨e, h1⟩
      haveI : Inhabited Fd := ⟨⟨⟨#[]⟩, ⟨#[]⟩⟩⟩
      obtain ⟨f, hfe⟩ := Go.Deep.choose_lt hone
      have hcell : ∀ i, i < l → ∀ j x, (fdC (f i))[j]? = some x → W.cell? ((a.add (i * 2)).add j) = some x := fun i hi j x hx => by
        have hh := World.cells?_some (hfe i hi)
        rw [hh.2.2 j (by rw [← tkC_length (f i)]; exact (List.getElem?_eq_some_iff.1 hx).1)]
        exact hx
      obtain ⟨b, off, spot⟩ := a
      have hspot : spot = none := by simpa [Addr.add] using World.cell?_spot (hcell 0 (by omega) 0 _ rfl)
      subst hspot
      refine ⟨(List.range l).map f, .inr ⟨b, off, m, by simp, by simp; omega, by unfold maxLen at hm; omega, ?_, fun i e hi j x hx => ?_⟩⟩
      · have := hcell 0 (by omega) 0 _ rfl
        rw [addr_add, addr_add] at this
        exact cell_lt this
      · obtain ⟨hi2, rfl⟩ : i < l ∧ f i = e := by
          rw [List.getElem?_map, Option.map_eq_some_iff] at hi
          obtain ⟨y, hy, rfl⟩ := hi
          obtain ⟨h1, h2⟩ := List.getElem?_eq_some_iff.1 hy
          rw [List.getElem_range] at h2
          subst h2
          exact ⟨by simpa using h1, rfl⟩
        have := hcell i hi2 j x hx
        rw [addr_add, addr_add] at this
        exact this
end
end Go.Proofs.YtpklmlhioklpoaaDoor.Head
