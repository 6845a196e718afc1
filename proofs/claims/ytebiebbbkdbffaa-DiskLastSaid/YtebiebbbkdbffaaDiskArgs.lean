/-
  The laws' arguments, opened: a pair of numbers, a list of calls, a list of bools.
-/
import Derived.Test.YtebiebbbkdbffaaLawP
import Derived.ProofKit
import Derived.OpenShut
import Derived.SliceStrings
import Derived.ChangeSame
import Derived.Deep.Slices
import Derived.Deep.Grids
import Derived.Laws.BitsAllLaws
namespace Go.Proofs.Ytebiebbbkdbffaa.Disk
open Go Go.RowKit Go.ChangeShapes Go.WideShapes Go.ChangeAt

theorem cellsS : Try.prog.cellsOf 9 = 1 := by kernel_rfl
theorem cellsI : Try.prog.cellsOf 3 = 1 := by kernel_rfl
theorem cellsB : Try.prog.cellsOf 4 = 1 := by kernel_rfl
theorem cellsU : Try.prog.cellsOf 5 = 1 := by kernel_rfl
theorem cellsK : Try.prog.cellsOf 37 = 1 := by kernel_rfl
theorem cellsAct : Try.prog.cellsOf 39 = 7 := by kernel_rfl
theorem cellsG : Try.prog.cellsOf 22 = 2 := by kernel_rfl
theorem cell_lt {W : World} {b o : Nat} {x : Value} (h : W.cell? ⟨b, o, none⟩ = some x) : b < W.heap.size := World.block_lt_of_cell? W _ h

section
variable {H : Type} {enc : TypeId × Value → H} {W : World}
/-- A list of bools, as it is read: its shape, and what it reads as. -/
theorem open_keep {fuel : Nat} {cs : List Value} {x : DataW H × List MemPlace} (hf : DataW.trod enc Try.prog W 0 (fun _ => true) true fuel 37 cs = some x) :
    ∃ a len cap ks, cs = [.slice a len cap] ∧ ReadsK W (.slice a len cap) ks ∧ ks.length ≤ 9223372036854775807 := by
  rcases Go.Deep.open_bools Try.underlying37 Try.underlying4 cellsB hf with ⟨rfl, _⟩ | ⟨a, len, cap, F, rfl, _, hl, hm, _, hx⟩
  · exact ⟨none, 0, 0, [], rfl, .inl ⟨none, 0, rfl, rfl⟩, by simp⟩
  · by_cases h0 : len = 0
    · subst h0
      exact ⟨_, _, _, [], rfl, .inl ⟨_, _, rfl, rfl⟩, by simp⟩
    · obtain ⟨b, off, spot⟩ := a
      have hspot : spot = none := by simpa [Addr.add] using World.cell?_spot (hx 0 (by omega))
      subst hspot
      have hc : ∀ i, i < cap → W.cell? ⟨b, off + i, none⟩ = some (.bool (F i)) := fun i hi => by rw [← addr_add]; exact hx i hi
      have hlen : ((List.range len).map F).length = len := by simp
      refine ⟨_, _, _, (List.range len).map F, rfl, .inr ⟨by omega, b, off, cap, by rw [hlen], cell_lt (hc 0 (by omega)), fun i hi => ?_⟩, by unfold maxLen at hm; omega⟩
      rw [hlen] at hi
      rw [hc i (by omega)]
      simp [List.getD_eq_getElem?_getD, hi]
theorem trod_struct7 {t : TypeId} {f0 f1 f2 f3 f4 f5 f6 : Field} {fuel : Nat} {cs : List Value} {x : DataW H × List MemPlace} (ht : Try.prog.underlying t = some (.struct #[f0, f1, f2, f3, f4, f5, f6])) (h : DataW.trod enc Try.prog W 0 (fun _ => true) true fuel t cs = some x) :
    ∃ y0 y1 y2 y3 y4 y5 y6 n, cs.length = Try.prog.cellsOf t ∧ DataW.trod enc Try.prog W 0 (fun _ => true) true n f0.type ((cs.drop f0.offset).take (Try.prog.cellsOf f0.type)) = some y0 ∧
      DataW.trod enc Try.prog W 0 (fun _ => true) true n f1.type ((cs.drop f1.offset).take (Try.prog.cellsOf f1.type)) = some y1 ∧ DataW.trod enc Try.prog W 0 (fun _ => true) true n f2.type ((cs.drop f2.offset).take (Try.prog.cellsOf f2.type)) = some y2 ∧
      DataW.trod enc Try.prog W 0 (fun _ => true) true n f3.type ((cs.drop f3.offset).take (Try.prog.cellsOf f3.type)) = some y3 ∧ DataW.trod enc Try.prog W 0 (fun _ => true) true n f4.type ((cs.drop f4.offset).take (Try.prog.cellsOf f4.type)) = some y4 ∧
      DataW.trod enc Try.prog W 0 (fun _ => true) true n f5.type ((cs.drop f5.offset).take (Try.prog.cellsOf f5.type)) = some y5 ∧ DataW.trod enc Try.prog W 0 (fun _ => true) true n f6.type ((cs.drop f6.offset).take (Try.prog.cellsOf f6.type)) = some y6 := by
  obtain ⟨xs, n, _, rfl, hl, hlen, hf⟩ := DataW.trod_struct ht h
  match xs, hlen with
  | [y0, y1, y2, y3, y4, y5, y6], _ => exact ⟨y0, y1, y2, y3, y4, y5, y6, n, hl, by simpa using hf 0 f0 rfl, by simpa using hf 1 f1 rfl, by simpa using hf 2 f2 rfl, by simpa using hf 3 f3 rfl, by simpa using hf 4 f4 rfl, by simpa using hf 5 f5 rfl, by simpa using hf 6 f6 rfl⟩
set_option maxRecDepth 100000 in
/-- The seven cells of a call. -/
theorem open_act {fuel : Nat} {cs : List Value} {x : DataW H × List MemPlace} (hf : DataW.trod enc Try.prog W 0 (fun _ => true) true fuel 39 cs = some x) : ∃ a : Act, cs = aC a ∧ OkL W a := by
  obtain ⟨y0, y1, y2, y3, y4, y5, y6, n, hl, h0, h1, h2, h3, h4, h5, h6⟩ := trod_struct7 Try.underlying39 hf
  rw [cellsAct] at hl
  match cs, hl with
  | [c0, c1, c2, c3, c4, c5, c6], _ =>
    simp only [cellsI, cellsB, cellsU, cellsK, List.drop_zero, List.drop_succ_cons, List.take_succ_cons, List.take_zero] at h0 h1 h2 h3 h4 h5 h6
    obtain ⟨k, e0, _, w0⟩ := DataW.trod_int Try.underlying3 h0
    obtain ⟨at_, e1, _, w1⟩ := DataW.trod_int Try.underlying3 h1
    obtain ⟨m, e2, _, w2⟩ := DataW.trod_int Try.underlying3 h2
    obtain ⟨f, e3, _, w3⟩ := DataW.trod_int Try.underlying5 h3
    obtain ⟨sh, e4, _⟩ := DataW.trod_bool Try.underlying4 h4
    obtain ⟨is, e5, _⟩ := DataW.trod_bool Try.underlying4 h5
    obtain ⟨a, len, cap, ks, e6, hr, hn⟩ := open_keep h6
    obtain rfl := List.cons.inj e0 |>.1
    obtain rfl := List.cons.inj e1 |>.1
    obtain rfl := List.cons.inj e2 |>.1
    obtain rfl := List.cons.inj e3 |>.1
    obtain rfl := List.cons.inj e4 |>.1
    obtain rfl := List.cons.inj e5 |>.1
    obtain rfl := List.cons.inj e6 |>.1
    have b2 := bounds_i64 w2
    have b3 := bounds_u8 w3
    obtain ⟨f', rfl⟩ := Int.eq_ofNat_of_zero_le (show 0 ≤ f by omega)
    exact ⟨⟨k, at_, m, f', sh, is, .slice a len cap, ks⟩, rfl, b2, by show f' < 256; omega, hr, hn⟩
theorem aC_length (a : Act) : (aC a).length = 7 := rfl
set_option maxRecDepth 100000 in
theorem arg_acts {base : Nat} {v : Value} {d : DataW H} {p : List MemPlace} (hv : Value.okWide Try.prog W .any base 23 v) (h : DataW.Trod enc Try.prog W 0 (fun _ => true) true 23 v d p) :
    ∃ es, ReadsA W v es ∧ (∀ e ∈ es, OkL W e) ∧ es.length ≤ 9223372036854775807 := by
  obtain ⟨a0, len, cap, rfl⟩ := okWide_slice Try.underlying23 hv
  obtain ⟨fuel, hf⟩ := h
  rcases Go.Deep.open_slice Try.underlying23 hf with ⟨e, _⟩ | ⟨a, l, c, m, n, D, Pl, e, _, hl, hm, hmm, _, hel⟩
  · have e2 : Value.slice a0 len cap = .slice none 0 0 := by simpa [Value.cells] using e
    rw [e2]
    exact ⟨[], .inl ⟨none, 0, rfl, rfl⟩, by simp, by simp⟩
  · have e2 : Value.slice a0 len cap = .slice (some a) l c := by simpa [Value.cells] using e
    rw [e2]
    simp only [if_true] at hmm
    subst hmm
    rw [cellsAct] at hel
    by_cases h0 : l = 0
    · subst h0
      exact ⟨[], .inl ⟨_, _, rfl, rfl⟩, by simp, by simp⟩
    · have hone : ∀ i, i < l → ∃ e : Act, W.cells? 0 (a.add (i * 7)) 7 = some (aC e) ∧ OkL W e := fun i hi => by
        obtain ⟨cs', h1, h2⟩ := hel i (by omega)
        obtain ⟨e, rfl, h3⟩ := open_act h2
        exact ⟨e, h1, h3⟩
      haveI : Inhabited Act := ⟨⟨0, 0, 0, 0, false, false, .slice none 0 0, []⟩⟩
      obtain ⟨f, hfe⟩ := Go.Deep.choose_lt hone
      have hcell : ∀ i, i < l → ∀ j x, (aC (f i))[j]? = some x → W.cell? ((a.add (i * 7)).add j) = some x := fun i hi j x hx => by
        have hh := World.cells?_some (hfe i hi).1
        rw [hh.2.2 j (by rw [← aC_length (f i)]; exact (List.getElem?_eq_some_iff.1 hx).1)]
        exact hx
      obtain ⟨b, off, spot⟩ := a
      have hspot : spot = none := by simpa [Addr.add] using World.cell?_spot (hcell 0 (by omega) 0 _ rfl)
      subst hspot
      refine ⟨(List.range l).map f, .inr ⟨by simp; omega, b, off, m, by simp, ?_, fun i e hi j x hx => ?_⟩, fun e he => ?_, by unfold maxLen at hm; simp; omega⟩
      · have := hcell 0 (by omega) 0 _ rfl
        rw [addr_add, addr_add] at this
        exact cell_lt this
      · obtain ⟨hi2, rfl⟩ : i < l ∧ f i = e := by
          rw [List.getElem?_map, Option.map_eq_some_iff] at hi
          obtain ⟨y, hy, rfl⟩ := hi
          obtain ⟨h1, h2⟩ := List.getElem?_eq_some_iff.1 hy
          rw [List.getElem_range] at h2
          subst h2
          exact ⟨by simpa using h1, rfl⟩
        have := hcell i hi2 j x hx
        rw [addr_add, addr_add] at this
        exact this
      · obtain ⟨i, hi, rfl⟩ := List.mem_map.1 he
        exact (hfe i (List.mem_range.1 hi)).2
set_option maxRecDepth 100000 in
theorem arg_keep {base : Nat} {v : Value} {d : DataW H} {p : List MemPlace} (hv : Value.okWide Try.prog W .any base 37 v) (h : DataW.Trod enc Try.prog W 0 (fun _ => true) true 37 v d p) :
    ∃ ks, ReadsK W v ks ∧ ks.length ≤ 9223372036854775807 := by
  obtain ⟨a0, len, cap, rfl⟩ := okWide_slice Try.underlying37 hv
  obtain ⟨fuel, hf⟩ := h
  obtain ⟨a, l, c, ks, e, h1, h2⟩ := open_keep hf
  have e2 : Value.slice a0 len cap = .slice a l c := by simpa [Value.cells] using e
  rw [e2]
  exact ⟨ks, h1, h2⟩
set_option maxRecDepth 100000 in
theorem arg_geo {base : Nat} {v : Value} {d : DataW H} {p : List MemPlace} (hv : Value.okWide Try.prog W .any base 22 v) (h : DataW.Trod enc Try.prog W 0 (fun _ => true) true 22 v d p) :
    ∃ g0 g1, v = .agg #[.int .i64 g0, .int .i64 g1] := by
  obtain ⟨cs, rfl, hsz, _⟩ : ∃ cs, v = .agg cs ∧ cs.size = Try.prog.cellsOf 22 ∧ Row.okWide Try.prog W .any base 22 cs := by
    simpa [Value.okWide, Try.underlying22] using hv
  rw [cellsG] at hsz
  obtain ⟨l⟩ := cs
  obtain ⟨fuel, hf⟩ := h
  match l, hsz with
  | [c0, c1], _ =>
    obtain ⟨xs, m, _, _, _, hlen, hx⟩ := DataW.trod_array Try.underlying22 hf
    match xs, hlen with
    | [y0, y1], _ =>
      have h0 := hx 0 (by omega)
      have h1 := hx 1 (by omega)
      simp only [cellsI, Value.cells, Nat.zero_mul, Nat.one_mul, List.drop_zero, List.drop_succ_cons, List.take_succ_cons, List.take_zero] at h0 h1
      obtain ⟨x0, e0, _, _⟩ := DataW.trod_int Try.underlying3 (x := y0) (by simpa using h0)
      obtain ⟨x1, e1, _, _⟩ := DataW.trod_int Try.underlying3 (x := y1) (by simpa using h1)
      obtain rfl := List.cons.inj e0 |>.1
      obtain rfl := List.cons.inj e1 |>.1
      exact ⟨x0, x1, rfl⟩
end
end Go.Proofs.Ytebiebbbkdbffaa.Disk
