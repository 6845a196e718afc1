/-
  A list of texts among the arguments, opened; the laws NetsRows and NetsApart for every list.
-/
import Derived.Test.YtpjbhcampfjgdaaDoorWalkI
import Derived.ProofKit
import Derived.OpenShut
import Derived.SliceStrings
namespace Go.Proofs.YtpjbhcampfjgdaaDoor
open Go.ChangeShapes Go.WideShapes Go.ChangeAt Go.RowKit

theorem cells9 : Tryd.prog.cellsOf 9 = 1 := by kernel_rfl

/-- The value is a slice: of no text, or of these. -/
def ListOf (W : World) (v : Value) : Prop :=
  ∃ a len cap, v = .slice a len cap ∧ len ≤ 9223372036854775807 ∧ (len = 0 ∨ ∃ (b off : Nat) (ss : List ByteArray), a = some ⟨b, off, none⟩ ∧ ss.length = len ∧ len ≤ cap ∧ cap ≤ maxLen ∧ b < W.heap.size ∧
    (∀ i, i < ss.length → W.cell? ⟨b, off + i, none⟩ = some (.string (ss.getD i ByteArray.empty))) ∧ ∀ i, i < ss.length → (ss.getD i ByteArray.empty).size ≤ 9223372036854775807)

theorem cell_lt {W : World} {b o : Nat} {x : Value} (h : W.cell? ⟨b, o, none⟩ = some x) : b < W.heap.size := by
  rcases Nat.lt_or_ge b W.heap.size with h' | h'
  · exact h'
  · have : W.heap[b]? = none := Array.getElem?_eq_none h'
    simp [World.cell?, this] at h

theorem arg_texts {H : Type} {enc : TypeId × Value → H} {W : World} {base : Nat} {v : Value} {d : DataW H} {p : List MemPlace} (hv : Value.okWide Tryd.prog W .any base 30 v)
    (h : DataW.Trod enc Tryd.prog W 0 (fun _ => true) true 30 v d p) : ListOf W v := by
  obtain ⟨a0, len, cap, rfl⟩ := okWide_slice Tryd.underlying30 hv
  obtain ⟨fuel, hf⟩ := h
  refine ⟨a0, len, cap, rfl, ?_⟩
  rcases open_strings Tryd.underlying30 Tryd.underlying9 cells9 hf with ⟨hcs, _⟩ | ⟨a, len', cap', ss, hcs, _, hl, hm, hz, _, hcell, hws⟩
  · have e : Value.slice a0 len cap = .slice none 0 0 := by simpa [Value.cells] using hcs
    simp only [Value.slice.injEq] at e
    obtain ⟨rfl, rfl, rfl⟩ := e
    exact ⟨by omega, .inl rfl⟩
  · have e : Value.slice a0 len cap = .slice (some a) len' cap' := by simpa [Value.cells] using hcs
    simp only [Value.slice.injEq] at e
    obtain ⟨rfl, rfl, rfl⟩ := e
    simp only [if_true] at hz
    refine ⟨by unfold maxLen at hm; omega, ?_⟩
    by_cases h0 : len = 0
    · exact .inl h0
    · right
      obtain ⟨b, off, spot⟩ := a
      have hspot : spot = none := by simpa [Addr.add] using World.cell?_spot (hcell 0 (by omega))
      subst hspot
      have hc : ∀ i, i < ss.length → W.cell? ⟨b, off + i, none⟩ = some (.string (ss.getD i ByteArray.empty)) := fun i hi => by rw [← add_plain]; exact hcell i hi
      have ht : ∀ i, i < len → (ss.take len).getD i ByteArray.empty = ss.getD i ByteArray.empty := fun i hi => by
        rw [List.getD_eq_getElem?_getD, List.getD_eq_getElem?_getD, List.getElem?_take, if_pos hi]
      have hl2 : (ss.take len).length = len := by simp; omega
      refine ⟨b, off, ss.take len, rfl, hl2, hl, hm, cell_lt (hc 0 (by omega)), fun i hi => ?_, fun i hi => ?_⟩
      · rw [hl2] at hi
        rw [ht i hi]
        exact hc i (by omega)
      · rw [hl2] at hi
        rw [ht i hi, List.getD_eq_getElem?_getD, List.getElem?_eq_getElem (by omega)]
        have := hws _ (List.getElem_mem (l := ss) (n := i) (by omega))
        unfold maxLen at this
        exact this

theorem reads_list {W : World} {b off cap len : Nat} {ss : List ByteArray} (h0 : len ≠ 0) (h1 : ss.length = len) (h2 : len ≤ cap) (h3 : cap ≤ maxLen) (h4 : b < W.heap.size)
    (h5 : ∀ i, i < ss.length → W.cell? ⟨b, off + i, none⟩ = some (.string (ss.getD i ByteArray.empty))) : Reads W (.slice (some ⟨b, off, none⟩) ss.length cap) ss :=
  .inr ⟨by omega, b, off, cap, rfl, by omega, h3, h4, h5⟩

set_option maxHeartbeats 1000000 in
theorem netsRows_far (a : Option Addr) (len cap : Nat) (s : ByteArray) (n : Int) (w : World) (hl : len ≤ 9223372036854775807) (hs : s.size ≤ 9223372036854775807) (hg : 100 < len ∨ 3000 < s.size) (ht : Tab w) :
    Calls Tryd.prog 4 #[.slice a len cap, .string s, .int .i64 n] w fun e w' => e = .returned (.bool true) ∧ Below w.heap.size w w' := by
  have HT := Lib.hid ht
  clear ht
  by_cases h1 : 100 < len
  · clear hg
    go_enter Tryd.func4, Tryd.ntmps4
    go_wp2_with (go_at_call 7; refine (works_any _ HT.out).mono ?_; rintro e w5 ⟨rfl, hb5⟩)
    go_ret
    exact ⟨rfl, hb5⟩
  · have h2 : 3000 < s.size := by omega
    clear hg
    go_enter Tryd.func4, Tryd.ntmps4
    go_wp2_with (go_at_call 7; refine (works_any _ HT.out).mono ?_; rintro e w5 ⟨rfl, hb5⟩)
    go_ret
    exact ⟨rfl, hb5⟩

theorem netsRows_any (v : Value) (s : ByteArray) (n : Int) (w : World) (hv : ListOf w v) (hs : s.size ≤ 9223372036854775807) (h1 : -9223372036854775808 ≤ n) (h2 : n ≤ 9223372036854775807) (ht : Tab w) :
    Calls Tryd.prog 4 #[v, .string s, .int .i64 n] w fun e w' => e = .returned (.bool true) ∧ Below w.heap.size w w' := by
  obtain ⟨a, len, cap, rfl, hl, hv⟩ := hv
  by_cases hg : 100 < len ∨ 3000 < s.size
  · exact netsRows_far a len cap s n w hl hs hg ht
  · rcases hv with rfl | ⟨b, off, ss, rfl, rfl, g1, g2, g3, g4, g5⟩
    · exact netsRows_nil a cap s n w (by omega) h1 h2 ht
    · by_cases h0 : ss.length = 0
      · rw [h0]
        exact netsRows_nil _ cap s n w (by omega) h1 h2 ht
      · exact netsRows_some b off cap ss s n w (reads_list h0 rfl g1 g2 g3 g4) (by omega) g5 g4 (by omega) h1 h2 ht

set_option maxHeartbeats 1000000 in
theorem netsApart_far (a a' : Option Addr) (len cap len' cap' : Nat) (s : ByteArray) (w : World) (hl : len ≤ 9223372036854775807) (hl' : len' ≤ 9223372036854775807) (hs : s.size ≤ 9223372036854775807) (hg : 50 < len ∨ 50 < len' ∨ 3000 < s.size) (ht : Tab w) :
    Calls Tryd.prog 6 #[.slice a len cap, .slice a' len' cap', .string s] w fun e w' => e = .returned (.bool true) ∧ Below w.heap.size w w' := by
  have HT := Lib.hid ht
  clear ht
  by_cases h1 : 50 < len
  · clear hg
    go_enter Tryd.func6, Tryd.ntmps6
    go_wp2_with (go_at_call 7; refine (works_any _ HT.out).mono ?_; rintro e w5 ⟨rfl, hb5⟩)
    go_ret
    exact ⟨rfl, hb5⟩
  · by_cases h2 : 50 < len'
    · clear hg
      go_enter Tryd.func6, Tryd.ntmps6
      go_wp2_with (go_at_call 7; refine (works_any _ HT.out).mono ?_; rintro e w5 ⟨rfl, hb5⟩)
      go_ret
      exact ⟨rfl, hb5⟩
    · have h3 : 3000 < s.size := by omega
      clear hg
      go_enter Tryd.func6, Tryd.ntmps6
      go_wp2_with (go_at_call 7; refine (works_any _ HT.out).mono ?_; rintro e w5 ⟨rfl, hb5⟩)
      go_ret
      exact ⟨rfl, hb5⟩

theorem netsApart_any (v u : Value) (s : ByteArray) (w : World) (hv : ListOf w v) (hu : ListOf w u) (hs : s.size ≤ 9223372036854775807) (ht : Tab w) :
    Calls Tryd.prog 6 #[v, u, .string s] w fun e w' => e = .returned (.bool true) ∧ Below w.heap.size w w' := by
  obtain ⟨a, len, cap, rfl, hl, hv⟩ := hv
  obtain ⟨a', len', cap', rfl, hl', hu⟩ := hu
  by_cases hg : 50 < len ∨ 50 < len' ∨ 3000 < s.size
  · exact netsApart_far a a' len cap len' cap' s w hl hl' hs hg ht
  · by_cases h0 : len = 0
    · subst h0
      by_cases h0' : len' = 0
      · subst h0'
        exact netsApart_nil_nil w a cap a' cap' s (by omega) ht
      · rcases hu with hu | ⟨b', off', ys, rfl, rfl, q1, q2, q3, q4, q5⟩
        · exact absurd hu h0'
        · exact netsApart_nil_some w a cap b' off' cap' ys (reads_list h0' rfl q1 q2 q3 q4) (by omega) q3 q5 q4 s (by omega) ht
    · rcases hv with hv | ⟨b, off, xs, rfl, rfl, g1, g2, g3, g4, g5⟩
      · exact absurd hv h0
      · by_cases h0' : len' = 0
        · subst h0'
          exact netsApart_some_nil w b off cap xs (reads_list h0 rfl g1 g2 g3 g4) (by omega) g3 g5 g4 a' cap' s (by omega) ht
        · rcases hu with hu | ⟨b', off', ys, rfl, rfl, q1, q2, q3, q4, q5⟩
          · exact absurd hu h0'
          · exact netsApart_some_some w b off cap xs (reads_list h0 rfl g1 g2 g3 g4) (by omega) g3 g5 g4 b' off' cap' ys (reads_list h0' rfl q1 q2 q3 q4) (by omega) q3 q5 q4 s (by omega) ht
end Go.Proofs.YtpjbhcampfjgdaaDoor
