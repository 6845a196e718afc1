/-
  A list of texts among the arguments, opened; whether it is light.
-/
import Derived.Test.YtkoidcepamgidaaDoorBits
import Derived.IntWalk
import Derived.Below
import Derived.ProofKit
import Derived.OpenShut
import Derived.SliceStrings
namespace Go.Proofs.YtkoidcepamgidaaDoor
open Go.ChangeShapes Go.WideShapes Go.ChangeAt Go.RowKit

theorem cells9 : Tryd.prog.cellsOf 9 = 1 := by kernel_rfl

/-- The value is a slice: of no text, or of these. -/
def ListOf (W : World) (v : Value) : Prop :=
  ∃ a len cap, v = .slice a len cap ∧ len ≤ 9223372036854775807 ∧ (len = 0 ∨ ∃ (b off : Nat) (ss : List ByteArray), a = some ⟨b, off, none⟩ ∧ ss.length = len ∧ len ≤ cap ∧ cap ≤ maxLen ∧ b < W.heap.size ∧
    (∀ i, i < ss.length → W.cell? ⟨b, off + i, none⟩ = some (.string (ss.getD i ByteArray.empty))) ∧ ∀ i, i < ss.length → (ss.getD i ByteArray.empty).size ≤ 9223372036854775807)

theorem cell_lt {W : World} {b o : Nat} {x : Value} (h : W.cell? ⟨b, o, none⟩ = some x) : b < W.heap.size := by
  rcases Nat.lt_or_ge b W.heap.size with h' | h'
  · exact h'
  · have : W.heap[b]? = none := Array.getElem?_eq_none h'
    simp [World.cell?, this] at h

theorem arg_texts {H : Type} {enc : TypeId × Value → H} {W : World} {base : Nat} {v : Value} {d : DataW H} {p : List MemPlace} (hv : Value.okWide Tryd.prog W .any base 25 v)
    (h : DataW.Trod enc Tryd.prog W 0 (fun _ => true) true 25 v d p) : ListOf W v := by
  obtain ⟨a0, len, cap, rfl⟩ := okWide_slice Tryd.underlying25 hv
  obtain ⟨fuel, hf⟩ := h
  refine ⟨a0, len, cap, rfl, ?_⟩
  rcases open_strings Tryd.underlying25 Tryd.underlying9 cells9 hf with ⟨hcs, _⟩ | ⟨a, len', cap', ss, hcs, _, hl, hm, hz, _, hcell, hws⟩
  · have e : Value.slice a0 len cap = .slice none 0 0 := by simpa [Value.cells] using hcs
    simp only [Value.slice.injEq] at e
    obtain ⟨rfl, rfl, rfl⟩ := e
    exact ⟨by omega, .inl rfl⟩
  · have e : Value.slice a0 len cap = .slice (some a) len' cap' := by simpa [Value.cells] using hcs
    simp only [Value.slice.injEq] at e
    obtain ⟨rfl, rfl, rfl⟩ := e
    simp only [if_true] at hz
    refine ⟨by unfold maxLen at hm; omega, ?_⟩
    by_cases h0 : len = 0
    · exact .inl h0
    · right
      obtain ⟨b, off, spot⟩ := a
      have hspot : spot = none := by simpa [Addr.add] using World.cell?_spot (hcell 0 (by omega))
      subst hspot
      have hc : ∀ i, i < ss.length → W.cell? ⟨b, off + i, none⟩ = some (.string (ss.getD i ByteArray.empty)) := fun i hi => by rw [← add_plain]; exact hcell i hi
      have ht : ∀ i, i < len → (ss.take len).getD i ByteArray.empty = ss.getD i ByteArray.empty := fun i hi => by
        rw [List.getD_eq_getElem?_getD, List.getD_eq_getElem?_getD, List.getElem?_take, if_pos hi]
      have hl2 : (ss.take len).length = len := by simp; omega
      refine ⟨b, off, ss.take len, rfl, hl2, hl, hm, cell_lt (hc 0 (by omega)), fun i hi => ?_, fun i hi => ?_⟩
      · rw [hl2] at hi
        rw [ht i hi]
        exact hc i (by omega)
      · rw [hl2] at hi
        rw [ht i hi, List.getD_eq_getElem?_getD, List.getElem?_eq_getElem (by omega)]
        have := hws _ (List.getElem_mem (l := ss) (n := i) (by omega))
        unfold maxLen at this
        exact this


def LightP (ss : List ByteArray) : Prop := ss.length ≤ 40 ∧ ∀ j, j < ss.length → (ss.getD j ByteArray.empty).size ≤ 200
def LightR (ss : List ByteArray) (w : World) (e : Ending) (w' : World) : Prop := ∃ r, e = .returned (.bool r) ∧ w = w' ∧ (r = true → LightP ss)
def LightAt (ss : List ByteArray) (i : Value) : Prop := ∃ k : Nat, k ≤ ss.length ∧ k ≤ 41 ∧ i = .int .i64 k ∧ ∀ j, j < k → (ss.getD j ByteArray.empty).size ≤ 200
set_option maxHeartbeats 400000 in
theorem light_some (b off cap : Nat) (ss : List ByteArray) (w : World) (hl : ss.length ≤ 9223372036854775807) (hc : ∀ i, i < ss.length → w.cell? ⟨b, off + i, none⟩ = some (.string (ss.getD i ByteArray.empty)))
    (hs : ∀ i, i < ss.length → (ss.getD i ByteArray.empty).size ≤ 9223372036854775807) :
    Calls Tryd.prog 10 #[.slice (some ⟨b, off, none⟩) ss.length cap, .int .i64 40, .int .i64 200] w (LightR ss w) := by
  have HC := Lib.hid hc
  have HS := Lib.hid hs
  clear hc hs
  go_enter Tryd.func10, Tryd.ntmps10
  go_wp2
  go_loop [7] (fun i => LightAt ss i) (fun i => ss.length - (intOf i).toNat)
  case atStart => exact ⟨0, by omega, by omega, rfl, fun j hj => by omega⟩
  case round =>
    obtain ⟨k, hk, hk41, rfl, hA⟩ := hrel
    have HA := Lib.hid hA
    clear hA
    by_cases hkl : k < ss.length
    · by_cases hk40 : k ≤ 40
      · have c0 := HC.out k hkl
        have s0 := HS.out k hkl
        have HK := Lib.hid (fun h : (ss.getD k ByteArray.empty).size ≤ 200 => (show LightAt ss (.int .i64 ((k : Int) + 1)) from ⟨k + 1, hkl, by omega, rfl, fun j hj => by
          rcases Nat.lt_or_ge j k with h1 | h1
          · exact HA.out j h1
          · have : j = k := by omega
            rw [this]; exact h⟩))
        have HF := Lib.hid (fun h : 200 < (ss.getD k ByteArray.empty).size => (show LightP ss → False from fun g => by have := g.2 k hkl; omega))
        generalize ss.getD k ByteArray.empty = s at c0 s0 HK HF
        by_cases h2 : s.size ≤ 200
        · go_wp2
          go_round
          case rel => exact HK.out h2
          case measure => simp [intOf]; omega
        · have h3 : 200 < s.size := by omega
          clear h2
          go_wp2
          go_ret
          exact ⟨false, rfl, rfl, fun h => by cases h⟩
      · have d1 : decide ((k : Int) < (ss.length : Int)) = true := by simp; omega
        have d2 : decide ((k : Int) ≤ 40) = false := by simp; omega
        have d3 : decide ((ss.length : Int) ≤ 40) = false := by simp; omega
        go_wp2
        go_ret
        exact ⟨false, rfl, rfl, fun h => by cases h⟩
    · obtain rfl : k = ss.length := by omega
      by_cases h4 : ss.length ≤ 40
      · have d3 : decide ((ss.length : Int) ≤ 40) = true := by simp; omega
        have HL : Hid (LightP ss) := ⟨h4, HA.out⟩
        go_wp2
        go_ret
        exact ⟨true, rfl, rfl, fun _ => HL.out⟩
      · have d3 : decide ((ss.length : Int) ≤ 40) = false := by simp; omega
        go_wp2
        go_ret
        exact ⟨false, rfl, rfl, fun h => by cases h⟩
set_option maxHeartbeats 400000 in
theorem light_none (a : Option Addr) (cap : Nat) (w : World) : Calls Tryd.prog 10 #[.slice a 0 cap, .int .i64 40, .int .i64 200] w fun e w' => e = .returned (.bool true) ∧ w = w' := by
  go_enter Tryd.func10, Tryd.ntmps10
  go_wp2
  go_loop [7] (fun i => i = .int .i64 0) (fun _ => 0)
  case atStart => exact rfl
  case round =>
    subst hrel
    go_wp2
    go_ret
    exact ⟨rfl, rfl⟩
end Go.Proofs.YtkoidcepamgidaaDoor
