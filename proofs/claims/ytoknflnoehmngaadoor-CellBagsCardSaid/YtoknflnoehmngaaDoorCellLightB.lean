/-
  Walks of what the laws share: light, SpoilTexts.
-/
import Derived.Test.YtoknflnoehmngaaDoorCellLight
namespace Go.Proofs.YtoknflnoehmngaaDoor.Cell
open Go Go.RowKit

/-- An entry among the arguments: what is known of it, light or not. -/
structure OkE (w : World) (e : Ent) : Prop where
  name : e.name.size ≤ 9223372036854775807
  s : e.v.s.size ≤ 9223372036854775807
  n0 : -9223372036854775808 ≤ e.v.n
  n1 : e.v.n ≤ 9223372036854775807
  k0 : -9223372036854775808 ≤ e.v.kind
  k1 : e.v.kind ≤ 9223372036854775807
  reads : Reads w e.v.lv e.v.ls
  each : ∀ x ∈ e.v.ls, x.size ≤ 9223372036854775807
  few : e.v.ls.length ≤ 9223372036854775807
def lightE (e : Ent) : Bool := decide (e.name.size ≤ 100) && (decide (e.v.s.size ≤ 300) && lightB e.v.ls)
def lightS (es : List Ent) : Bool := (es.take 40).all lightE
theorem lightS_bad {es : List Ent} {k : Nat} {e : Ent} (hk : es[k]? = some e) (h40 : k < 40) (h : lightE e = false) : lightS es = false := by
  unfold lightS
  rw [List.all_eq_false]
  refine ⟨e, ?_, by simp [h]⟩
  rw [List.mem_iff_getElem?]
  exact ⟨k, by rw [List.getElem?_take_of_lt h40]; exact hk⟩
theorem lightS_good {es : List Ent} {k : Nat} (h : ∀ e ∈ es.take k, lightE e = true) (hk : k = es.length ∨ k = 40) : lightS es = true := by
  unfold lightS
  rw [List.all_eq_true]
  intro e he
  refine h e ?_
  rcases hk with rfl | rfl
  · rw [List.take_length]; exact List.mem_of_mem_take he
  · exact he
theorem lightE_of {e : Ent} {w : World} (h : lightE e = true) (ho : OkE w e) : LightE e := by
  unfold lightE lightB at h
  simp only [Bool.and_eq_true, decide_eq_true_eq] at h
  exact ⟨h.1, h.2.1, h.2.2.1, h.2.2.2, ho.n0, ho.n1⟩
set_option maxHeartbeats 2000000 in
theorem lights_any (v : Value) (es : List Ent) (w : World) (h : ReadsE w v es) (ho : ∀ e ∈ es, OkE w e) (hm : es.length ≤ 9223372036854775807) :
    Calls Tryd.prog 7 #[v] w fun e w' => e = .returned (.bool (lightS es)) ∧ w = w' := by
  rcases h with ⟨a, cap, rfl, rfl⟩ | ⟨h0, b, off, cap, rfl, h3, h4⟩
  · go_enter Tryd.func7, Tryd.ntmps7
    go_wp2_with fail
    go_loopw [3] (fun i wr => i = .int .i64 0 ∧ wr = w) (fun i _ => 0 - (intOf i).toNat)
    case atStart => exact ⟨rfl, rfl⟩
    case round =>
      obtain ⟨rfl, rfl⟩ := hrel
      go_wp2_with fail
      go_ret
      exact ⟨rfl, rfl⟩
  · have HC := Lib.hid h4
    have HO := Lib.hid ho
    clear h4 ho
    go_enter Tryd.func7, Tryd.ntmps7
    go_wp2_with fail
    go_loopw [3] (fun i wr => ∃ k : Nat, k ≤ es.length ∧ k ≤ 40 ∧ i = .int .i64 k ∧ (∀ e ∈ es.take k, lightE e = true) ∧ wr = w) (fun i _ => es.length - (intOf i).toNat)
    case atStart => exact ⟨0, Nat.zero_le _, by omega, rfl, by simp, rfl⟩
    case round =>
      obtain ⟨k, hk, hk2, rfl, hn, rfl⟩ := hrel
      have HN := Lib.hid hn
      clear hn
      by_cases hlt : k < es.length ∧ k < 40
      · obtain ⟨e, hke⟩ : ∃ e, es[k]? = some e := ⟨es[k], List.getElem?_eq_getElem hlt.1⟩
        have hl1 := hlt.1
        have hl2 := hlt.2
        have hoe := HO.out e (List.mem_of_getElem? hke)
        obtain ⟨c0, c1, c2, c3, c4, c5⟩ := six (HC.out k e hke)
        have HK := Lib.hid (And.intro hke hoe)
        have s1 := hoe.name
        have s2 := hoe.s
        clear hke hoe hlt
        by_cases g1 : 100 < e.name.size
        · have HB := Lib.hid (lightS_bad HK.out.1 hl2 (by unfold lightE; rw [decide_eq_false (by omega)]; rfl))
          go_wp2_with fail
          go_ret
          exact ⟨by rw [HB.out]; rfl, rfl⟩
        · by_cases g2 : 300 < e.v.s.size
          · have HB := Lib.hid (lightS_bad HK.out.1 hl2 (by unfold lightE; rw [decide_eq_false (p := e.v.s.size ≤ 300) (by omega)]; simp))
            go_wp2_with fail
            go_ret
            exact ⟨by rw [HB.out]; rfl, rfl⟩
          · have HLC := Lib.hid (light_any e.v.lv e.v.ls _ HK.out.2.reads HK.out.2.each HK.out.2.few)
            cases hb : lightB e.v.ls
            · have HB := Lib.hid (lightS_bad HK.out.1 hl2 (by unfold lightE; rw [hb]; simp))
              go_wp2_with fail
              refine HLC.out.mono ?_
              rintro e' w' ⟨rfl, rfl⟩
              rw [hb]
              go_wp2_with fail
              go_ret
              exact ⟨by rw [HB.out]; rfl, rfl⟩
            · have HT := Lib.hid (take_next (p := fun e : Ent => lightE e = true) HK.out.1 HN.out (by unfold lightE; rw [hb, decide_eq_true (by omega), decide_eq_true (by omega)]; rfl))
              go_wp2_with fail
              refine HLC.out.mono ?_
              rintro e' w' ⟨rfl, rfl⟩
              rw [hb]
              go_wp2_with fail
              go_roundw
              case rel => exact ⟨k + 1, by omega, by omega, by simp, HT.out, trivial⟩
              case measure => simp [intOf]; omega
      · have HB := Lib.hid (lightS_good HN.out (by omega))
        by_cases h40 : k < es.length
        · have h41 : ¬ k < 40 := by omega
          go_wp2_with fail
          go_ret
          exact ⟨by rw [HB.out]; rfl, rfl⟩
        · go_wp2_with fail
          go_ret
          exact ⟨by rw [HB.out]; rfl, rfl⟩

/-! A list of the call's own, written over. -/
set_option maxHeartbeats 1000000 in
theorem spoil_any (v : Value) (n : Nat) (xs : List ByteArray) (B : Nat) (w : World) (h : w.ownsRow B 9 1 v n (xs.map Value.string)) (hn : n ≤ 1000000) :
    Calls Tryd.prog 22 #[v] w fun e w' => e = .returned (.tuple #[]) ∧ w.grownBy w' v.ownBlock := by
  have hl : xs.length = n := by have := h.1; simpa using this
  rcases h.2 with ⟨rfl, rfl⟩ | ⟨g, cap, cur, rfl, hB, hg, h1, h2, h3, h4⟩
  · clear hn
    go_enter Tryd.func22, Tryd.ntmps22
    go_wp2_with fail
    go_loopw [2, 5] (fun _ i wr => i = .int .i64 0 ∧ wr = w) (fun _ i _ => 0 - (intOf i).toNat)
    case atStart => exact ⟨rfl, rfl⟩
    case round =>
      obtain ⟨rfl, rfl⟩ := hrel
      go_wp2_with fail
      go_end0
      exact ⟨rfl, World.grownBy.refl _ _⟩
  · have HG := Lib.hid hg
    have H3 := Lib.hid h3
    have HN := Lib.hid hn
    clear h h2 h3 h4 hg hn
    have hm : n ≤ 9223372036854775807 := by have := HN.out; omega
    go_enter Tryd.func22, Tryd.ntmps22
    go_wp2_with fail
    go_loopw [2, 5] (fun _ i wr => ∃ (k : Nat) (cur' : Array Value), k ≤ n ∧ i = .int .i64 k ∧ wr.heap[g]? = some (.cells cur' 9 (0, 0)) ∧ cur'.size = cap * 1 ∧ w.grownBy wr (some g)) (fun _ i _ => n - (intOf i).toNat)
    case atStart => exact ⟨0, cur, Nat.zero_le _, rfl, HG.out, H3.out, World.grownBy.refl _ _⟩
    case round =>
      obtain ⟨k, cur', hk, rfl, hc, hz, hgr⟩ := hrel
      by_cases hlt : k < n
      · have hkc : k < cur'.size := by omega
        have hcell : wr.cell? ⟨g, k, none⟩ = some cur'[k] := by
          simp only [World.cell?, hc]
          simp [hkc]
        have hfz : wr.frozen? ⟨g, k, none⟩ = false := Lib.frozen_of_heap hc k
        have HH := Lib.hid (And.intro hc (And.intro hz hgr))
        clear hc hz hgr
        generalize cur'[k] = old at hcell
        go_wp2_with fail
        go_roundw
        case rel =>
          refine ⟨k + 1, cur'.setIfInBounds k (.string ⟨#[115, 112, 111, 105, 108, 116]⟩), by omega, by simp, ?_, by simpa using HH.out.2.1, ?_⟩
          · have h0 := HH.out.1
            simp [World.setCell, Array.getElem?_modify, h0]
          · have h1 := HH.out.2.2
            exact ⟨h1.os, h1.tape, h1.output, by simpa [World.setCell] using h1.size, fun i hi hne => by
              rw [Below.heap_setCell _ _ _ _ (fun e => hne (by rw [e]))]
              exact h1.block i hi hne⟩
        case measure => simp [intOf]; omega
      · go_wp2_with fail
        go_end0
        exact ⟨rfl, hgr⟩
end Go.Proofs.YtoknflnoehmngaaDoor.Cell
