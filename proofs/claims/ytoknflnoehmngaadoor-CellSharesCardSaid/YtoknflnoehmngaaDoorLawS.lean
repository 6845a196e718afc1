/-
  Walks of the law CellShares.
-/
import Derived.Test.YtoknflnoehmngaaDoorCellKinds
import Derived.Test.YtoknflnoehmngaaDoorCellLightB
namespace Go.Proofs.YtoknflnoehmngaaDoor.Cell
open Go Go.RowKit
open Go.Proofs.YtoknflnoehmngaaDoor.Nets (putS rowS Tab)

theorem append_empty (w : World) (b cap : Nat) : (Builtin.append_ #[28, 28] 28 #[.slice (some ⟨b, 0, none⟩) 0 0, .slice none 0 cap]).run Tryd.prog w = .ok (.slice (some ⟨b, 0, none⟩) 0 0) w := by kernel_rfl
/-- What 'append([]string(nil or none), l...)' gives where the first one is an empty list, just laid. -/
theorem append_made (w : World) (v : Value) (ss : List ByteArray) (hr : Reads w v ss) (hl : ss.length ≤ 1000000) :
    ∃ v' w', (Builtin.append_ #[28, 28] 28 #[.slice (some ⟨w.heap.size, 0, none⟩) 0 0, v]).run Tryd.prog (w.alloc (.cells #[] 9)) = .ok v' w' ∧ w'.ownsRow w.heap.size 9 1 v' ss.length (ss.map Value.string) ∧ Below w.heap.size w w' := by
  have h0 : (w.alloc (.cells #[] 9)).ownsRow w.heap.size 9 1 (.slice (some ⟨w.heap.size, 0, none⟩) 0 0) 0 [] := by
    refine ⟨by simp, .inr ⟨w.heap.size, 0, #[], rfl, Nat.le_refl _, heap_alloc_new _ _, Nat.le_refl _, by decide, by simp, by simp⟩⟩
  have hb : Below w.heap.size w (w.alloc (.cells #[] 9)) := (Below.refl _ _).alloc (Nat.le_refl _) _
  have hr' := hr.below hb
  have hs : w.heap.size ≤ (w.alloc (.cells #[] 9)).heap.size := by simp
  obtain ⟨i0, hi, hz0, hz1, hz2⟩ := info_parts infoString
  rcases hr' with ⟨a, cap, rfl, rfl⟩ | ⟨h0', b, off, cap, rfl, h1, h2, h3, h4⟩
  · rcases a with _ | a
    · exact ⟨_, _, append_empty _ _ cap, h0, hb⟩
    · obtain ⟨v', w', hr, h2, h3, h4⟩ := run_append_own (P := Tryd.prog) (w.alloc (.cells #[] 9)) w.heap.size 28 28 9 i0 _ 1 16 Tryd.underlying28 hi hz0 hz1 hz2 rfl (by decide) _ 0 [] h0 a 0 cap [] rfl (fun j x hx => by simp at hx) (fun x hx => by cases hx) (by unfold maxLen; omega) (by omega) hs
      exact ⟨v', w', hr, h2, hb.grown h3 hs (fun k hk => (h0.lt k hk).1)⟩
  · obtain ⟨v', w', hr, h2, h3, _⟩ := run_append_own (P := Tryd.prog) (w.alloc (.cells #[] 9)) w.heap.size 28 28 9 i0 _ 1 16 Tryd.underlying28 hi hz0 hz1 hz2 rfl (by decide) _ 0 [] h0 ⟨b, off, none⟩ ss.length cap (ss.map Value.string) (by simp) (fun j x hx => by
      rw [List.getElem?_map] at hx
      obtain ⟨s, hs, rfl⟩ := Option.map_eq_some_iff.1 hx
      obtain ⟨hj, e⟩ := List.getElem?_eq_some_iff.1 hs
      rw [addr_add]
      have := h4 j hj
      rw [List.getD_eq_getElem?_getD, hs] at this
      exact this) (strings_one ss) (by unfold maxLen; omega) (by omega) hs
    exact ⟨v', w', hr, by simpa using h2, hb.grown h3 hs (fun k hk => (h0.lt k hk).1)⟩
theorem Reads.apart2 {w w' : World} {v : Value} {ss : List ByteArray} {row : Option Nat} (h : Reads w v ss) (hg : w.grownBy w' row) (hne : ∀ k, v.ownBlock = some k → k < w.heap.size → row ≠ some k) : Reads w' v ss := by
  rcases h with h | ⟨h0, b, off, cap, rfl, h1, h2, h3, h4⟩
  · exact .inl h
  · refine .inr ⟨h0, b, off, cap, rfl, h1, h2, by have := hg.size; omega, fun i hi => hg.cell (h4 i hi) fun e => hne b rfl h3 ?_⟩
    exact e.symm
section
variable {w w' : World} {pb mb : Nat} {G : List Pair}
theorem BagAt.apart2 {row : Option Nat} (h : BagAt w pb mb G) (hg : w.grownBy w' row) (hp : some pb ≠ row) (hm : some mb ≠ row) (hl : ∀ x ∈ G, ∀ t sv, x.2 = .iface t sv → ∀ k, sv.ownBlock = some k → k < w.heap.size → row ≠ some k) : BagAt w' pb mb G := by
  refine ⟨hg.cell h.cell hp, h.owns.kept hg hm, fun x hx => ?_, h.few⟩
  rcases h.tied x hx with t | t | t | ⟨t, t0, sv, h1, h2⟩
  · exact .inl t
  · exact .inr (.inl t)
  · exact .inr (.inr (.inl t))
  · exact .inr (.inr (.inr ⟨t, t0, sv, h1, h2.apart2 hg (hl x hx _ _ h1)⟩))
end
def lEnt (n : ByteArray) (ss : List ByteArray) : Ent := ⟨n, ⟨4, ⟨#[]⟩, 0, false, none, 0, 0, ss⟩⟩
theorem put_one (g : Pair) : put pn g [] = [g] := rfl
theorem owns_on {w w' : World} {B : Nat} {t : TypeId} {z n : Nat} {v : Value} {xs : List Value} (h : w.ownsRow B t z v n xs) (hb : Below w.heap.size w w') : w'.ownsRow B t z v n xs := by
  have hg : w.grownBy w' none := ⟨hb.os, hb.tape, hb.output, hb.size, fun k hk _ => hb.block k hk⟩
  refine h.kept hg ?_
  cases v.ownBlock with
  | none => exact .inl rfl
  | some k => exact .inr (by simp)
theorem val_one (n : ByteArray) (ss : List ByteArray) (x : Value) : valueAt n [(lEnt n ss, x)] = x := by
  unfold valueAt at? lEnt
  simp
theorem list_one (n : ByteArray) (ss : List ByteArray) (x : Value) : listAt n [(lEnt n ss, x)] = ss := by
  unfold listAt at? lEnt
  simp
theorem code_one (t : TypeId) (x : Value) : code t (.iface t x) = 0 := by
  unfold code
  simp
theorem list_one_any {w : World} {pb mb : Nat} {n : ByteArray} {ss : List ByteArray} {sv : Value} (h : BagAt w pb mb [(lEnt n ss, .iface 28 sv)]) (hn : n.size ≤ maxLen) :
    Calls Tryd.prog 23 #[ptr pb, .string n] w fun e w' => ∃ xv, e = .returned (.tuple #[xv, .int .i64 0]) ∧ w'.ownsRow w.heap.size 9 1 xv ss.length (ss.map Value.string) ∧ Below w.heap.size w w' := by
  refine (list_any h n hn).mono fun e w' he => ?_
  obtain ⟨xv, rfl, hO, hb⟩ := he
  rw [list_one] at hO
  exact ⟨xv, by rw [val_one, code_one], hO, hb⟩
set_option maxHeartbeats 4000000 in
set_option maxRecDepth 100000 in
theorem cellShares_any (v : Value) (ss : List ByteArray) (n : ByteArray) (w : World) (hr : Reads w v ss) (hz : ∀ s ∈ ss, s.size ≤ 9223372036854775807) (hm : ss.length ≤ 9223372036854775807) (hn : n.size ≤ 9223372036854775807) (hT : Tab w) :
    Calls Tryd.prog 5 #[v, .string n] w fun e w' => e = .returned (.bool true) ∧ Below w.heap.size w w' := by
  have HW := Lib.hid (works_any w hT)
  have HR := Lib.hid hr
  have HL := Lib.hid (fun W (hW : Below w.heap.size w W) => light_any v ss W (hr.below hW) hz hm)
  obtain ⟨a, ln, cap, rfl⟩ : ∃ a n cap, v = .slice a n cap := by
    rcases hr with ⟨a, cap, rfl, rfl⟩ | ⟨h0, b, off, cap, rfl, h1, h2, h3, h4⟩
    · exact ⟨_, _, _, rfl⟩
    · exact ⟨_, _, _, rfl⟩
  clear hr hz hT
  go_enter Tryd.func5, Tryd.ntmps5
  go_wp2_with fail
  refine HW.out.mono ?_
  rintro e w1 ⟨rfl, hb1⟩
  have HB1 := Lib.hid hb1
  clear hb1 HW
  go_wp2_with fail
  refine (new_any w1).mono ?_
  rintro e w2 ⟨rfl, hw2⟩
  have hbag : BagAt w2 (w1.heap.size + 1) w1.heap.size [] := by rw [hw2]; exact made w1
  have hbb : Below w1.heap.size w1 w2 := by rw [hw2]; exact ((Below.refl _ _).alloc (Nat.le_refl _) _).alloc (by simp) _
  have hs2 : w2.heap.size = w1.heap.size + 2 := by rw [hw2]; simp
  have HB2 := Lib.hid (And.intro hbag (And.intro (HB1.out.trans (hbb.mono HB1.out.size)) hs2))
  clear hw2 hbag hbb hs2
  cases hli : lightB ss
  · go_wp2_with fail
    refine (HL.out w2 HB2.out.2.1).mono ?_
    rintro e w' ⟨rfl, rfl⟩
    rw [hli]
    go_wp2_with fail
    go_ret
    exact ⟨rfl, HB2.out.2.1⟩
  · by_cases hnl : 100 < n.size
    · go_wp2_with fail
      refine (HL.out w2 HB2.out.2.1).mono ?_
      rintro e w' ⟨rfl, rfl⟩
      rw [hli]
      go_wp2_with fail
      go_ret
      exact ⟨rfl, HB2.out.2.1⟩
    · have hl2 : ss.length ≤ 20 := by
        unfold lightB at hli
        exact (of_decide_eq_true hli).1
      obtain ⟨mv, w3, hrun, hO3, hb3⟩ := append_made w2 (.slice a ln cap) ss (HR.out.below HB2.out.2.1) (by omega)
      have HA := Lib.hid hrun
      have HB3 := Lib.hid (And.intro hO3 hb3)
      have HLI := Lib.hid hli
      have HL2 := Lib.hid hl2
      clear hrun hO3 hb3 hm hl2
      go_wp2_with fail
      refine (HL.out w2 HB2.out.2.1).mono ?_
      rintro e w' ⟨rfl, rfl⟩
      rw [hli]
      clear hli
      go_wp2_with (at_builtin; refine wpList_append_run rfl _ _ 28 rfl _ _ _ rfl rfl HA.out ?_)
      refine (putList_any (HB2.out.1.below HB3.out.2) (lEnt n ss) mv (reads_owns HB3.out.1) (by have := HL2.out; show ss.length ≤ 1000; omega) rfl hn (by decide)).mono ?_
      rintro r w4 ⟨rfl, sv, hfr, hB4, hg4⟩
      rw [put_one] at hB4
      have hO4 := HB3.out.1.kept hg4 (.inr fun e => by
        have h1 := (HB3.out.1.lt _ e).1
        have h2 := HB2.out.2.2
        omega)
      have hbw4 : Below w.heap.size w w4 := (HB2.out.2.1.trans (HB3.out.2.mono HB2.out.2.1.size)).grown hg4 (HB2.out.2.1.trans (HB3.out.2.mono HB2.out.2.1.size)).size (fun k hk => by cases hk; exact HB1.out.size)
      have HB4 := Lib.hid (And.intro hB4 (And.intro hO4 (And.intro hbw4 hfr)))
      clear hB4 hO4 hbw4 hfr hg4
      go_wp2_with fail
      refine (spoil_any mv ss.length ss _ w4 HB4.out.2.1 (by have := HL2.out; omega)).mono ?_
      rintro r w5 ⟨rfl, hg5⟩
      have hlt := HB3.out.1.lt
      have hB5 := HB4.out.1.apart2 hg5 (fun e => by
          have h1 := (hlt _ e.symm).1
          have h2 := HB2.out.2.2
          omega) (fun e => by
          have h1 := (hlt _ e.symm).1
          have h2 := HB2.out.2.2
          omega) (fun x hx t s' he k hk _ hm => by
          obtain rfl := List.mem_singleton.1 hx
          obtain ⟨rfl, rfl⟩ := Value.iface.inj he
          have h1 := HB4.out.2.2.2 k hk
          have h2 := (hlt k hm).2
          omega)
      have hbw5 : Below w.heap.size w w5 := HB4.out.2.2.1.grown hg5 HB4.out.2.2.1.size (fun k hk => by
          have h1 := (hlt k hk).1
          have h2 := HB2.out.2.1.size
          omega)
      have HB5 := Lib.hid (And.intro hB5 hbw5)
      clear hB5 hbw5 hg5 hlt
      go_wp2_with fail
      refine (list_one_any HB5.out.1 hn).mono ?_
      rintro r w6 ⟨xv, rfl, hO6, hb6⟩
      have HB6 := Lib.hid (And.intro hO6 (And.intro hb6 (HB5.out.2.trans (hb6.mono HB5.out.2.size))))
      clear hO6 hb6
      go_wp2_with fail
      refine (Nets.same_any xv (.slice a ln cap) ss ss w6 (reads_owns HB6.out.1) (HR.out.below HB6.out.2.2) (by have := HL2.out; omega) (by have := HL2.out; omega)).mono ?_
      rintro r w7 ⟨rfl, hb7⟩
      rw [decide_eq_true rfl]
      have HB7 := Lib.hid hb7
      clear hb7
      go_wp2_with fail
      refine (spoil_any xv ss.length ss _ w7 (owns_on HB6.out.1 HB7.out) (by have := HL2.out; omega)).mono ?_
      rintro r w8 ⟨rfl, hg8⟩
      have hb8 : Below w5.heap.size w5 w8 := (HB6.out.2.1.trans (HB7.out.mono HB6.out.2.1.size)).grown hg8 (HB6.out.2.1.trans (HB7.out.mono HB6.out.2.1.size)).size (fun k hk => (HB6.out.1.lt k hk).1)
      have HB8 := Lib.hid (And.intro (HB5.out.1.below hb8) (HB5.out.2.trans (hb8.mono HB5.out.2.size)))
      clear hb8 hg8
      go_wp2_with fail
      refine (list_one_any HB8.out.1 hn).mono ?_
      rintro r w9 ⟨yv, rfl, hO9, hb9⟩
      have HB9 := Lib.hid (And.intro hO9 (HB8.out.2.trans (hb9.mono HB8.out.2.size)))
      clear hO9 hb9
      go_wp2_with fail
      refine (Nets.same_any yv (.slice a ln cap) ss ss w9 (reads_owns HB9.out.1) (HR.out.below HB9.out.2) (by have := HL2.out; omega) (by have := HL2.out; omega)).mono ?_
      rintro r w10 ⟨rfl, hb10⟩
      rw [decide_eq_true rfl]
      have HB10 := Lib.hid (HB9.out.2.trans (hb10.mono HB9.out.2.size))
      clear hb10
      go_wp2_with fail
      go_ret
      exact ⟨rfl, HB10.out⟩
end Go.Proofs.YtoknflnoehmngaaDoor.Cell
