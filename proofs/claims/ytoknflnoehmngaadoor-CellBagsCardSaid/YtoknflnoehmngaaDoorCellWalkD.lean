/-
  Walks of the program's bag, fourth part: List, Names.
-/
import Derived.Test.YtoknflnoehmngaaDoorCellWalkC
namespace Go.Proofs.YtoknflnoehmngaaDoor.Cell
open Go Go.RowKit

/-- The list under a name. -/
def listAt (n : ByteArray) (G : List Pair) : List ByteArray := match at? pn n G with | some g => if g.1.v.kind = 4 then g.1.v.ls else [] | none => []
section
variable {w : World} {pb mb : Nat} {G : List Pair}
/-- The slice under a name, or none: what is copied. -/
theorem BagAt.list (h : BagAt w pb mb G) (n : ByteArray) : (∃ sv, valueAt n G = .iface 28 sv ∧ Reads w sv (listAt n G) ∧ (listAt n G).length ≤ 1000) ∨
    (listAt n G = [] ∧ (valueAt n G = .nilIface ∨ (∃ s, valueAt n G = .iface 9 (.string s)) ∨ (∃ x, valueAt n G = .iface 3 (.int .i64 x)) ∨ (∃ b, valueAt n G = .iface 4 (.bool b)))) := by
  unfold valueAt listAt
  cases ha : at? pn n G with
  | none => exact .inr ⟨rfl, .inl rfl⟩
  | some g =>
    simp only
    have ht := h.tied g (at_some pn ha).1
    rcases ht with ⟨k, e⟩ | ⟨k, e⟩ | ⟨k, e⟩ | ⟨k, k0, sv, e, hr⟩
    · exact .inr ⟨by rw [k]; rfl, .inr (.inl ⟨_, e⟩)⟩
    · exact .inr ⟨by rw [k]; rfl, .inr (.inr (.inl ⟨_, e⟩))⟩
    · exact .inr ⟨by rw [k]; rfl, .inr (.inr (.inr ⟨_, e⟩))⟩
    · rw [if_pos k]
      exact .inl ⟨sv, e, hr, k0⟩
theorem nil_reads (w : World) : Reads w (.slice none 0 0) [] := .inl ⟨none, 0, rfl, rfl⟩
theorem list_any (h : BagAt w pb mb G) (n : ByteArray) (hn : n.size ≤ maxLen) : Calls Tryd.prog 23 #[ptr pb, .string n] w fun e w' => ∃ sv, e = .returned (.tuple #[sv, .int .i64 (code 28 (valueAt n G))]) ∧
    w'.ownsRow w.heap.size 9 1 sv (listAt n G).length ((listAt n G).map Value.string) ∧ Below w.heap.size w w' := by
  have hl := h.look n hn
  have hc := h.cell
  have HO := Lib.hid (fun (w' : World) (hb : Below w.heap.size w w') => outcome_no (h.below hb) n hn)
  rcases h.list n with ⟨sv, e, hr, hk⟩ | ⟨e0, e | ⟨x, e⟩ | ⟨x, e⟩ | ⟨x, e⟩⟩
  · rw [e] at hl ⊢
    have HC := Lib.hid (copyOf_any w sv (listAt n G) hr (by omega))
    clear e h hn HO hr hk
    have t1 := as_l_l
    go_enter Tryd.func23, Tryd.ntmps23
    go_wp2_with (first | (go_at_call 41; refine HC.out.mono ?_; rintro e' w1 ⟨sv', rfl, hO, hb⟩) | (go_at_call 42; refine (outcome_yes _ _ _).mono ?_; rintro e' w' ⟨rfl, rfl⟩))
    go_ret2
    exact ⟨_, rfl, hO, hb⟩
  · rw [e] at hl ⊢
    have HC := Lib.hid (copyOf_any w (.slice none 0 0) (listAt n G) (by rw [e0]; exact nil_reads w) (by rw [e0]; exact Nat.zero_le _))
    have HO2 := Lib.hid (fun (w' : World) (hb : Below w.heap.size w w') => HO.out w' hb _ e)
    clear e h hn HO e0
    have t1 := as_0_l
    go_enter Tryd.func23, Tryd.ntmps23
    go_wp2_with (go_at_call 41; refine HC.out.mono ?_; rintro e' w1 ⟨sv', rfl, hO, hb⟩)
    have HB := Lib.hid (And.intro hO hb)
    go_wp2_with (go_at_call 42; refine (HO2.out _ HB.out.2).mono ?_; rintro e' w' ⟨rfl, rfl⟩)
    go_ret2
    exact ⟨_, rfl, HB.out.1, HB.out.2⟩
  · rw [e] at hl ⊢
    have HC := Lib.hid (copyOf_any w (.slice none 0 0) (listAt n G) (by rw [e0]; exact nil_reads w) (by rw [e0]; exact Nat.zero_le _))
    have HO2 := Lib.hid (fun (w' : World) (hb : Below w.heap.size w w') => HO.out w' hb _ e)
    clear e h hn HO e0
    have t1 := as_s_l
    go_enter Tryd.func23, Tryd.ntmps23
    go_wp2_with (go_at_call 41; refine HC.out.mono ?_; rintro e' w1 ⟨sv', rfl, hO, hb⟩)
    have HB := Lib.hid (And.intro hO hb)
    go_wp2_with (go_at_call 42; refine (HO2.out _ HB.out.2).mono ?_; rintro e' w' ⟨rfl, rfl⟩)
    go_ret2
    exact ⟨_, rfl, HB.out.1, HB.out.2⟩
  · rw [e] at hl ⊢
    have HC := Lib.hid (copyOf_any w (.slice none 0 0) (listAt n G) (by rw [e0]; exact nil_reads w) (by rw [e0]; exact Nat.zero_le _))
    have HO2 := Lib.hid (fun (w' : World) (hb : Below w.heap.size w w') => HO.out w' hb _ e)
    clear e h hn HO e0
    have t1 := as_n_l
    go_enter Tryd.func23, Tryd.ntmps23
    go_wp2_with (go_at_call 41; refine HC.out.mono ?_; rintro e' w1 ⟨sv', rfl, hO, hb⟩)
    have HB := Lib.hid (And.intro hO hb)
    go_wp2_with (go_at_call 42; refine (HO2.out _ HB.out.2).mono ?_; rintro e' w' ⟨rfl, rfl⟩)
    go_ret2
    exact ⟨_, rfl, HB.out.1, HB.out.2⟩
  · rw [e] at hl ⊢
    have HC := Lib.hid (copyOf_any w (.slice none 0 0) (listAt n G) (by rw [e0]; exact nil_reads w) (by rw [e0]; exact Nat.zero_le _))
    have HO2 := Lib.hid (fun (w' : World) (hb : Below w.heap.size w w') => HO.out w' hb _ e)
    clear e h hn HO e0
    have t1 := as_b_l
    go_enter Tryd.func23, Tryd.ntmps23
    go_wp2_with (go_at_call 41; refine HC.out.mono ?_; rintro e' w1 ⟨sv', rfl, hO, hb⟩)
    have HB := Lib.hid (And.intro hO hb)
    go_wp2_with (go_at_call 42; refine (HO2.out _ HB.out.2).mono ?_; rintro e' w' ⟨rfl, rfl⟩)
    go_ret2
    exact ⟨_, rfl, HB.out.1, HB.out.2⟩

/-! The names, in their order. -/
set_option maxHeartbeats 1000000 in
theorem names_any (h : BagAt w pb mb G) : Calls Tryd.prog 14 #[ptr pb] w fun e w' => ∃ v, e = .returned v ∧ w'.ownsRow w.heap.size 9 1 v G.length (G.map fun g => Value.string (pn g)) ∧ Below w.heap.size w w' := by
  have hc := h.cell
  have hown := h.owns
  have hmax : Maps.size (datum G) ≤ maxLen := by rw [datum_size]; have := h.few; unfold maxLen; omega
  have hbytes : Maps.size (datum G) * 16 ≤ 140737488355328 := by rw [datum_size]; have := h.few; omega
  have hr := h.rising
  clear h
  refine (callsIn_wide (n := 6)).1 ?_
  have hfK : Fence.wide.fn 33 := trivial
  have hfS : Fence.wide.fn 32 := trivial
  refine callsIn_of_wp Tryd.func14 rfl trivial ?_ rfl
  simp only [Tryd.ntmps14, List.size_toArray, List.length_cons, List.length_nil, Nat.reduceAdd, Nat.reduceSub, Array.replicate_succ, Array.replicate_zero, List.push_toArray, List.append_toArray, List.nil_append, List.cons_append]
  gi_wp2_with (first
    | (gi_at_call 33; refine (Tryd.maps_Keys_33 _ _).mono ?_; rintro e w' ⟨rfl, rfl⟩)
    | (gi_at_call 32; refine (Tryd.slices_Sorted_keys_32_33 mb G.length (datum G) el w hown hmax hbytes).mono ?_; rintro e w' ⟨v, ss, rfl, hS, hrow, hnil, hb⟩))
  go_ret
  have e1 := keys_sorted G hr ss hS
  have e2 : ss.length = G.length := by
    have := hS.length_eq
    rw [datum_keys] at this
    simpa using this
  have hrow2 := ownsRow_base_a hrow (base' := w.heap.size) (by simp)
  rw [e1, e2, List.map_map] at hrow2
  exact ⟨v, rfl, hrow2, ((Below.refl _ w).alloc (Nat.le_refl _) _).trans (hb.mono (by simp))⟩
end
end Go.Proofs.YtoknflnoehmngaaDoor.Cell
