/-
  Walks of the program's bag, third part: outcome, Text, Num, Flag, List, Names.
-/
import Derived.Test.YtoknflnoehmngaaDoorCellWalkB
import Derived.Test.YtoknflnoehmngaaDoorCellIter
import Derived.Test.YtoknflnoehmngaaDoorNetsSame
namespace Go.Proofs.YtoknflnoehmngaaDoor.Cell
open Go Go.RowKit

section
variable {w : World} {pb mb : Nat} {G : List Pair}
theorem outcome_yes (n : ByteArray) (w : World) (p : Value) : Calls Tryd.prog 42 #[p, .string n, .bool true] w fun e w' => e = .returned (.int .i64 0) ∧ w = w' := by
  go_enter Tryd.func42, Tryd.ntmps42
  go_wp2
  go_ret
  exact ⟨rfl, rfl⟩
/-- Why there is no value of a type. -/
def why : Value → Int
  | .iface _ _ => 70
  | _ => 6
theorem kn_0 : kname .nilIface = ⟨#[]⟩ := rfl
theorem kn_s (v : Value) : kname (.iface 9 v) = ⟨#[116, 101, 120, 116]⟩ := rfl
theorem kn_n (v : Value) : kname (.iface 3 v) = ⟨#[110, 117, 109, 98, 101, 114]⟩ := rfl
theorem kn_b (v : Value) : kname (.iface 4 v) = ⟨#[116, 114, 117, 116, 104]⟩ := rfl
theorem kn_l (v : Value) : kname (.iface 28 v) = ⟨#[108, 105, 115, 116]⟩ := rfl
theorem outcome_no (h : BagAt w pb mb G) (n : ByteArray) (hn : n.size ≤ maxLen) (x : Value) (hx : valueAt n G = x) : Calls Tryd.prog 42 #[ptr pb, .string n, .bool false] w fun e w' => e = .returned (.int .i64 (why x)) ∧ w = w' := by
  have hk := kind_any h n hn
  subst hx
  rcases h.five n with e | ⟨x, e⟩ | ⟨x, e⟩ | ⟨x, e⟩ | ⟨x, e⟩
  all_goals
    rw [e] at hk ⊢
    simp only [kn_0, kn_s, kn_n, kn_b, kn_l] at hk
    clear e h hn
    go_enter Tryd.func42, Tryd.ntmps42
    go_wp2_with (go_at_call 26; refine hk.mono ?_; rintro e' w' ⟨rfl, rfl⟩)
    go_ret
    exact ⟨rfl, rfl⟩

/-- What is told of a value that is asked for by a type: z where it has another one, or is none. -/
def told (t : TypeId) (z : Value) : Value → Value
  | .iface u v => if u = t then v else z
  | _ => z
def code (t : TypeId) : Value → Int
  | .iface u _ => if u = t then 0 else 70
  | _ => 6
theorem text_any (h : BagAt w pb mb G) (n : ByteArray) (hn : n.size ≤ maxLen) : Calls Tryd.prog 25 #[ptr pb, .string n] w fun e w' => e = .returned (.tuple #[told 9 (.string ⟨#[]⟩) (valueAt n G), .int .i64 (code 9 (valueAt n G))]) ∧ w = w' := by
  have hl := h.look n hn
  have hc := h.cell
  have HO := Lib.hid (outcome_no h n hn)
  rcases h.five n with e | ⟨x, e⟩ | ⟨x, e⟩ | ⟨x, e⟩ | ⟨x, e⟩
  · rw [e] at hl ⊢
    have HO2 := Lib.hid (HO.out _ e)
    clear e h hn HO
    have t1 := as_0_s
    go_enter Tryd.func25, Tryd.ntmps25
    go_wp2_with (go_at_call 42; refine HO2.out.mono ?_; rintro e' w' ⟨rfl, rfl⟩)
    go_ret2
    exact ⟨rfl, rfl⟩
  · rw [e] at hl ⊢
    have HO2 := Lib.hid (HO.out _ e)
    clear e h hn HO
    have t1 := as_s_s
    go_enter Tryd.func25, Tryd.ntmps25
    go_wp2_with (go_at_call 42; refine (outcome_yes _ _ _).mono ?_; rintro e' w' ⟨rfl, rfl⟩)
    go_ret2
    exact ⟨rfl, rfl⟩
  · rw [e] at hl ⊢
    have HO2 := Lib.hid (HO.out _ e)
    clear e h hn HO
    have t1 := as_n_s
    go_enter Tryd.func25, Tryd.ntmps25
    go_wp2_with (go_at_call 42; refine HO2.out.mono ?_; rintro e' w' ⟨rfl, rfl⟩)
    go_ret2
    exact ⟨rfl, rfl⟩
  · rw [e] at hl ⊢
    have HO2 := Lib.hid (HO.out _ e)
    clear e h hn HO
    have t1 := as_b_s
    go_enter Tryd.func25, Tryd.ntmps25
    go_wp2_with (go_at_call 42; refine HO2.out.mono ?_; rintro e' w' ⟨rfl, rfl⟩)
    go_ret2
    exact ⟨rfl, rfl⟩
  · rw [e] at hl ⊢
    have HO2 := Lib.hid (HO.out _ e)
    clear e h hn HO
    have t1 := as_l_s
    go_enter Tryd.func25, Tryd.ntmps25
    go_wp2_with (go_at_call 42; refine HO2.out.mono ?_; rintro e' w' ⟨rfl, rfl⟩)
    go_ret2
    exact ⟨rfl, rfl⟩
theorem num_any (h : BagAt w pb mb G) (n : ByteArray) (hn : n.size ≤ maxLen) : Calls Tryd.prog 28 #[ptr pb, .string n] w fun e w' => e = .returned (.tuple #[told 3 (.int .i64 0) (valueAt n G), .int .i64 (code 3 (valueAt n G))]) ∧ w = w' := by
  have hl := h.look n hn
  have hc := h.cell
  have HO := Lib.hid (outcome_no h n hn)
  rcases h.five n with e | ⟨x, e⟩ | ⟨x, e⟩ | ⟨x, e⟩ | ⟨x, e⟩
  · rw [e] at hl ⊢
    have HO2 := Lib.hid (HO.out _ e)
    clear e h hn HO
    have t1 := as_0_n
    go_enter Tryd.func28, Tryd.ntmps28
    go_wp2_with (go_at_call 42; refine HO2.out.mono ?_; rintro e' w' ⟨rfl, rfl⟩)
    go_ret2
    exact ⟨rfl, rfl⟩
  · rw [e] at hl ⊢
    have HO2 := Lib.hid (HO.out _ e)
    clear e h hn HO
    have t1 := as_s_n
    go_enter Tryd.func28, Tryd.ntmps28
    go_wp2_with (go_at_call 42; refine HO2.out.mono ?_; rintro e' w' ⟨rfl, rfl⟩)
    go_ret2
    exact ⟨rfl, rfl⟩
  · rw [e] at hl ⊢
    have HO2 := Lib.hid (HO.out _ e)
    clear e h hn HO
    have t1 := as_n_n
    go_enter Tryd.func28, Tryd.ntmps28
    go_wp2_with (go_at_call 42; refine (outcome_yes _ _ _).mono ?_; rintro e' w' ⟨rfl, rfl⟩)
    go_ret2
    exact ⟨rfl, rfl⟩
  · rw [e] at hl ⊢
    have HO2 := Lib.hid (HO.out _ e)
    clear e h hn HO
    have t1 := as_b_n
    go_enter Tryd.func28, Tryd.ntmps28
    go_wp2_with (go_at_call 42; refine HO2.out.mono ?_; rintro e' w' ⟨rfl, rfl⟩)
    go_ret2
    exact ⟨rfl, rfl⟩
  · rw [e] at hl ⊢
    have HO2 := Lib.hid (HO.out _ e)
    clear e h hn HO
    have t1 := as_l_n
    go_enter Tryd.func28, Tryd.ntmps28
    go_wp2_with (go_at_call 42; refine HO2.out.mono ?_; rintro e' w' ⟨rfl, rfl⟩)
    go_ret2
    exact ⟨rfl, rfl⟩
theorem flag_any (h : BagAt w pb mb G) (n : ByteArray) (hn : n.size ≤ maxLen) : Calls Tryd.prog 29 #[ptr pb, .string n] w fun e w' => e = .returned (.tuple #[told 4 (.bool false) (valueAt n G), .int .i64 (code 4 (valueAt n G))]) ∧ w = w' := by
  have hl := h.look n hn
  have hc := h.cell
  have HO := Lib.hid (outcome_no h n hn)
  rcases h.five n with e | ⟨x, e⟩ | ⟨x, e⟩ | ⟨x, e⟩ | ⟨x, e⟩
  · rw [e] at hl ⊢
    have HO2 := Lib.hid (HO.out _ e)
    clear e h hn HO
    have t1 := as_0_b
    go_enter Tryd.func29, Tryd.ntmps29
    go_wp2_with (go_at_call 42; refine HO2.out.mono ?_; rintro e' w' ⟨rfl, rfl⟩)
    go_ret2
    exact ⟨rfl, rfl⟩
  · rw [e] at hl ⊢
    have HO2 := Lib.hid (HO.out _ e)
    clear e h hn HO
    have t1 := as_s_b
    go_enter Tryd.func29, Tryd.ntmps29
    go_wp2_with (go_at_call 42; refine HO2.out.mono ?_; rintro e' w' ⟨rfl, rfl⟩)
    go_ret2
    exact ⟨rfl, rfl⟩
  · rw [e] at hl ⊢
    have HO2 := Lib.hid (HO.out _ e)
    clear e h hn HO
    have t1 := as_n_b
    go_enter Tryd.func29, Tryd.ntmps29
    go_wp2_with (go_at_call 42; refine HO2.out.mono ?_; rintro e' w' ⟨rfl, rfl⟩)
    go_ret2
    exact ⟨rfl, rfl⟩
  · rw [e] at hl ⊢
    have HO2 := Lib.hid (HO.out _ e)
    clear e h hn HO
    have t1 := as_b_b
    go_enter Tryd.func29, Tryd.ntmps29
    go_wp2_with (go_at_call 42; refine (outcome_yes _ _ _).mono ?_; rintro e' w' ⟨rfl, rfl⟩)
    go_ret2
    exact ⟨rfl, rfl⟩
  · rw [e] at hl ⊢
    have HO2 := Lib.hid (HO.out _ e)
    clear e h hn HO
    have t1 := as_l_b
    go_enter Tryd.func29, Tryd.ntmps29
    go_wp2_with (go_at_call 42; refine HO2.out.mono ?_; rintro e' w' ⟨rfl, rfl⟩)
    go_ret2
    exact ⟨rfl, rfl⟩
end
end Go.Proofs.YtoknflnoehmngaaDoor.Cell
