/-
  Walks of the program's bag: New, the four that put, copyOf, Drop, Kind, outcome, the four that tell.
-/
import Derived.Test.YtoknflnoehmngaaDoorCellBag
import Derived.OwnWalk
namespace Go.Proofs.YtoknflnoehmngaaDoor.Cell
open Go Go.RowKit

/-! Assertions of a type. -/
theorem as_s_s (v : Value) (w : World) : (Instr.typeAssert (.iface 9 v) 20 9 true).run Tryd.prog w = .ok (.tuple #[v, .bool true]) w := by kernel_rfl
theorem as_n_s (v : Value) (w : World) : (Instr.typeAssert (.iface 3 v) 20 9 true).run Tryd.prog w = .ok (.tuple #[.string ⟨#[]⟩, .bool false]) w := by kernel_rfl
theorem as_b_s (v : Value) (w : World) : (Instr.typeAssert (.iface 4 v) 20 9 true).run Tryd.prog w = .ok (.tuple #[.string ⟨#[]⟩, .bool false]) w := by kernel_rfl
theorem as_l_s (v : Value) (w : World) : (Instr.typeAssert (.iface 28 v) 20 9 true).run Tryd.prog w = .ok (.tuple #[.string ⟨#[]⟩, .bool false]) w := by kernel_rfl
theorem as_0_s (w : World) : (Instr.typeAssert .nilIface 20 9 true).run Tryd.prog w = .ok (.tuple #[.string ⟨#[]⟩, .bool false]) w := by kernel_rfl
theorem as_s_n (v : Value) (w : World) : (Instr.typeAssert (.iface 9 v) 20 3 true).run Tryd.prog w = .ok (.tuple #[.int .i64 0, .bool false]) w := by kernel_rfl
theorem as_n_n (v : Value) (w : World) : (Instr.typeAssert (.iface 3 v) 20 3 true).run Tryd.prog w = .ok (.tuple #[v, .bool true]) w := by kernel_rfl
theorem as_b_n (v : Value) (w : World) : (Instr.typeAssert (.iface 4 v) 20 3 true).run Tryd.prog w = .ok (.tuple #[.int .i64 0, .bool false]) w := by kernel_rfl
theorem as_l_n (v : Value) (w : World) : (Instr.typeAssert (.iface 28 v) 20 3 true).run Tryd.prog w = .ok (.tuple #[.int .i64 0, .bool false]) w := by kernel_rfl
theorem as_0_n (w : World) : (Instr.typeAssert .nilIface 20 3 true).run Tryd.prog w = .ok (.tuple #[.int .i64 0, .bool false]) w := by kernel_rfl
theorem as_s_b (v : Value) (w : World) : (Instr.typeAssert (.iface 9 v) 20 4 true).run Tryd.prog w = .ok (.tuple #[.bool false, .bool false]) w := by kernel_rfl
theorem as_n_b (v : Value) (w : World) : (Instr.typeAssert (.iface 3 v) 20 4 true).run Tryd.prog w = .ok (.tuple #[.bool false, .bool false]) w := by kernel_rfl
theorem as_b_b (v : Value) (w : World) : (Instr.typeAssert (.iface 4 v) 20 4 true).run Tryd.prog w = .ok (.tuple #[v, .bool true]) w := by kernel_rfl
theorem as_l_b (v : Value) (w : World) : (Instr.typeAssert (.iface 28 v) 20 4 true).run Tryd.prog w = .ok (.tuple #[.bool false, .bool false]) w := by kernel_rfl
theorem as_0_b (w : World) : (Instr.typeAssert .nilIface 20 4 true).run Tryd.prog w = .ok (.tuple #[.bool false, .bool false]) w := by kernel_rfl
theorem as_s_l (v : Value) (w : World) : (Instr.typeAssert (.iface 9 v) 20 28 true).run Tryd.prog w = .ok (.tuple #[.slice none 0 0, .bool false]) w := by kernel_rfl
theorem as_n_l (v : Value) (w : World) : (Instr.typeAssert (.iface 3 v) 20 28 true).run Tryd.prog w = .ok (.tuple #[.slice none 0 0, .bool false]) w := by kernel_rfl
theorem as_b_l (v : Value) (w : World) : (Instr.typeAssert (.iface 4 v) 20 28 true).run Tryd.prog w = .ok (.tuple #[.slice none 0 0, .bool false]) w := by kernel_rfl
theorem as_l_l (v : Value) (w : World) : (Instr.typeAssert (.iface 28 v) 20 28 true).run Tryd.prog w = .ok (.tuple #[v, .bool true]) w := by kernel_rfl
theorem as_0_l (w : World) : (Instr.typeAssert .nilIface 20 28 true).run Tryd.prog w = .ok (.tuple #[.slice none 0 0, .bool false]) w := by kernel_rfl

abbrev ptr (pb : Nat) : Value := .pointer (some ⟨pb, 0, none⟩)

theorem made (w : World) : BagAt ((w.alloc (.map #[] 0)).alloc (.cells #[.map (some w.heap.size)] 54)) (w.heap.size + 1) w.heap.size [] := by
  refine ⟨?_, (World.ownsMap_made w _ _ _).alloc _, (fun g hg => by cases hg), by decide⟩
  have e : ((w.alloc (.map #[] 0)).alloc (.cells #[.map (some w.heap.size)] 54)).heap[w.heap.size + 1]? = some (.cells #[.map (some w.heap.size)] 54) := by
    show ((w.heap.push (.map #[] 0)).push (.cells #[.map (some w.heap.size)] 54))[w.heap.size + 1]? = _
    rw [show w.heap.size + 1 = (w.heap.push (.map #[] 0)).size by simp, Array.getElem?_push_size]
  simp only [World.cell?, e]
  rfl

theorem new_any (w : World) : Calls Tryd.prog 6 #[] w fun e w' => e = .returned (ptr (w.heap.size + 1)) ∧ w' = (w.alloc (.map #[] 0)).alloc (.cells #[.map (some w.heap.size)] 54) := by
  have hmm := @run_makeMap Tryd.prog
  go_enter Tryd.func6, Tryd.ntmps6
  go_wp2
  go_ret
  exact ⟨rfl, rfl⟩

section
variable {w : World} {pb mb : Nat} {G : List Pair}
theorem putText_any (h : BagAt w pb mb G) (e : Ent) (hk : e.v.kind = 1) (hn : e.name.size ≤ maxLen) (hf : G.length < 100) :
    Calls Tryd.prog 18 #[ptr pb, .string e.name, .string e.v.s] w fun r w' => r = .returned (.tuple #[]) ∧ BagAt w' pb mb (put pn (e, .iface 9 (.string e.v.s)) G) ∧ w.mapTurned w' mb := by
  obtain ⟨w', hrun, hB, hT⟩ := h.store (e, .iface 9 (.string e.v.s)) hn (.inl ⟨hk, rfl⟩) hf
  have hc := h.cell
  have HH := Lib.hid (And.intro hB hT)
  clear hB hT
  go_enter Tryd.func18, Tryd.ntmps18
  go_wp2
  go_end0
  exact ⟨rfl, HH.out⟩
theorem putNum_any (h : BagAt w pb mb G) (e : Ent) (hk : e.v.kind = 2) (hn : e.name.size ≤ maxLen) (hf : G.length < 100) :
    Calls Tryd.prog 24 #[ptr pb, .string e.name, .int .i64 e.v.n] w fun r w' => r = .returned (.tuple #[]) ∧ BagAt w' pb mb (put pn (e, .iface 3 (.int .i64 e.v.n)) G) ∧ w.mapTurned w' mb := by
  obtain ⟨w', hrun, hB, hT⟩ := h.store (e, .iface 3 (.int .i64 e.v.n)) hn (.inr (.inl ⟨hk, rfl⟩)) hf
  have hc := h.cell
  have HH := Lib.hid (And.intro hB hT)
  clear hB hT
  go_enter Tryd.func24, Tryd.ntmps24
  go_wp2
  go_end0
  exact ⟨rfl, HH.out⟩
theorem putFlag_any (h : BagAt w pb mb G) (e : Ent) (hk : e.v.kind = 3) (hn : e.name.size ≤ maxLen) (hf : G.length < 100) :
    Calls Tryd.prog 27 #[ptr pb, .string e.name, .bool e.v.is] w fun r w' => r = .returned (.tuple #[]) ∧ BagAt w' pb mb (put pn (e, .iface 4 (.bool e.v.is)) G) ∧ w.mapTurned w' mb := by
  obtain ⟨w', hrun, hB, hT⟩ := h.store (e, .iface 4 (.bool e.v.is)) hn (.inr (.inr (.inl ⟨hk, rfl⟩))) hf
  have hc := h.cell
  have HH := Lib.hid (And.intro hB hT)
  clear hB hT
  go_enter Tryd.func27, Tryd.ntmps27
  go_wp2
  go_end0
  exact ⟨rfl, HH.out⟩
theorem drop_any (h : BagAt w pb mb G) (n : ByteArray) (hn : n.size ≤ maxLen) :
    Calls Tryd.prog 19 #[ptr pb, .string n] w fun r w' => r = .returned (.bool (at? pn n G).isSome) ∧ BagAt w' pb mb (del pn n G) ∧ w.mapTurned w' mb := by
  have hl := h.look_ok n hn
  obtain ⟨w', hrun, hB, hT⟩ := h.drop n hn 0
  have hc := h.cell
  have HH := Lib.hid (And.intro hB hT)
  clear hB hT
  go_enter Tryd.func19, Tryd.ntmps19
  go_wp2
  go_ret
  exact ⟨rfl, HH.out⟩
end
end Go.Proofs.YtoknflnoehmngaaDoor.Cell
