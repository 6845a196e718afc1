/-
  Walks of the program's bag, second part: copyOf, PutList, Kind, outcome, the four that tell.
-/
import Derived.Test.YtoknflnoehmngaaDoorCellWalkA
namespace Go.Proofs.YtoknflnoehmngaaDoor.Cell
open Go Go.RowKit

theorem infoString : (Tryd.prog.info? 9).map (fun i => (i.zero, i.size, i.bytes)) = some (some (.string ⟨#[]⟩), 1, 16) := by kernel_rfl
theorem append_none (w : World) (cap : Nat) : (Builtin.append_ #[28, 28] 28 #[.slice none 0 0, .slice none 0 cap]).run Tryd.prog w = .ok (.slice none 0 0) w := by kernel_rfl
theorem strings_one (ss : List ByteArray) : ∀ u ∈ ss.map Value.string, u.oneCell' = true := by
  intro u hu
  obtain ⟨s, _, rfl⟩ := List.mem_map.1 hu
  rfl
theorem below_of_grown {w w' : World} (h : w.grownBy w' none) : Below w.heap.size w w' := ⟨h.os, h.tape, h.output, h.size, fun k hk => h.block k hk (by simp)⟩
theorem addr_add (b off j : Nat) : (⟨b, off, none⟩ : Addr).add j = ⟨b, off + j, none⟩ := by unfold Addr.add; split <;> simp_all
/-- A list appended to a list of the call's own (or to none). -/
theorem append_list (w : World) (u v : Value) (ss : List ByteArray) (B : Nat) (ho : w.ownsRow B 9 1 u 0 []) (hr : Reads w v ss) (hl : ss.length ≤ 1000000) (hB : B ≤ w.heap.size) (hu : ∀ c, v = .slice none 0 c → u = .slice none 0 0) :
    ∃ v' w', (Builtin.append_ #[28, 28] 28 #[u, v]).run Tryd.prog w = .ok v' w' ∧ w'.ownsRow B 9 1 v' ss.length (ss.map Value.string) ∧ w.grownBy w' u.ownBlock := by
  obtain ⟨i0, hi, hz0, hz1, hz2⟩ := info_parts infoString
  rcases hr with ⟨a, cap, rfl, rfl⟩ | ⟨h0, b, off, cap, rfl, h1, h2, h3, h4⟩
  · rcases a with _ | a
    · obtain rfl := hu cap rfl
      exact ⟨_, _, append_none w cap, World.ownsRow_nil _ _ _ _, World.grownBy.refl _ _⟩
    · obtain ⟨v', w', hr, h2, h3, h4⟩ := run_append_own (P := Tryd.prog) w B 28 28 9 i0 _ 1 16 Tryd.underlying28 hi hz0 hz1 hz2 rfl (by decide) u 0 [] ho a 0 cap [] rfl (fun j x hx => by simp at hx) (fun x hx => by cases hx) (by unfold maxLen; omega) (by omega) hB
      exact ⟨v', w', hr, h2, h3⟩
  · obtain ⟨v', w', hr, h2, h3, h4⟩ := run_append_own (P := Tryd.prog) w B 28 28 9 i0 _ 1 16 Tryd.underlying28 hi hz0 hz1 hz2 rfl (by decide) u 0 [] ho ⟨b, off, none⟩ ss.length cap (ss.map Value.string) (by simp) (fun j x hx => by
      rw [List.getElem?_map] at hx
      obtain ⟨s, hs, rfl⟩ := Option.map_eq_some_iff.1 hx
      obtain ⟨hj, e⟩ := List.getElem?_eq_some_iff.1 hs
      rw [addr_add]
      have := h4 j hj
      rw [List.getD_eq_getElem?_getD, hs] at this
      exact this) (strings_one ss) (by unfold maxLen; omega) (by omega) hB
    exact ⟨v', w', hr, by simpa using h2, h3⟩

theorem wpList_append_run {P : Program} {w w' : World} {ops : Array Oper} {rest : List Oper} {o : Oper} {a : Act} {Q : Exit → Act → World → Prop} (hg : o.guard = none) (s x : Operand) (t : TypeId)
    (ho : o.op = .call { callee := .builtin .append, args := #[s, x], argTypes := #[t, t] }) (u v r : Value) (hs : a.eval s = u) (hx : a.eval x = v)
    (hrun : (Builtin.append_ #[t, t] o.type #[u, v]).run P w = .ok r w') (h : wpList P ops Q rest (a.put o.dst r) w') : wpList P ops Q (o :: rest) a w := by
  refine wpList_plain hg fun K hK => ?_
  unfold Oper.wp execOp
  simp only [ho, resolve, invoke, builtin, Sem.run_bind, Sem.run_pure, Result.andThen_ok, List.map_toArray, List.map_cons, List.map_nil, hs, hx, hrun]
  exact hK _ _ h
theorem copyOf_any (w : World) (v : Value) (ss : List ByteArray) (hr : Reads w v ss) (hl : ss.length ≤ 1000000) :
    Calls Tryd.prog 41 #[v] w fun e w' => ∃ sv, e = .returned sv ∧ w'.ownsRow w.heap.size 9 1 sv ss.length (ss.map Value.string) ∧ Below w.heap.size w w' := by
  obtain ⟨v', w', hrun, hO, hG⟩ := append_list w (.slice none 0 0) v ss w.heap.size (World.ownsRow_nil _ _ _ _) hr hl (Nat.le_refl _) (fun _ _ => rfl)
  have HH := Lib.hid (And.intro hO (below_of_grown hG))
  have HR := Lib.hid hrun
  clear hO hG hrun hr hl
  go_enter Tryd.func41, Tryd.ntmps41
  go_wp2_with (at_builtin; refine wpList_append_run rfl _ _ 28 rfl _ _ _ rfl rfl HR.out ?_)
  go_ret
  exact ⟨_, rfl, HH.out⟩

/-- What was copied: a list of its own. -/
def Fresh (B : Nat) (sv : Value) : Prop := ∀ k, sv.ownBlock = some k → B ≤ k
section
variable {w : World} {pb mb : Nat} {G : List Pair}
theorem BagAt.draw (h : BagAt w pb mb G) (n : Nat) : BagAt (w.drewN n) pb mb G := h.below (below_drewN (Below.refl _ _) _)
/-- copyOf, and what the store behind it will do. -/
theorem copy_store (h : BagAt w pb mb G) (e : Ent) (lv : Value) (hr : Reads w lv e.v.ls) (hl : e.v.ls.length ≤ 1000) (hk : e.v.kind = 4) (hn : e.name.size ≤ maxLen) (hf : G.length < 100) (n : Nat) :
    Calls Tryd.prog 41 #[lv] (w.drewN n) fun r w1 => ∃ sv w2, r = .returned sv ∧ (Instr.mapUpdate 52 (.map (some mb)) (.string e.name) (.iface 28 sv)).run Tryd.prog w1 = .ok () w2 ∧
      w1.cell? ⟨pb, 0, none⟩ = some (.map (some mb)) ∧ Hid (Fresh w.heap.size sv ∧ BagAt w2 pb mb (put pn (e, .iface 28 sv) G) ∧ w.grownBy w2 (some mb)) := by
  have h0 := below_drewN (Below.refl w.heap.size w) n
  refine (copyOf_any (w.drewN n) lv e.v.ls (hr.below h0) (by omega)).mono fun r w1 hh => ?_
  obtain ⟨sv, rfl, hO, hb⟩ := hh
  have hb' : Below w.heap.size w w1 := h0.trans hb
  obtain ⟨w2, hrun, hB, hT⟩ := (h.below hb').store (e, .iface 28 sv) hn (.inr (.inr (.inr ⟨hk, hl, sv, rfl, reads_owns hO⟩))) hf
  refine ⟨sv, w2, rfl, hrun, (h.below hb').cell, Lib.hid ⟨fun k hk => (hO.lt k hk).1, hB, ?_⟩⟩
  have hg := hT.grown
  exact ⟨hg.os.trans hb'.os, hg.tape.trans hb'.tape, hg.output.trans hb'.output, Nat.le_trans hb'.size hg.size, fun k hk hne => (hg.block k (Nat.lt_of_lt_of_le hk hb'.size) hne).trans (hb'.block k hk)⟩
set_option maxRecDepth 100000 in
set_option maxHeartbeats 1000000 in
theorem putList_any (h : BagAt w pb mb G) (e : Ent) (lv : Value) (hr : Reads w lv e.v.ls) (hl : e.v.ls.length ≤ 1000) (hk : e.v.kind = 4) (hn : e.name.size ≤ maxLen) (hf : G.length < 100) :
    Calls Tryd.prog 21 #[ptr pb, .string e.name, lv] w fun r w' => r = .returned (.tuple #[]) ∧ ∃ sv, Fresh w.heap.size sv ∧ BagAt w' pb mb (put pn (e, .iface 28 sv) G) ∧ w.grownBy w' (some mb) := by
  have hc := h.cell
  have HB := Lib.hid h
  have HR := Lib.hid hr
  have hlt := h.plt
  have HL := Lib.hid hl
  clear hl h hr
  go_enter Tryd.func21, Tryd.ntmps21
  go_wp2
  go_region_with (go_at_call 41; refine (copy_store HB.out e lv HR.out HL.out hk hn hf _).mono ?_; rintro e' w1 ⟨sv, w2, rfl, hrun, hc1, hh⟩)
  all_goals
    go_end0
    exact ⟨rfl, _, hh.out⟩

/-! What is under a name: five ways. -/
theorem BagAt.five (h : BagAt w pb mb G) (n : ByteArray) : valueAt n G = .nilIface ∨ (∃ s, valueAt n G = .iface 9 (.string s)) ∨ (∃ x, valueAt n G = .iface 3 (.int .i64 x)) ∨ (∃ b, valueAt n G = .iface 4 (.bool b)) ∨
    ∃ sv, valueAt n G = .iface 28 sv := by
  unfold valueAt
  cases ha : at? pn n G with
  | none => exact .inl rfl
  | some g =>
    have ht := h.tied g (at_some pn ha).1
    rcases ht with ⟨_, e⟩ | ⟨_, e⟩ | ⟨_, e⟩ | ⟨_, _, sv, e, _⟩
    · exact .inr (.inl ⟨_, e⟩)
    · exact .inr (.inr (.inl ⟨_, e⟩))
    · exact .inr (.inr (.inr (.inl ⟨_, e⟩)))
    · exact .inr (.inr (.inr (.inr ⟨_, e⟩)))
/-- The word for the type of a value. -/
def kname : Value → ByteArray
  | .iface t _ => if t = 9 then ⟨#[116, 101, 120, 116]⟩ else if t = 3 then ⟨#[110, 117, 109, 98, 101, 114]⟩ else if t = 4 then ⟨#[116, 114, 117, 116, 104]⟩ else ⟨#[108, 105, 115, 116]⟩
  | _ => ⟨#[]⟩
theorem kind_any (h : BagAt w pb mb G) (n : ByteArray) (hn : n.size ≤ maxLen) : Calls Tryd.prog 26 #[ptr pb, .string n] w fun e w' => e = .returned (.string (kname (valueAt n G))) ∧ w = w' := by
  have hl := h.look n hn
  have hc := h.cell
  rcases h.five n with e | ⟨x, e⟩ | ⟨x, e⟩ | ⟨x, e⟩ | ⟨x, e⟩
  all_goals
    rw [e] at hl ⊢
    clear e h hn
    have t1 := as_s_s
    have t2 := as_n_s
    have t3 := as_n_n
    have t4 := as_b_s
    have t5 := as_b_n
    have t6 := as_b_b
    have t7 := as_l_s
    have t8 := as_l_n
    have t9 := as_l_b
    have t10 := as_l_l
    have t11 := as_0_s
    have t12 := as_0_n
    have t13 := as_0_b
    have t14 := as_0_l
    go_enter Tryd.func26, Tryd.ntmps26
    go_wp2
    go_ret
    exact ⟨rfl, rfl⟩
end
end Go.Proofs.YtoknflnoehmngaaDoor.Cell
