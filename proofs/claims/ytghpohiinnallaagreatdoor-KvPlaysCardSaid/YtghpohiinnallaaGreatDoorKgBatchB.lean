/-
  Texts of changes: written and read.
-/
import Derived.Test.YtghpohiinnallaaGreatDoorKgBatchA
import Derived.Test.YtghpohiinnallaaGreatDoorKgNets
import Derived.Test.YtghpohiinnallaaGreatDoorProg
import Derived.WalkKit
import Derived.RangeFuncNested
import Derived.RangeFuncCalls
import Derived.OrdersIn
import Derived.RegionIn
import Derived.Test.YtghpohiinnallaaGreatDoorKgKept

/-
  Walks of Write and of what reads a change: the program's and the document's.
-/
namespace Go.Proofs.YtghpohiinnallaaGreatDoor.Batch
open Go Go.RowKit
open Go.Proofs.YtghpohiinnallaaGreatDoor.Nets (Tab Reads Small rowS textsS str)

theorem reads_two (w : World) (a b : ByteArray) : Reads (w.alloc (.cells #[.string a, .string b] 9)) (.slice (some ⟨w.heap.size, 0, none⟩) 2 2) [a, b] := by
  refine .inr ⟨by simp, w.heap.size, 0, 2, rfl, by simp, by decide, by simp, fun i hi => ?_⟩
  have h := heap_alloc_new w (.cells #[.string a, .string b] 9)
  rw [cell_of_row _ w.heap.size (0 + i) _ _ _ h]
  match i, hi with
  | 0, _ => rfl
  | 1, _ => rfl
theorem reads_three (w : World) (a b c : ByteArray) : Reads (w.alloc (.cells #[.string a, .string b, .string c] 9)) (.slice (some ⟨w.heap.size, 0, none⟩) 3 3) [a, b, c] := by
  refine .inr ⟨by simp, w.heap.size, 0, 3, rfl, by simp, by decide, by simp, fun i hi => ?_⟩
  have h := heap_alloc_new w (.cells #[.string a, .string b, .string c] 9)
  rw [cell_of_row _ w.heap.size (0 + i) _ _ _ h]
  match i, hi with
  | 0, _ => rfl
  | 1, _ => rfl
  | 2, _ => rfl
/-- What can be written. -/
def Fine (c : Chg) : Prop := c.key.size ≤ 100000 ∧ c.val.size ≤ 100000
theorem small_parts {c : Chg} (h : Fine c) : Small (parts c) := by
  unfold parts
  split
  · refine ⟨by simp, fun s hs => ?_⟩
    simp only [List.mem_cons, List.not_mem_nil, or_false] at hs
    rcases hs with rfl | rfl
    · decide
    · exact h.1
  · refine ⟨by simp, fun s hs => ?_⟩
    simp only [List.mem_cons, List.not_mem_nil, or_false] at hs
    rcases hs with rfl | rfl | rfl
    · decide
    · exact h.1
    · exact h.2
set_option maxHeartbeats 1000000 in
theorem write_any (c : Chg) (w : World) (hc : Fine c) (ht : Tab w) : Calls Tryz.prog 99 #[chV c] w fun e w' => e = .returned (str (writeS c)) ∧ Below w.heap.size w w' := by
  have hA : Below w.heap.size w (w.alloc (boxC chgT c)) := (Below.refl _ _).alloc (Nat.le_refl _) _
  have hs := small_parts hc
  have ew : writeS c = rowS ((parts c).map bl) := rfl
  have e1 : (w.alloc (boxC chgT c)).heap.size = w.heap.size + 1 := by simp
  obtain ⟨k, v, g⟩ := c
  cases g
  · have hp : parts ⟨k, v, false⟩ = [⟨#[43]⟩, k, v] := rfl
    have hB : Below w.heap.size w ((w.alloc (boxC chgT ⟨k, v, false⟩)).alloc (.cells #[.string ⟨#[43]⟩, .string k, .string v] 9)) := hA.alloc (by simp) _
    have hr := Nets.row_any _ _ _ (reads_three (w.alloc (boxC chgT ⟨k, v, false⟩)) ⟨#[43]⟩ k v) (by rw [← hp]; exact hs) (ht.below hB)
    rw [e1] at hr
    have HR := Lib.hid hr
    have HB := Lib.hid hB
    rw [ew, hp]
    clear hA hB hs ew hp hc e1 hr ht
    go_enter Tryz.func99, Tryz.ntmps99
    go_wp2_with fail
    refine HR.out.mono ?_
    rintro e w1 ⟨rfl, hb1⟩
    have HB1 := Lib.hid (HB.out.trans (hb1.mono HB.out.size))
    clear hb1
    go_wp2_with fail
    go_ret
    exact ⟨rfl, HB1.out⟩
  · have hp : parts ⟨k, v, true⟩ = [⟨#[45]⟩, k] := rfl
    have hB : Below w.heap.size w ((w.alloc (boxC chgT ⟨k, v, true⟩)).alloc (.cells #[.string ⟨#[45]⟩, .string k] 9)) := hA.alloc (by simp) _
    have hr := Nets.row_any _ _ _ (reads_two (w.alloc (boxC chgT ⟨k, v, true⟩)) ⟨#[45]⟩ k) (by rw [← hp]; exact hs) (ht.below hB)
    rw [e1] at hr
    have HR := Lib.hid hr
    have HB := Lib.hid hB
    rw [ew, hp]
    clear hA hB hs ew hp hc e1 hr ht
    go_enter Tryz.func99, Tryz.ntmps99
    go_wp2_with fail
    refine HR.out.mono ?_
    rintro e w1 ⟨rfl, hb1⟩
    have HB1 := Lib.hid (HB.out.trans (hb1.mono HB.out.size))
    clear hb1
    go_wp2_with fail
    go_ret
    exact ⟨rfl, HB1.out⟩
set_option maxHeartbeats 1000000 in
theorem refWrite_any (c : Chg) (w : World) (hc : Fine c) : Calls Tryz.prog 109 #[chV c] w fun e w' => e = .returned (str (writeS c)) ∧ Below w.heap.size w w' := by
  have hA : Below w.heap.size w (w.alloc (boxC refT c)) := (Below.refl _ _).alloc (Nat.le_refl _) _
  have hs := small_parts hc
  have ew : writeS c = rowS ((parts c).map bl) := rfl
  have e1 : (w.alloc (boxC refT c)).heap.size = w.heap.size + 1 := by simp
  obtain ⟨k, v, g⟩ := c
  cases g
  · have hp : parts ⟨k, v, false⟩ = [⟨#[43]⟩, k, v] := rfl
    have hB : Below w.heap.size w ((w.alloc (boxC refT ⟨k, v, false⟩)).alloc (.cells #[.string ⟨#[43]⟩, .string k, .string v] 9)) := hA.alloc (by simp) _
    have hr := Nets.refRow_any _ _ _ (reads_three (w.alloc (boxC refT ⟨k, v, false⟩)) ⟨#[43]⟩ k v) (by rw [← hp]; exact hs)
    rw [e1] at hr
    have HR := Lib.hid hr
    have HB := Lib.hid hB
    rw [ew, hp]
    clear hA hB hs ew hp hc e1 hr
    go_enter Tryz.func109, Tryz.ntmps109
    go_wp2_with fail
    refine HR.out.mono ?_
    rintro e w1 ⟨rfl, hb1⟩
    have HB1 := Lib.hid (HB.out.trans (hb1.mono HB.out.size))
    clear hb1
    go_wp2_with fail
    go_ret
    exact ⟨rfl, HB1.out⟩
  · have hp : parts ⟨k, v, true⟩ = [⟨#[45]⟩, k] := rfl
    have hB : Below w.heap.size w ((w.alloc (boxC refT ⟨k, v, true⟩)).alloc (.cells #[.string ⟨#[45]⟩, .string k] 9)) := hA.alloc (by simp) _
    have hr := Nets.refRow_any _ _ _ (reads_two (w.alloc (boxC refT ⟨k, v, true⟩)) ⟨#[45]⟩ k) (by rw [← hp]; exact hs)
    rw [e1] at hr
    have HR := Lib.hid hr
    have HB := Lib.hid hB
    rw [ew, hp]
    clear hA hB hs ew hp hc e1 hr
    go_enter Tryz.func109, Tryz.ntmps109
    go_wp2_with fail
    refine HR.out.mono ?_
    rintro e w1 ⟨rfl, hb1⟩
    have HB1 := Lib.hid (HB.out.trans (hb1.mono HB.out.size))
    clear hb1
    go_wp2_with fail
    go_ret
    exact ⟨rfl, HB1.out⟩

/-- A slice of texts, of so many, in memory: its texts' cells. -/
theorem reads_at {w : World} {v : Value} {ss : List ByteArray} (h : Reads w v ss) (h0 : 0 < ss.length) : ∃ b off cap, v = .slice (some ⟨b, off, none⟩) ss.length cap ∧ b < w.heap.size ∧ ∀ i, i < ss.length → w.cell? ⟨b, off + i, none⟩ = some (.string (ss.getD i ByteArray.empty)) := by
  rcases h with ⟨a, cap, rfl, rfl⟩ | ⟨_, b, off, cap, rfl, _, _, h3, h4⟩
  · simp at h0
  · exact ⟨b, off, cap, rfl, h3, h4⟩
theorem bytes_eq (a b : ByteArray) : (a.toList == b.toList) = decide (a = b) := key_eq a b
end Go.Proofs.YtghpohiinnallaaGreatDoor.Batch

/-
  Operations of a region that draws its order, within a round of a range over a function: one at a time, met by the equation of their run or by a callee's contract.
-/
namespace Go.Proofs.YtghpohiinnallaaGreatDoor.Batch
open Go Go.RowKit

section
variable {P : Program} {ops : Array Oper} {Q : Exit → Act → World → Prop} {l n : Nat} {o : Oper} {a : Act} {w w' : World} {K : Act → World → Prop} {v : Value} {E : Prop}
theorem opIn_value (hg : o.guard = none) (hd : ∀ c, o.op ≠ .defer c) (hr : (execOp a.eval o).run P w = .ok (.value v) w') (h : K (a.put o.dst v) w') :
    if Region.wanted o (yielded ops a.tmps) = true then Oper.wpIn (Fence.wide.inRound l) n P o a w K Q else E := by
  rw [if_pos (by simp [Region.wanted, hg])]
  refine ⟨fun _ _ => trivial, ?_⟩
  rw [Oper.semAt_eq _ _ _ hd, hr]
  exact h
theorem opIn_skip (hg : o.guard = none) (hd : ∀ c, o.op ≠ .defer c) (hr : (execOp a.eval o).run P w = .ok .skip w') (h : K (a.put o.dst undef) w') :
    if Region.wanted o (yielded ops a.tmps) = true then Oper.wpIn (Fence.wide.inRound l) n P o a w K Q else E := by
  rw [if_pos (by simp [Region.wanted, hg])]
  refine ⟨fun _ _ => trivial, ?_⟩
  rw [Oper.semAt_eq _ _ _ hd, hr]
  exact h
theorem opIn_call {f : FuncId} {args : Array Value} {R : World → Prop} (hg : o.guard = none) (hd : ∀ c, o.op ≠ .defer c) (hr : (execOp a.eval o).run P w = .ok (.enter f args) w') (hc : Calls P f args w' fun e w2 => e = .returned v ∧ R w2)
    (h : ∀ w2, R w2 → K (a.put o.dst v) w2) : if Region.wanted o (yielded ops a.tmps) = true then Oper.wpIn (Fence.wide.inRound l) n P o a w K Q else E := by
  rw [if_pos (by simp [Region.wanted, hg])]
  refine ⟨fun _ _ => trivial, ?_⟩
  rw [Oper.semAt_eq _ _ _ hd, hr]
  refine ⟨fun h => (by simp [Fence.wide] at h), ?_⟩
  refine (CallsIn.inRound l (callsIn_wide.2 hc)).mono ?_
  rintro e w2 ⟨rfl, h2⟩
  exact h w2 h2
theorem opIn_append {s x : Operand} {t t' : TypeId} {v1 v2 : Value} (hg : o.guard = none) (ho : o.op = .call { callee := .builtin .append, args := #[s, x], argTypes := #[t, t'] }) (h1 : a.eval s = v1) (h2 : a.eval x = v2) (hr : (Builtin.append_ #[t, t'] o.type #[v1, v2]).run P w = .ok v w')
    (h : K (a.put o.dst v) w') : if Region.wanted o (yielded ops a.tmps) = true then Oper.wpIn (Fence.wide.inRound l) n P o a w K Q else E := by
  refine opIn_value hg (fun c e => by rw [ho] at e; cases e) ?_ h
  simp [execOp, ho, resolve, invoke, builtin, h1, h2, hr, Result.andThen]
end
end Go.Proofs.YtghpohiinnallaaGreatDoor.Batch

/-
  Walk of the program's Texts: a range over the batch's iterator, each change written.
-/
namespace Go.Proofs.YtghpohiinnallaaGreatDoor.Batch
open Go Go.RowKit Go.Shelf
open Go.Proofs.YtghpohiinnallaaGreatDoor.Nets (Tab Reads str)

attribute [local go_sem] Oper.semAt_some

abbrev strT : TypeId := 9
abbrev strsT : TypeId := 28
theorem ownsRow_base_a {w : World} {base base' : Nat} {e : TypeId} {size : Nat} {v : Value} {n : Nat} {xs : List Value} (h : w.ownsRow base e size v n xs) (hb : base' ≤ base) : w.ownsRow base' e size v n xs := by
  refine ⟨h.1, ?_⟩
  rcases h.2 with h2 | ⟨g, cap, cur, a, b, c⟩
  · exact .inl h2
  · exact .inr ⟨g, cap, cur, a, by omega, c⟩
/-- The texts of changes, as values. -/
def textV (q : List Chg) : List Value := q.map fun c => str (writeS c)
/-- The closure's value. -/
abbrev itV (b : Nat) : Value := .func (.func 96) #[] #[.pointer (some ⟨b, 0, none⟩)]
theorem keeps_below {B : Nat} {W W' : World} (h : Below W.heap.size W W') : KeepsFrom B W W' := ⟨h.size, fun k _o _ hk _ => (h.block k (Array.getElem?_eq_some_iff.1 hk).1).trans hk⟩

/-- Between two rounds: the texts so far, in the variable's box. -/
def Got (w w1 : World) (pre : List Chg) (W : World) : Prop := ∃ u, Boxed W w.heap.size strsT u ∧ W.ownsRow w1.heap.size strT 1 u pre.length (textV pre) ∧ w1.heap.size ≤ W.heap.size ∧ Below w.heap.size w W
theorem got_own {w w1 : World} {α : Type} {cv : List α → List Chg} {B : Nat} (hB : w.heap.size ≤ B) : OwnFrom B (fun (pre : List α) W => Got w w1 (cv pre) W) := fun s X Y row hs hg hr => by
  obtain ⟨u, h1, h2, h3, h4⟩ := hs
  refine ⟨u, boxed_own w.heap.size strsT (fun (_ : Unit) => u) () X Y row h1 hg (fun r e => (hr r e).2), h2.kept hg ?_, Nat.le_trans h3 hg.size, h4.grown hg h4.size fun k e => by have := (hr k e).1; omega⟩
  rcases h2.2 with ⟨rfl, _⟩ | ⟨g, cap, cur, rfl, _, hgb, _⟩
  · exact .inl rfl
  · refine .inr fun e' => ?_
    obtain ⟨_, o, ho, hcl⟩ := hr g (by simpa [Value.ownBlock] using e'.symm)
    rw [hgb] at ho; cases ho; cases hcl
theorem got_step {w w1 W W' : World} {kb : Option Nat} {ua : Option Addr} {uc : Nat} {pre : List Chg} (hu : Boxed W w.heap.size strsT (.slice ua pre.length uc)) (ho : W.ownsRow w1.heap.size strT 1 (.slice ua pre.length uc) pre.length (textV pre)) (h1 : w1.heap.size ≤ W.heap.size) (hBW : Below w.heap.size w W)
    (hb : Below W.heap.size W W') (hl : pre.length ≤ 100000) (x : Chg) (hw : w.heap.size < w1.heap.size) (hk1 : ∀ k, kb = some k → k < w1.heap.size) (hk2 : ∀ k, kb = some k → k ≠ w.heap.size) :
    ∃ v' w3, (Builtin.append_ #[strsT, strsT] strsT #[.slice ua pre.length uc, .slice (some ⟨W'.heap.size, 0, none⟩) 1 1]).run Tryz.prog (W'.alloc (.cells #[str (writeS x)] strT)) = .ok v' w3 ∧ ∃ a n c, v' = .slice a n c ∧ w3.cell? ⟨w.heap.size, 0, none⟩ = some (.slice ua pre.length uc) ∧ w3.frozen? ⟨w.heap.size, 0, none⟩ = false ∧
      KeepsFrom w1.heap.size W (w3.setCell ⟨w.heap.size, 0, none⟩ v') ∧ Still kb W (w3.setCell ⟨w.heap.size, 0, none⟩ v') ∧ Got w w1 (pre ++ [x]) (w3.setCell ⟨w.heap.size, 0, none⟩ v') := by
  obtain ⟨i0, hi, hz0, hz1, hz2⟩ := info_parts Nets.infoString
  have hu' : Boxed W' w.heap.size strsT (.slice ua pre.length uc) := (hb.block _ hu.lt).trans hu
  have ho' := Nets.owns_below ho hb
  have h1' : w1.heap.size ≤ W'.heap.size := Nat.le_trans h1 hb.size
  obtain ⟨v', w3, hr, h2, h3, _⟩ := run_append_own (P := Tryz.prog) (W'.alloc (.cells #[str (writeS x)] strT)) w1.heap.size strsT strsT strT i0 _ 1 16 Tryz.underlying28 hi hz0 hz1 hz2 rfl (by decide) _ pre.length _ (ho'.alloc _) ⟨W'.heap.size, 0, none⟩ 1 1 [str (writeS x)] rfl
    (Nets.new_cell W' _) (by intro u hu; simp at hu; subst hu; rfl) (by unfold maxLen; omega) (by omega) (by simp; omega)
  have hlt := (ho'.alloc (.cells #[str (writeS x)] strT)).lt
  have hu3 : Boxed w3 w.heap.size strsT (.slice ua pre.length uc) := (hu'.alloc _).kept h3 fun e => by have := (hlt _ e.symm).1; omega
  have hB4 : Below w.heap.size W' (w3.setCell ⟨w.heap.size, 0, none⟩ v') := (((Below.refl w.heap.size W').alloc (by omega) _).grown h3 (by simp; omega) (fun k hk => by have := (hlt k hk).1; omega)).setCell (p := ⟨w.heap.size, 0, none⟩) (Nat.le_refl _) v'
  obtain ⟨a3, c3, e3⟩ := owns_slice h2
  refine ⟨v', w3, hr, a3, _, c3, e3, hu3.cell, hu3.frozen, ?_, ?_, v', hu3.set v', ?_, ?_, hBW.trans ((hb.mono hBW.size).trans hB4)⟩
  · refine (keeps_below hb).trans (((KeepsOthers.alloc _ _).from _).trans (((KeepsOthers.of_grownBy h3 fun j o ej hj => ?_).from _).trans ((KeepsOthers.setCell _ _ _).from _)))
    rcases (ho'.alloc (.cells #[str (writeS x)] strT)).2 with ⟨e, _⟩ | ⟨g, cap, cur, e, _, hgb, _⟩
    · rw [e] at ej; cases ej
    · rw [e] at ej
      obtain rfl : g = j := by simpa [Value.ownBlock] using ej
      rw [hgb] at hj; cases hj; rfl
  · refine (Still.below hb).trans ((Still.alloc (Still.refl _ W') (.cells #[str (writeS x)] strT)).trans ⟨?_, fun k hk hkl => ?_⟩)
    · exact Nat.le_trans h3.size (by simp [World.setCell])
    · have h5 := hk1 k hk
      refine (Below.heap_setCell _ _ _ _ (fun e => hk2 k hk e)).trans (h3.block k hkl fun e => ?_)
      have := (hlt _ e.symm).1
      omega
  · have h5 : (w3.setCell ⟨w.heap.size, 0, none⟩ v').ownsRow w1.heap.size strT 1 v' (pre.length + 1) (textV pre ++ [str (writeS x)]) := h2.kept (grownBy_setCell' w3 w.heap.size v') (.inr fun e => by have := (h2.lt _ e).1; omega)
    have e5 : textV (pre ++ [x]) = textV pre ++ [str (writeS x)] := by simp [textV]
    rw [e5, List.length_append]
    exact h5
  · exact Nat.le_trans (Nat.le_trans h1' (by simp)) (Nat.le_trans h3.size (by simp [World.setCell]))

set_option maxRecDepth 100000 in
set_option maxHeartbeats 4000000 in
theorem texts_walk {w : World} {d : Bt} {q : List Chg} (h : Mem w d q) (hl : q.length ≤ 100000) (hf : ∀ x ∈ q, Fine x) (ht : Tab w) :
    Calls Tryz.prog 63 #[ptr d.pb] w fun e w' => ∃ v, e = .returned v ∧ w'.ownsRow w.heap.size strT 1 v q.length (textV q) ∧ Below w.heap.size w w' := by
  have hA : Below w.heap.size w (w.alloc (.cells #[.slice none 0 0] strsT)) := (Below.refl _ _).alloc (Nat.le_refl _) _
  have hAll := all_any (h.alloc (.cells #[.slice none 0 0] strsT)) hl
  clear h
  have hfA : Fence.wide.fn 61 := trivial
  have hfW : Fence.wide.fn 99 := trivial
  refine (callsIn_wide (n := 8)).1 ?_
  refine callsIn_of_wp_marks Tryz.func63 rfl trivial ?_ rfl
  simp only [Tryz.ntmps63, List.size_toArray, List.length_cons, List.length_nil, Nat.reduceAdd, Nat.reduceSub, Array.replicate_succ, Array.replicate_zero, List.push_toArray, List.append_toArray, List.nil_append, List.cons_append]
  gi_wp2_with (gi_at_call 61; refine (callsIn_wide.2 hAll).mono ?_; rintro e w1 ⟨v, b, rfl, hc, hb, ho, hB1⟩)
  have hsz : w.heap.size + 1 ≤ w1.heap.size := by have := hB1.size; simpa using this
  have hbox : Boxed w1 w.heap.size strsT (.slice none 0 0) := (hB1.block _ (by simp)).trans (heap_alloc_new w _)
  have hB : Below w.heap.size w w1 := hA.trans (hB1.mono hA.size)
  have hkv : ∀ k, v.ownBlock = some k → w.heap.size + 1 ≤ k ∧ k < w1.heap.size := fun k hk => by have := ho.lt k hk; simpa using this
  have hst := all_stops (Subtype.val : {x // x ∈ q} → Chg) Fence.wide (8 - 1) trivial rfl (by omega) b v q.attach (by simpa using hl) w1 hb hc (by rw [List.attach_map_subtype_val]; exact owns_reads ho)
  clear hB1 hAll hA hc hb ho
  refine wpIn_rangeFunc_ownH rfl (by omega) (gf := 96) (lb := #[.pointer (some ⟨b, 0, none⟩)]) rfl trivial (enters_of Tryz.func96 (by kernel_rfl) rfl)
    hst Still.trans (still_b (fun k hk => (hkv k hk).2)) (Below.refl _ _) (fun _ => rfl)
    (fun pre W => Got w w1 (pre.map (·.1)) W) (fun _ _ _ => False) (got_own (by omega)) (fun _ _ _ _ _ hs _ _ => hs)
    ⟨_, hbox, World.ownsRow_nil _ _ _ _, Nat.le_refl _, hB⟩
    (fun x a' W => ∃ bx, w1.heap.size ≤ bx ∧ Lies W bx #[.string x.1.key, .string x.1.val, .bool x.1.gone] chgT ∧ a' = { tmps := #[ptr d.pb, undef, .slice none 0 0, ptr w.heap.size, ptr bx, ptr d.pb, itV b, chV x.1, undef, undef, undef, undef, undef, undef], defers := [] })
    (fun x a' _ X Y row hs hg hr => by
      obtain ⟨bx, h1, h2, h3⟩ := hs
      refine ⟨bx, h1, (hg.block bx h2.lt fun e => ?_).trans h2, h3⟩
      obtain ⟨_, o, ho, hcl⟩ := hr bx e.symm
      rw [show X.heap[bx]? = _ from h2] at ho; cases ho; cases hcl)
    ?assign ?body ?done ?stop
  case assign =>
    rintro l pre x W K ⟨u, hu, ho, h1, hBW⟩ hK
    gi_wp2
    exact hK _ _ ((KeepsOthers.alloc _ _).from _) ((Still.refl _ W).alloc _) ⟨u, hu.alloc _, ho.alloc _, by simp; omega, hBW.alloc hBW.size _⟩ ⟨W.heap.size, h1, Lies.new W _ _, rfl⟩
  case body =>
    rintro l pre x a' W hlW hrl ⟨u, hu, ho, h1, hBW⟩ ⟨bx, hbx, hLx, rfl⟩ hlt
    obtain ⟨ua, uc, rfl⟩ := owns_slice ho
    have hW := write_any x.1
    have HF := hf x.1 x.2
    have hql : q.attach.length = q.length := List.length_attach
    have hpl : (pre.map (·.1)).length ≤ 100000 := by rw [List.length_map]; omega
    have HC : Hid (∀ W', Below W.heap.size W W' → (Boxed W' w.heap.size strsT (.slice ua (pre.map (·.1)).length uc) ∧ Lies W' bx #[.string x.1.key, .string x.1.val, .bool x.1.gone] chgT) ∧ Calls Tryz.prog 99 #[chV x.1] W' fun e w2 => e = .returned (str (writeS x.1)) ∧ Below W'.heap.size W' w2) := fun W' hb =>
      ⟨⟨(hb.block _ hu.lt).trans hu, hLx.same (hb.block _ hLx.lt)⟩, write_any x.1 W' HF (ht.below (hBW.trans (hb.mono hBW.size)))⟩
    have HN : Hid (∀ W', Below W.heap.size W W' → ∃ v' w3, (Builtin.append_ #[strsT, strsT] strsT #[.slice ua (pre.map (·.1)).length uc, .slice (some ⟨W'.heap.size, 0, none⟩) 1 1]).run Tryz.prog (W'.alloc (.cells #[str (writeS x.1)] strT)) = .ok v' w3 ∧ ∃ a n c, v' = .slice a n c ∧ w3.cell? ⟨w.heap.size, 0, none⟩ = some (.slice ua (pre.map (·.1)).length uc) ∧ w3.frozen? ⟨w.heap.size, 0, none⟩ = false ∧
      KeepsFrom w1.heap.size W (w3.setCell ⟨w.heap.size, 0, none⟩ v') ∧ Still v.ownBlock W (w3.setCell ⟨w.heap.size, 0, none⟩ v') ∧ Got w w1 ((pre ++ [x]).map (·.1)) (w3.setCell ⟨w.heap.size, 0, none⟩ v')) := fun W' hb => by
      have hg := got_step hu ho h1 hBW hb hpl x.1 (by omega) (fun k hk => (hkv k hk).2) (fun k hk => by have := (hkv k hk).1; omega)
      rw [List.map_append, List.map_cons, List.map_nil]
      exact hg
    clear hql hu ho hLx ht hf hst hkv hbox hB HF hpl hW
    gi_wp2
    refine wpIn_region_any (by kernel_rfl) ?_
    have hb : Below W.heap.size W W.drew := (Below.refl _ _).drew
    change wpAnyIn _ _ _ _ _ _ _ _ _ W.drew
    refine wpAnyIn_ready (rs := [0, 1]) (by kernel_rfl) (by simp) (AllReadyIn.cons rfl (fun K hK => ?_) (AllReadyIn.cons rfl (fun K hK => ?_) AllReadyIn.nil))
    · obtain ⟨⟨hbx0, hlx0⟩, _⟩ := HC.out W.drew hb
      have hc0 := hbx0.cell
      refine opIn_value rfl (fun c h => by cases h) (w' := W.drew) (v := .slice ua (pre.map (·.1)).length uc) (by simp [go_sem, hc0]) (hK _ _ ?_)
      clear hK K hbx0 hlx0 hc0
      refine wpAnyIn_ready (rs := [1]) (by kernel_rfl) (by simp) (AllReadyIn.cons rfl (fun K hK => ?_) AllReadyIn.nil)
      obtain ⟨⟨hbx0, hlx0⟩, _⟩ := HC.out W.drew hb
      obtain ⟨y0, y1, y2, _, _, _⟩ := lies3 hlx0
      refine opIn_value rfl (fun c h => by cases h) (w' := W.drew) (v := chV x.1) (by simp [go_sem, y0, y1, y2]) (hK _ _ ?_)
      clear hK K hbx0 hlx0 y0 y1 y2
      refine wpAnyIn_ready (rs := [2]) (by kernel_rfl) (by simp) (AllReadyIn.cons rfl (fun K hK => ?_) AllReadyIn.nil)
      refine opIn_call (f := 99) (args := #[chV x.1]) (w' := W.drew) rfl (fun c h => by cases h) (by simp [go_sem, execOp, resolve, invoke]) ((HC.out W.drew hb).2) (fun W2 hb2 => hK _ _ ?_)
      clear hK K
      replace hb := hb.trans (hb2.mono hb.size)
      clear hb2
      refine wpAnyIn_ready (rs := [3]) (by kernel_rfl) (by simp) (AllReadyIn.cons rfl (fun K hK => ?_) AllReadyIn.nil)
      refine opIn_value rfl (fun c h => by cases h) (w' := W2.alloc (.cells #[str (writeS x.1)] strT)) (v := .slice (some ⟨W2.heap.size, 0, none⟩) 1 1) (by simp [go_sem]) (hK _ _ ?_)
      clear hK K
      obtain ⟨v', w3, hr, a3, n3, c3, rfl, hc3, hf3, hk, hs, hgo⟩ := HN.out W2 hb
      refine wpAnyIn_ready (rs := [4]) (by kernel_rfl) (by simp) (AllReadyIn.cons rfl (fun K hK => ?_) AllReadyIn.nil)
      refine opIn_append rfl rfl rfl rfl hr (hK _ _ ?_)
      clear hK K
      refine wpAnyIn_ready (rs := [5]) (by kernel_rfl) (by simp) (AllReadyIn.cons rfl (fun K hK => ?_) AllReadyIn.nil)
      refine opIn_skip rfl (fun c h => by cases h) (w' := w3.setCell ⟨w.heap.size, 0, none⟩ (.slice a3 n3 c3)) (by simp [go_sem, hc3, hf3]) (hK _ _ ?_)
      clear hK K
      refine wpAnyIn_done (by kernel_rfl) ?_ _
      exact ⟨hk, hs, hgo⟩
    · obtain ⟨⟨hbx0, hlx0⟩, _⟩ := HC.out W.drew hb
      obtain ⟨y0, y1, y2, _, _, _⟩ := lies3 hlx0
      refine opIn_value rfl (fun c h => by cases h) (w' := W.drew) (v := chV x.1) (by simp [go_sem, y0, y1, y2]) (hK _ _ ?_)
      clear hK K hbx0 hlx0 y0 y1 y2
      refine wpAnyIn_ready (rs := [0, 2]) (by kernel_rfl) (by simp) (AllReadyIn.cons rfl (fun K hK => ?_) (AllReadyIn.cons rfl (fun K hK => ?_) AllReadyIn.nil))
      · obtain ⟨⟨hbx0, hlx0⟩, _⟩ := HC.out W.drew hb
        have hc0 := hbx0.cell
        refine opIn_value rfl (fun c h => by cases h) (w' := W.drew) (v := .slice ua (pre.map (·.1)).length uc) (by simp [go_sem, hc0]) (hK _ _ ?_)
        clear hK K hbx0 hlx0 hc0
        refine wpAnyIn_ready (rs := [2]) (by kernel_rfl) (by simp) (AllReadyIn.cons rfl (fun K hK => ?_) AllReadyIn.nil)
        refine opIn_call (f := 99) (args := #[chV x.1]) (w' := W.drew) rfl (fun c h => by cases h) (by simp [go_sem, execOp, resolve, invoke]) ((HC.out W.drew hb).2) (fun W2 hb2 => hK _ _ ?_)
        clear hK K
        replace hb := hb.trans (hb2.mono hb.size)
        clear hb2
        refine wpAnyIn_ready (rs := [3]) (by kernel_rfl) (by simp) (AllReadyIn.cons rfl (fun K hK => ?_) AllReadyIn.nil)
        refine opIn_value rfl (fun c h => by cases h) (w' := W2.alloc (.cells #[str (writeS x.1)] strT)) (v := .slice (some ⟨W2.heap.size, 0, none⟩) 1 1) (by simp [go_sem]) (hK _ _ ?_)
        clear hK K
        obtain ⟨v', w3, hr, a3, n3, c3, rfl, hc3, hf3, hk, hs, hgo⟩ := HN.out W2 hb
        refine wpAnyIn_ready (rs := [4]) (by kernel_rfl) (by simp) (AllReadyIn.cons rfl (fun K hK => ?_) AllReadyIn.nil)
        refine opIn_append rfl rfl rfl rfl hr (hK _ _ ?_)
        clear hK K
        refine wpAnyIn_ready (rs := [5]) (by kernel_rfl) (by simp) (AllReadyIn.cons rfl (fun K hK => ?_) AllReadyIn.nil)
        refine opIn_skip rfl (fun c h => by cases h) (w' := w3.setCell ⟨w.heap.size, 0, none⟩ (.slice a3 n3 c3)) (by simp [go_sem, hc3, hf3]) (hK _ _ ?_)
        clear hK K
        refine wpAnyIn_done (by kernel_rfl) ?_ _
        exact ⟨hk, hs, hgo⟩
      · refine opIn_call (f := 99) (args := #[chV x.1]) (w' := W.drew) rfl (fun c h => by cases h) (by simp [go_sem, execOp, resolve, invoke]) ((HC.out W.drew hb).2) (fun W2 hb2 => hK _ _ ?_)
        clear hK K
        replace hb := hb.trans (hb2.mono hb.size)
        clear hb2
        refine wpAnyIn_ready (rs := [0, 3]) (by kernel_rfl) (by simp) (AllReadyIn.cons rfl (fun K hK => ?_) (AllReadyIn.cons rfl (fun K hK => ?_) AllReadyIn.nil))
        · obtain ⟨⟨hbx0, hlx0⟩, _⟩ := HC.out W2 hb
          have hc0 := hbx0.cell
          refine opIn_value rfl (fun c h => by cases h) (w' := W2) (v := .slice ua (pre.map (·.1)).length uc) (by simp [go_sem, hc0]) (hK _ _ ?_)
          clear hK K hbx0 hlx0 hc0
          refine wpAnyIn_ready (rs := [3]) (by kernel_rfl) (by simp) (AllReadyIn.cons rfl (fun K hK => ?_) AllReadyIn.nil)
          refine opIn_value rfl (fun c h => by cases h) (w' := W2.alloc (.cells #[str (writeS x.1)] strT)) (v := .slice (some ⟨W2.heap.size, 0, none⟩) 1 1) (by simp [go_sem]) (hK _ _ ?_)
          clear hK K
          obtain ⟨v', w3, hr, a3, n3, c3, rfl, hc3, hf3, hk, hs, hgo⟩ := HN.out W2 hb
          refine wpAnyIn_ready (rs := [4]) (by kernel_rfl) (by simp) (AllReadyIn.cons rfl (fun K hK => ?_) AllReadyIn.nil)
          refine opIn_append rfl rfl rfl rfl hr (hK _ _ ?_)
          clear hK K
          refine wpAnyIn_ready (rs := [5]) (by kernel_rfl) (by simp) (AllReadyIn.cons rfl (fun K hK => ?_) AllReadyIn.nil)
          refine opIn_skip rfl (fun c h => by cases h) (w' := w3.setCell ⟨w.heap.size, 0, none⟩ (.slice a3 n3 c3)) (by simp [go_sem, hc3, hf3]) (hK _ _ ?_)
          clear hK K
          refine wpAnyIn_done (by kernel_rfl) ?_ _
          exact ⟨hk, hs, hgo⟩
        · refine opIn_value rfl (fun c h => by cases h) (w' := W2.alloc (.cells #[str (writeS x.1)] strT)) (v := .slice (some ⟨W2.heap.size, 0, none⟩) 1 1) (by simp [go_sem]) (hK _ _ ?_)
          clear hK K
          refine wpAnyIn_ready (rs := [0]) (by kernel_rfl) (by simp) (AllReadyIn.cons rfl (fun K hK => ?_) AllReadyIn.nil)
          obtain ⟨⟨hbx0, hlx0⟩, _⟩ := HC.out W2 hb
          have hc0 := hbx0.cell
          have hc00 := (hbx0.alloc (.cells #[str (writeS x.1)] strT)).cell
          refine opIn_value rfl (fun c h => by cases h) (w' := (W2.alloc (.cells #[str (writeS x.1)] strT))) (v := .slice ua (pre.map (·.1)).length uc) (by simp [go_sem, hc00]) (hK _ _ ?_)
          clear hK K hbx0 hlx0 hc0 hc00
          obtain ⟨v', w3, hr, a3, n3, c3, rfl, hc3, hf3, hk, hs, hgo⟩ := HN.out W2 hb
          refine wpAnyIn_ready (rs := [4]) (by kernel_rfl) (by simp) (AllReadyIn.cons rfl (fun K hK => ?_) AllReadyIn.nil)
          refine opIn_append rfl rfl rfl rfl hr (hK _ _ ?_)
          clear hK K
          refine wpAnyIn_ready (rs := [5]) (by kernel_rfl) (by simp) (AllReadyIn.cons rfl (fun K hK => ?_) AllReadyIn.nil)
          refine opIn_skip rfl (fun c h => by cases h) (w' := w3.setCell ⟨w.heap.size, 0, none⟩ (.slice a3 n3 c3)) (by simp [go_sem, hc3, hf3]) (hK _ _ ?_)
          clear hK K
          refine wpAnyIn_done (by kernel_rfl) ?_ _
          exact ⟨hk, hs, hgo⟩
  case done =>
    rintro D ys W hD hys ⟨u, hu, ho, h1, hBW⟩ hK
    have hcu := hu.cell
    rw [hys, List.attach_map_subtype_val] at ho
    obtain ⟨ua, uc, rfl⟩ := owns_slice ho
    gi_wp2
    refine ⟨by simp, .inl ⟨_, _, rfl, run_takeDeferred hK, ?_⟩⟩
    exact ⟨_, results_tmp rfl _ _ _, _, rfl, ownsRow_putObj (ownsRow_base_a ho (base' := w.heap.size) (by omega)) _ hK rfl, hBW.trans (belowK_b (w := w) (Nat.le_refl _) W D _ _ (by omega) hK rfl rfl)⟩
  case stop =>
    rintro D c pre W _ _ h _
    exact h.elim
end Go.Proofs.YtghpohiinnallaaGreatDoor.Batch

/-
  Walks of what reads a change: the program's changeOf and Read.
-/
namespace Go.Proofs.YtghpohiinnallaaGreatDoor.Batch
open Go Go.RowKit
open Go.Proofs.YtghpohiinnallaaGreatDoor.Nets (Tab Reads Small rowS textsS str)
open Go.Proofs.YtghpohiinnallaaGreatDoor.Sha (wp_region_drawn_tail)

def toldC (o : Option Chg) : Chg := match o with | some c => c | none => Chg.none
theorem change_far {ss : List ByteArray} (h2 : ss.length ≠ 2) (h3 : ss.length ≠ 3) : changeS ss = none := by
  match ss with
  | [] => rfl
  | [_] => rfl
  | [_, _] => simp at h2
  | [_, _, _] => simp at h3
  | _ :: _ :: _ :: _ :: _ => rfl
theorem eq_minus (t : ByteArray) : (t.toList == [45]) = decide (t = ⟨#[45]⟩) := by
  have e : (⟨#[45]⟩ : ByteArray).toList = [45] := by rw [Lib.toList_data]
  have h := bytes_eq t ⟨#[45]⟩
  rw [e] at h
  exact h
theorem eq_plus (t : ByteArray) : (t.toList == [43]) = decide (t = ⟨#[43]⟩) := by
  have e : (⟨#[43]⟩ : ByteArray).toList = [43] := by rw [Lib.toList_data]
  have h := bytes_eq t ⟨#[43]⟩
  rw [e] at h
  exact h
theorem last_box (t : TypeId) (w : World) (c : Chg) : Below w.heap.size w (w.alloc (boxC t c)) := (Below.refl _ _).alloc (Nat.le_refl _) _
theorem Lies.drewN {w : World} {b : Nat} {cs : Array Value} {t : TypeId} (h : Lies w b cs t) (n : Nat) : Lies (w.drewN n) b cs t := h.same ((below_drewN (Below.refl _ w) n).block _ h.lt)
set_option maxHeartbeats 1000000 in
theorem changeOf_far (a : Option Addr) (n cap : Nat) (w : World) (h2 : n ≠ 2) (h3 : n ≠ 3) :
    Calls Tryz.prog 125 #[.slice a n cap] w fun e w' => e = .returned (.tuple #[chV Chg.none, .bool false]) ∧ Below w.heap.size w w' := by
  have d2 : ((n : Int) == 2) = false := by simp; omega
  have d3 : ((n : Int) == 3) = false := by simp; omega
  clear h2 h3
  go_enter Tryz.func125, Tryz.ntmps125
  go_wp2_with fail
  refine bodyPost_ret (results_two Tryz.results125 _ _ w.heap.size _ rfl (load_chg _ _ chgT _ rfl (heap_alloc_new _ _))) rfl ?_
  exact ⟨rfl, last_box chgT w Chg.none⟩
set_option maxHeartbeats 2000000 in
theorem changeOf_two (b off cap : Nat) (t k : ByteArray) (w : World) (c0 : w.cell? ⟨b, off, none⟩ = some (.string t)) (c1 : w.cell? ⟨b, off + 1, none⟩ = some (.string k)) (hb : b < w.heap.size) :
    Calls Tryz.prog 125 #[.slice (some ⟨b, off, none⟩) 2 cap] w fun e w' => e = .returned (.tuple #[chV (toldC (changeS [t, k])), .bool (changeS [t, k]).isSome]) ∧ Below w.heap.size w w' := by
  have hd := eq_minus t
  have hlt : b ≠ w.heap.size := by omega
  by_cases ht : t = ⟨#[45]⟩
  · have e1 : changeS [t, k] = some ⟨k, ⟨#[]⟩, true⟩ := by simp [changeS, ht]
    rw [e1]
    rw [decide_eq_true ht] at hd
    clear e1 ht
    go_enter Tryz.func125, Tryz.ntmps125
    go_wp2_with fail
    refine bodyPost_ret (results_two Tryz.results125 _ _ w.heap.size _ rfl (load_chg _ _ chgT _ rfl (heap_alloc_new _ _))) rfl ?_
    exact ⟨rfl, last_box chgT w ⟨k, ⟨#[]⟩, true⟩⟩
  · have e1 : changeS [t, k] = none := by simp [changeS, ht]
    rw [e1]
    rw [decide_eq_false ht] at hd
    clear e1 ht
    go_enter Tryz.func125, Tryz.ntmps125
    go_wp2_with fail
    refine bodyPost_ret (results_two Tryz.results125 _ _ w.heap.size _ rfl (load_chg _ _ chgT _ rfl (heap_alloc_new _ _))) rfl ?_
    exact ⟨rfl, last_box chgT w Chg.none⟩
set_option maxHeartbeats 2000000 in
theorem changeOf_three (b off cap : Nat) (t k v : ByteArray) (w : World) (c0 : w.cell? ⟨b, off, none⟩ = some (.string t)) (c1 : w.cell? ⟨b, off + 1, none⟩ = some (.string k)) (c2 : w.cell? ⟨b, off + 2, none⟩ = some (.string v)) (hb : b < w.heap.size) :
    Calls Tryz.prog 125 #[.slice (some ⟨b, off, none⟩) 3 cap] w fun e w' => e = .returned (.tuple #[chV (toldC (changeS [t, k, v])), .bool (changeS [t, k, v]).isSome]) ∧ Below w.heap.size w w' := by
  have hd := eq_plus t
  have hlt : b ≠ w.heap.size := by omega
  by_cases ht : t = ⟨#[43]⟩
  · have e1 : changeS [t, k, v] = some ⟨k, v, false⟩ := by simp [changeS, ht]
    rw [e1]
    rw [decide_eq_true ht] at hd
    clear e1 ht
    go_enter Tryz.func125, Tryz.ntmps125
    go_wp2_with fail
    refine wp_region_drawn_tail 7 (by kernel_rfl) (by kernel_rfl) ?_
    simp only [List.take_succ_cons, List.take_zero, List.drop_succ_cons, List.drop_zero]
    repeat (go_big_quiet_step (fail))
    refine wpQuiet_nil ?_
    rintro _ ⟨nq, rfl⟩
    go_wp2_with fail
    have hL : Lies ((w.alloc (boxC chgT Chg.none)).drewN nq) w.heap.size #[.string ⟨#[]⟩, .string ⟨#[]⟩, .bool false] chgT := (Lies.new w #[.string ⟨#[]⟩, .string ⟨#[]⟩, .bool false] chgT).drewN nq
    refine bodyPost_ret (results_two Tryz.results125 _ _ w.heap.size _ rfl (load_chg _ _ chgT _ rfl (((hL.set 0 (.string k)).set 1 (.string v)).set 2 (.bool false)))) rfl ?_
    exact ⟨rfl, set3 (below_drewN (last_box chgT w Chg.none) nq)⟩
  · have e1 : changeS [t, k, v] = none := by simp [changeS, ht]
    rw [e1]
    rw [decide_eq_false ht] at hd
    clear e1 ht
    go_enter Tryz.func125, Tryz.ntmps125
    go_wp2_with fail
    refine bodyPost_ret (results_two Tryz.results125 _ _ w.heap.size _ rfl (load_chg _ _ chgT _ rfl (heap_alloc_new _ _))) rfl ?_
    exact ⟨rfl, last_box chgT w Chg.none⟩
theorem changeOf_any (v : Value) (ss : List ByteArray) (w : World) (hr : Reads w v ss) :
    Calls Tryz.prog 125 #[v] w fun e w' => e = .returned (.tuple #[chV (toldC (changeS ss)), .bool (changeS ss).isSome]) ∧ Below w.heap.size w w' := by
  by_cases h2 : ss.length = 2
  · obtain ⟨b, off, cap, rfl, hb, hc⟩ := reads_at hr (by omega)
    match ss, h2 with
    | [t, k], _ => exact changeOf_two b off cap t k w (hc 0 (by simp)) (hc 1 (by simp)) hb
  · by_cases h3 : ss.length = 3
    · obtain ⟨b, off, cap, rfl, hb, hc⟩ := reads_at hr (by omega)
      match ss, h3 with
      | [t, k, v], _ => exact changeOf_three b off cap t k v w (hc 0 (by simp)) (hc 1 (by simp)) (hc 2 (by simp)) hb
    · rw [change_far h2 h3]
      obtain ⟨a, cap, rfl⟩ := Nets.Reads.form hr
      exact changeOf_far a ss.length cap w h2 h3

theorem put_part (l : List UInt8) : l.length ≤ (Nets.putS l).length := by unfold Nets.putS; simp; omega
theorem row_part : ∀ (ls : List (List UInt8)) (t : List UInt8), t ∈ ls → t.length ≤ (rowS ls).length
  | [], _, h => by cases h
  | x :: ls, t, h => by
    have e : rowS (x :: ls) = Nets.putS x ++ rowS ls := by simp [rowS]
    rw [e, List.length_append]
    rcases List.mem_cons.1 h with rfl | h
    · have := put_part t; omega
    · have := row_part ls t h; omega
theorem texts_part {l : List UInt8} (h : (textsS l).2 = 0) {s : ByteArray} (hs : s ∈ (textsS l).1.map ba) : s.size ≤ l.length := by
  obtain ⟨t, ht, rfl⟩ := List.mem_map.1 hs
  have h1 := row_part _ t ht
  rw [Nets.row_texts _ l (Nat.le_refl _) h] at h1
  simpa [ByteArray.size] using h1
theorem change_parts {ss : List ByteArray} {c : Chg} (h : changeS ss = some c) : (c.key ∈ ss) ∧ (c.val ∈ ss ∨ c.val = ⟨#[]⟩) := by
  match ss, h with
  | [t, k], h =>
    by_cases ht : t = ⟨#[45]⟩
    · simp [changeS, ht] at h
      rw [← h]; simp
    · simp [changeS, ht] at h
  | [t, k, v], h =>
    by_cases ht : t = ⟨#[43]⟩
    · simp [changeS, ht] at h
      rw [← h]; simp
    · simp [changeS, ht] at h
theorem change_fine {l : List UInt8} (h : (textsS l).2 = 0) (hl : l.length ≤ 100000) {c : Chg} (hc : changeS ((textsS l).1.map ba) = some c) : Fine c := by
  obtain ⟨h1, h2⟩ := change_parts hc
  refine ⟨Nat.le_trans (texts_part h h1) hl, ?_⟩
  rcases h2 with h2 | h2
  · exact Nat.le_trans (texts_part h h2) hl
  · rw [h2]; exact Nat.zero_le _

theorem texts_err (s : ByteArray) (n : Nat) (w : World) (hs : s.size ≤ 100000) (hn : (textsS (bl s)).2 = n) (h0 : n ≠ 0) :
    Calls Tryz.prog 124 #[.string s] w fun e w' => ∃ a cap, e = .returned (.tuple #[.slice a 0 cap, .int .i64 n]) ∧ Below w.heap.size w w' := by
  have hb := Nets.texts_bad _ (bl s) (Nat.le_refl _) (by rw [hn]; exact h0)
  refine (Nets.texts_any s w hs).mono ?_
  rintro e w' ⟨v, rfl, hr, hbl⟩
  rw [hb] at hr
  obtain ⟨a, cap, rfl⟩ := Nets.Reads.form hr
  exact ⟨a, cap, by rw [hn]; rfl, hbl⟩
theorem texts_fine (s : ByteArray) (ss : List ByteArray) (w : World) (hs : s.size ≤ 100000) (hn : (textsS (bl s)).2 = 0) (hss : (textsS (bl s)).1.map ba = ss) :
    Calls Tryz.prog 124 #[.string s] w fun e w' => ∃ a cap, e = .returned (.tuple #[.slice a ss.length cap, .int .i64 0]) ∧ Reads w' (.slice a ss.length cap) ss ∧ Below w.heap.size w w' := by
  refine (Nets.texts_any s w hs).mono ?_
  rintro e w' ⟨v, rfl, hr, hbl⟩
  have hr' : Reads w' v ss := hss ▸ hr
  obtain ⟨a, cap, rfl⟩ := Nets.Reads.form hr'
  exact ⟨a, cap, by rw [hn]; rfl, hr', hbl⟩
/-- What is told of a text. -/
def ReadPost (r : Chg × Nat) (w : World) (e : Ending) (w' : World) : Prop := e = .returned (.tuple #[chV r.1, .int .i64 (r.2 : Nat)]) ∧ Below w.heap.size w w'
theorem readS_err {l : List UInt8} {n : Nat} (hn : (textsS l).2 = n) (h0 : n ≠ 0) : readS l = (Chg.none, n) := by unfold readS; rw [hn, if_pos h0]
theorem readS_none {l : List UInt8} (hn : (textsS l).2 = 0) (hc : changeS ((textsS l).1.map ba) = none) : readS l = (Chg.none, 3) := by unfold readS; rw [if_neg (by simpa using hn), hc]
theorem readS_bad {l : List UInt8} {c : Chg} {n : Nat} (hn : (textsS l).2 = 0) (hc : changeS ((textsS l).1.map ba) = some c) (hk : chk c = n) (h0 : n ≠ 0) : readS l = (Chg.none, n) := by
  unfold readS; rw [if_neg (by simpa using hn), hc]; simp only [hk]; rw [if_pos h0]
theorem readS_good {l : List UInt8} {c : Chg} (hn : (textsS l).2 = 0) (hc : changeS ((textsS l).1.map ba) = some c) (hk : chk c = 0) : readS l = (c, 0) := by
  unfold readS; rw [if_neg (by simpa using hn), hc]; simp only [hk]; rfl
set_option maxHeartbeats 2000000 in
theorem read_err (s : ByteArray) (n : Nat) (w : World) (hs : s.size ≤ 100000) (hn : (textsS (bl s)).2 = n) (h0 : n ≠ 0) : Calls Tryz.prog 86 #[.string s] w (ReadPost (Chg.none, n) w) := by
  have HA := Lib.hid (last_box chgT w Chg.none)
  have HT := Lib.hid (fun W => texts_err s n W hs hn h0)
  have hne : ((n : Int) != 0) = true := by simpa using h0
  clear hs hn h0
  go_enter Tryz.func86, Tryz.ntmps86
  go_wp2_with fail
  refine (HT.out _).mono ?_
  rintro e w1 ⟨a, cap, rfl, hb1⟩
  have hb : Below (w.alloc (boxC chgT Chg.none)).heap.size (w.alloc (boxC chgT Chg.none)) w1 := hb1
  have HX : Hid (Lies w1 w.heap.size #[.string ⟨#[]⟩, .string ⟨#[]⟩, .bool false] chgT) := (hb.block _ (by simp)).trans (heap_alloc_new w _)
  have HB := Lib.hid (HA.out.trans (hb.mono HA.out.size))
  clear hb1 hb
  obtain ⟨x0, x1, x2, g0, g1, g2⟩ := lies3 HX.out
  go_wp2_with fail
  refine bodyPost_ret (results_two Tryz.results86 _ _ w.heap.size _ rfl (load_chg _ _ chgT _ rfl (((HX.out.set 0 _).set 1 _).set 2 _))) rfl ?_
  exact ⟨rfl, set3 HB.out⟩
set_option maxHeartbeats 2000000 in
theorem read_none (s : ByteArray) (w : World) (hs : s.size ≤ 100000) (hn : (textsS (bl s)).2 = 0) (hc : changeS ((textsS (bl s)).1.map ba) = none) : Calls Tryz.prog 86 #[.string s] w (ReadPost (Chg.none, 3) w) := by
  have HA := Lib.hid (last_box chgT w Chg.none)
  have HT := Lib.hid (fun W => texts_fine s _ W hs hn rfl)
  have HC := Lib.hid (fun v W hr => changeOf_any v ((textsS (bl s)).1.map ba) W hr)
  rw [hc] at HC
  generalize (textsS (bl s)).1.map ba = ss at *
  clear hs hn hc
  go_enter Tryz.func86, Tryz.ntmps86
  go_wp2_with fail
  refine (HT.out _).mono ?_
  rintro e w1 ⟨a, cap, rfl, hr1, hb1⟩
  have hb : Below (w.alloc (boxC chgT Chg.none)).heap.size (w.alloc (boxC chgT Chg.none)) w1 := hb1
  have HX : Hid (Lies w1 w.heap.size #[.string ⟨#[]⟩, .string ⟨#[]⟩, .bool false] chgT) := (hb.block _ (by simp)).trans (heap_alloc_new w _)
  have HB := Lib.hid (HA.out.trans (hb.mono HA.out.size))
  have HR := Lib.hid hr1
  clear hb1 hb hr1
  go_wp2_with fail
  refine (HC.out _ _ HR.out).mono ?_
  rintro e w2 ⟨rfl, hb2⟩
  have HX2 : Hid (Lies w2 w.heap.size #[.string ⟨#[]⟩, .string ⟨#[]⟩, .bool false] chgT) := HX.out.same (hb2.block _ HX.out.lt)
  have HB2 := Lib.hid (HB.out.trans (hb2.mono HB.out.size))
  clear hb2
  have hlt := HX2.out.lt
  obtain ⟨x0, x1, x2, g0, g1, g2⟩ := lies3 HX2.out
  have HX3 := Lib.hid (((HX2.out.set 0 (.string ⟨#[]⟩)).set 1 (.string ⟨#[]⟩)).set 2 (.bool false))
  have HB3 := Lib.hid (set3 (x := .string ⟨#[]⟩) (y := .string ⟨#[]⟩) (z := .bool false) HB2.out)
  go_wp2_with fail
  refine bodyPost_ret (results_two Tryz.results86 _ _ w.heap.size _ rfl (load_chg _ _ chgT _ rfl (HX3.out.same (Below.heap_alloc _ _ _ HX3.out.lt)))) rfl ?_
  exact ⟨rfl, HB3.out.alloc HB3.out.size _⟩
set_option maxHeartbeats 2000000 in
theorem read_some (s : ByteArray) (w : World) (hs : s.size ≤ 100000) (hn : (textsS (bl s)).2 = 0) (c : Chg) (hc : changeS ((textsS (bl s)).1.map ba) = some c) (n : Nat) (hk : chk c = n) :
    Calls Tryz.prog 86 #[.string s] w (ReadPost (if n = 0 then (c, 0) else (Chg.none, n)) w) := by
  have HA := Lib.hid (last_box chgT w Chg.none)
  have HT := Lib.hid (fun W => texts_fine s _ W hs hn rfl)
  have HC := Lib.hid (fun v W hr => changeOf_any v ((textsS (bl s)).1.map ba) W hr)
  have hf := change_fine hn (by simpa using hs) hc
  have HK := Lib.hid (fun W => check_any c W (by have := hf.1; omega) (by have := hf.2; omega) n hk)
  rw [hc] at HC
  generalize (textsS (bl s)).1.map ba = ss at *
  clear hs hn hc hk hf
  by_cases h0 : n = 0
  · subst h0
    rw [if_pos rfl]
    go_enter Tryz.func86, Tryz.ntmps86
    go_wp2_with fail
    refine (HT.out _).mono ?_
    rintro e w1 ⟨a, cap, rfl, hr1, hb1⟩
    have hb : Below (w.alloc (boxC chgT Chg.none)).heap.size (w.alloc (boxC chgT Chg.none)) w1 := hb1
    have HX : Hid (Lies w1 w.heap.size #[.string ⟨#[]⟩, .string ⟨#[]⟩, .bool false] chgT) := (hb.block _ (by simp)).trans (heap_alloc_new w _)
    have HB := Lib.hid (HA.out.trans (hb.mono HA.out.size))
    have HR := Lib.hid hr1
    clear hb1 hb hr1
    go_wp2_with fail
    refine (HC.out _ _ HR.out).mono ?_
    rintro e w2 ⟨rfl, hb2⟩
    have HX2 : Hid (Lies w2 w.heap.size #[.string ⟨#[]⟩, .string ⟨#[]⟩, .bool false] chgT) := HX.out.same (hb2.block _ HX.out.lt)
    have HB2 := Lib.hid (HB.out.trans (hb2.mono HB.out.size))
    clear hb2
    have HX3 := Lib.hid (HX2.out.same (Below.heap_alloc w2 (boxC chgT c) _ HX2.out.lt))
    have HB3 := Lib.hid (HB2.out.alloc HB2.out.size (boxC chgT c))
    go_wp2_with fail
    refine (HK.out _).mono ?_
    rintro e w4 ⟨rfl, hb4⟩
    have hb : Below (w2.alloc (boxC chgT c)).heap.size (w2.alloc (boxC chgT c)) w4 := hb4
    have HX4 : Hid (Lies w4 w.heap.size #[.string ⟨#[]⟩, .string ⟨#[]⟩, .bool false] chgT) := HX3.out.same (hb.block _ HX3.out.lt)
    have HB4 := Lib.hid (HB3.out.trans (hb.mono HB3.out.size))
    have HY4 : Hid (Lies w4 w2.heap.size #[.string c.key, .string c.val, .bool c.gone] chgT) := (hb.block _ (by simp)).trans (heap_alloc_new w2 _)
    clear hb4 hb
    obtain ⟨x0, x1, x2, g0, g1, g2⟩ := lies3 HX4.out
    obtain ⟨y0, y1, y2, _, _, _⟩ := lies3 HY4.out
    go_wp2_with fail
    refine bodyPost_ret (results_two Tryz.results86 _ _ w.heap.size _ rfl (load_chg _ _ chgT _ rfl (((HX4.out.set 0 _).set 1 _).set 2 _))) rfl ?_
    exact ⟨rfl, set3 HB4.out⟩
  · rw [if_neg h0]
    have hne : ((n : Int) != 0) = true := by simpa using h0
    clear h0
    go_enter Tryz.func86, Tryz.ntmps86
    go_wp2_with fail
    refine (HT.out _).mono ?_
    rintro e w1 ⟨a, cap, rfl, hr1, hb1⟩
    have hb : Below (w.alloc (boxC chgT Chg.none)).heap.size (w.alloc (boxC chgT Chg.none)) w1 := hb1
    have HX : Hid (Lies w1 w.heap.size #[.string ⟨#[]⟩, .string ⟨#[]⟩, .bool false] chgT) := (hb.block _ (by simp)).trans (heap_alloc_new w _)
    have HB := Lib.hid (HA.out.trans (hb.mono HA.out.size))
    have HR := Lib.hid hr1
    clear hb1 hb hr1
    go_wp2_with fail
    refine (HC.out _ _ HR.out).mono ?_
    rintro e w2 ⟨rfl, hb2⟩
    have HX2 : Hid (Lies w2 w.heap.size #[.string ⟨#[]⟩, .string ⟨#[]⟩, .bool false] chgT) := HX.out.same (hb2.block _ HX.out.lt)
    have HB2 := Lib.hid (HB.out.trans (hb2.mono HB.out.size))
    clear hb2
    have HX3 := Lib.hid (HX2.out.same (Below.heap_alloc w2 (boxC chgT c) _ HX2.out.lt))
    have HB3 := Lib.hid (HB2.out.alloc HB2.out.size (boxC chgT c))
    go_wp2_with fail
    refine (HK.out _).mono ?_
    rintro e w4 ⟨rfl, hb4⟩
    have hb : Below (w2.alloc (boxC chgT c)).heap.size (w2.alloc (boxC chgT c)) w4 := hb4
    have HX4 : Hid (Lies w4 w.heap.size #[.string ⟨#[]⟩, .string ⟨#[]⟩, .bool false] chgT) := HX3.out.same (hb.block _ HX3.out.lt)
    have HB4 := Lib.hid (HB3.out.trans (hb.mono HB3.out.size))
    clear hb4 hb
    obtain ⟨x0, x1, x2, g0, g1, g2⟩ := lies3 HX4.out
    go_wp2_with fail
    refine bodyPost_ret (results_two Tryz.results86 _ _ w.heap.size _ rfl (load_chg _ _ chgT _ rfl (((HX4.out.set 0 _).set 1 _).set 2 _))) rfl ?_
    exact ⟨rfl, set3 HB4.out⟩
theorem read_any (s : ByteArray) (w : World) (hs : s.size ≤ 100000) : Calls Tryz.prog 86 #[.string s] w (ReadPost (readS (bl s)) w) := by
  by_cases h0 : (textsS (bl s)).2 = 0
  · cases hch : changeS ((textsS (bl s)).1.map ba) with
    | none => rw [readS_none h0 hch]; exact read_none s w hs h0 hch
    | some c =>
      have h := read_some s w hs h0 c hch (chk c) rfl
      by_cases hk : chk c = 0
      · rw [if_pos hk] at h
        rw [readS_good h0 hch hk]; exact h
      · rw [if_neg hk] at h
        rw [readS_bad h0 hch rfl hk]; exact h
  · rw [readS_err rfl h0]; exact read_err s _ w hs rfl h0
end Go.Proofs.YtghpohiinnallaaGreatDoor.Batch
