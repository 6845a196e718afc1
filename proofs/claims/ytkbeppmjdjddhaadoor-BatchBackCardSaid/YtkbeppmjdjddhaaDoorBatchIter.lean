/-
  The iterator of a batch: Clone, All, and the contract of what All hands back: each change of the list, in order; or the first ones, where a round has said that there are enough.
-/
import Derived.Test.YtkbeppmjdjddhaaDoorBatchWalkD
import Derived.RangeFuncNested
import Derived.RangeFuncBound
import Derived.RangeFuncCalls
import Derived.RangeFuncLeaves
import Derived.RangeFuncBox
import Derived.Shelf.Abstract
import Derived.Shelf.RegionOpen
import Derived.OwnWalkIn
import Derived.TacticsInMore
import Derived.LoopNIn
import Derived.LoopIn
namespace Go.Proofs.YtkbeppmjdjddhaaDoor.Batch
open Go Go.RowKit Go.Shelf

attribute [local go_sem] Oper.semAt_some

/-- A list of changes copied behind an empty one. -/
theorem append_made (w : World) (g cap : Nat) (q : List Chg) (hc : ∀ j v, (q.flatMap chC)[j]? = some v → w.cell? ⟨g, j, none⟩ = some v) (hg : g < w.heap.size) (hl : q.length ≤ 100000) :
    ∃ v' w', (Builtin.append_ #[chsT, chsT] chsT #[.slice (some ⟨w.heap.size, 0, none⟩) 0 0, .slice (some ⟨g, 0, none⟩) q.length cap]).run Tryd.prog (w.alloc (.cells #[] chgT)) = .ok v' w' ∧ Hid (w'.ownsRow w.heap.size chgT 3 v' q.length (q.flatMap chC) ∧ Below w.heap.size w w') := by
  have h0 : (w.alloc (.cells #[] chgT)).ownsRow w.heap.size chgT 3 (.slice (some ⟨w.heap.size, 0, none⟩) 0 0) 0 [] := by
    refine ⟨by simp, .inr ⟨w.heap.size, 0, #[], rfl, Nat.le_refl _, heap_alloc_new _ _, Nat.le_refl _, by decide, by simp, by simp⟩⟩
  have hb : Below w.heap.size w (w.alloc (.cells #[] chgT)) := (Below.refl _ _).alloc (Nat.le_refl _) _
  have hs : w.heap.size ≤ (w.alloc (.cells #[] chgT)).heap.size := by simp
  obtain ⟨i0, hi, hz0, hz1, hz2⟩ := info_parts infoC
  obtain ⟨v', w', hr, h2, h3, _⟩ := run_append_own (P := Tryd.prog) (w.alloc (.cells #[] chgT)) w.heap.size chsT chsT chgT i0 _ 3 40 Tryd.underlying59 hi hz0 hz1 hz2 rfl (by decide) _ 0 [] h0 ⟨g, 0, none⟩ q.length cap (q.flatMap chC) (flat_length q) (fun j x hx => by
      rw [addr_add, Nat.zero_add, hb.cell (p := ⟨g, j, none⟩) hg]
      exact hc j x hx) (flat_one q) (by unfold maxLen; omega) (by omega) hs
  exact ⟨v', w', hr, Lib.hid ⟨by simpa using h2, hb.grown h3 hs (fun k hk => (h0.lt k hk).1)⟩⟩
theorem eq_nil (w : World) (a : Option Addr) (n c : Nat) : (binOp .eql chsT (.slice a n c) (.slice none 0 0)).run Tryd.prog w = .ok (.bool a.isNone) w := by
  simp only [binOp]
  simp [Op.equal, Op.maxDepth, Lib.run_equalIn_slice_nil w 9999 chsT chgT a n c 0 0 Tryd.underlying59]
set_option maxRecDepth 100000 in
set_option maxHeartbeats 1000000 in
theorem clone_any (w : World) (B : Nat) (v : Value) (q : List Chg) (ho : w.ownsRow B chgT 3 v q.length (q.flatMap chC)) (hl : q.length ≤ 100000) :
    Calls Tryd.prog 41 #[v] w fun e w' => ∃ v', e = .returned v' ∧ w'.ownsRow w.heap.size chgT 3 v' q.length (q.flatMap chC) ∧ Below w.heap.size w w' := by
  have hcs := fun g hg => ho.cells (g := g) hg
  rcases ho.2 with ⟨rfl, h0⟩ | ⟨g, cap, cur, rfl, _, hg, _⟩
  · obtain rfl : q = [] := List.length_eq_zero_iff.1 h0
    clear ho hcs hl
    have hq := fun W => eq_nil W none 0 0
    go_enter Tryd.func41, Tryd.ntmps41
    go_wp2_with fail
    go_ret
    exact ⟨_, rfl, World.ownsRow_nil _ _ _ _, Below.refl _ _⟩
  · obtain ⟨v', w', hr, hh⟩ := append_made w g cap q (fun j x hx => by have := hcs g rfl j x hx; rwa [addr_add, Nat.zero_add] at this) (Array.getElem?_eq_some_iff.1 hg).1 hl
    have HR := Lib.hid hr
    clear hr ho hcs hg hl
    have hq := fun W => eq_nil W (some ⟨g, 0, none⟩) q.length cap
    go_enter Tryd.func41, Tryd.ntmps41
    go_wp2_with (at_builtin; refine Lib.wpList_append_run _ rfl _ _ _ _ rfl _ _ rfl rfl _ _ HR.out ?_)
    go_ret
    exact ⟨_, rfl, hh.out.1, hh.out.2⟩

/-- What All hands back: the closure over a box of a copy. -/
def AllPost (w : World) (q : List Chg) (e : Ending) (w' : World) : Prop :=
  ∃ v b, e = .returned (.func (.func 42) #[] #[.pointer (some ⟨b, 0, none⟩)]) ∧ w'.cell? ⟨b, 0, none⟩ = some v ∧ b < w'.heap.size ∧ w'.ownsRow w.heap.size chgT 3 v q.length (q.flatMap chC) ∧ Below w.heap.size w w'
theorem all_any {w : World} {d : Bt} {q : List Chg} (h : Mem w d q) (hl : q.length ≤ 100000) : Calls Tryd.prog 30 #[ptr d.pb] w (AllPost w q) := by
  have hc := h.cell
  have HC := Lib.hid (clone_any w d.B d.cv q h.owns hl)
  clear h hl
  go_enter Tryd.func30, Tryd.ntmps30
  go_wp2_with fail
  refine HC.out.mono ?_
  rintro e w1 ⟨v1, rfl, ho, hb⟩
  obtain ⟨a, c, rfl⟩ := owns_slice ho
  have HO := Lib.hid (And.intro ho hb)
  clear ho hb
  go_wp2_with fail
  go_ret
  refine ⟨_, w1.heap.size, rfl, (Lies.new w1 _ _).cell 0, by simp, HO.out.1.alloc _, HO.out.2.alloc HO.out.2.size _⟩

/-- What a round keeps: the row that is gone through. -/
def Still (kb : Option Nat) (W W' : World) : Prop := W.heap.size ≤ W'.heap.size ∧ ∀ k, kb = some k → k < W.heap.size → W'.heap[k]? = W.heap[k]?
theorem Still.refl (kb : Option Nat) (W : World) : Still kb W W := ⟨Nat.le_refl _, fun _ _ _ => rfl⟩
theorem Still.trans {kb : Option Nat} {A B C : World} (h : Still kb A B) (k : Still kb B C) : Still kb A C := ⟨Nat.le_trans h.1 k.1, fun j e hj => (k.2 j e (Nat.lt_of_lt_of_le hj h.1)).trans (h.2 j e hj)⟩
theorem Still.alloc {kb : Option Nat} {A B : World} (h : Still kb A B) (o : Obj) : Still kb A (B.alloc o) := ⟨by have := h.1; simp; omega, fun j e hj => (Below.heap_alloc _ _ _ (Nat.lt_of_lt_of_le hj h.1)).trans (h.2 j e hj)⟩
theorem Still.below {kb : Option Nat} {A B : World} (h : Below A.heap.size A B) : Still kb A B := ⟨h.size, fun j _ hj => h.block j hj⟩
theorem Still.frame {kb : Option Nat} {F : Nat → Prop} {A B : World} (h : Fr F A B) (hn : ∀ k, kb = some k → ¬ F k) : Still kb A B := ⟨h.size, fun j e hj => h.block j hj (hn j e)⟩
theorem still_b {kb : Option Nat} {w : World} (hk : ∀ k, kb = some k → k < w.heap.size) (W : World) (l : Nat) (o o' : Obj) (hl : w.heap.size ≤ l) (_h : W.heap[l]? = some o) (_ : o.isCells = false) (_ : o.isWalk = false) : Still kb W (W.putObj l o') :=
  ⟨by simp, fun k e _ => World.putObj_heap_other (by have := hk k e; omega)⟩
set_option maxRecDepth 100000 in
set_option maxHeartbeats 2000000 in
/-- The closure: for every loop body that keeps the row. -/
theorem all1_any {α : Type} (cv : α → Chg) (F : Fence) (n : Nat) (hF : F.fn 42) (hro : F.round = none) (hn : 1 ≤ n) (l bs : Nat) (v : Value) (q : List α) (hl : q.length ≤ 100000) (J Jx : List α → World → Prop) (W : World) (hJ : AbidesFrom W.heap.size J)
    (hY : ∀ pre x W1, J pre W1 → pre.length < q.length → YieldAt F (n - 1) Tryd.prog l #[chV (cv x)] W1 fun e W' =>
      (e = .returned (.bool true) ∧ J (pre ++ [x]) W' ∧ Still v.ownBlock W1 W') ∨ (e = .returned (.bool false) ∧ Jx (pre ++ [x]) W'))
    (hbs : W.cell? ⟨bs, 0, none⟩ = some v) (hr : ReadsC W v (q.map cv)) (h0 : J [] W) :
    CallsIn F n Tryd.prog 42 #[.func (.yield l) #[] #[], .pointer (some ⟨bs, 0, none⟩)] W fun e W' => (∃ v, e = .returned v) ∧
      ((∃ ys, ys = q ∧ J ys W') ∨ (∃ pre, pre <+: q ∧ Jx pre W')) := by
  rcases hr with ⟨a, cap, rfl, he⟩ | ⟨h1, b, off, cap, rfl, h3, h4⟩
  · obtain rfl : q = [] := List.map_eq_nil_iff.1 he
    refine callsIn_of_wp Tryd.func42 rfl hF ?_ hro
    simp only [Tryd.ntmps42, List.size_toArray, List.length_cons, List.length_nil, Nat.reduceAdd, Nat.reduceSub, Array.replicate_succ, Array.replicate_zero, List.push_toArray, List.append_toArray, List.nil_append, List.cons_append]
    gi_wp2
    gi_loopw [7] (fun i wr => i = .int .i64 0 ∧ J [] wr) (fun _ _ => 0)
    case atStart => exact ⟨rfl, h0⟩
    case round =>
      obtain ⟨rfl, hJs⟩ := hrel
      gi_wp2
      go_end0
      exact ⟨⟨_, rfl⟩, .inl ⟨_, rfl, hJs⟩⟩
  · have HC := Lib.hid (fun (wr : World) (hB : Still (some b) W wr) (k : Nat) (x : α) (hx : q[k]? = some x) => three (show wr.rangeAt b (off + k * 3) (chC (cv x)) from fun j u hu => (World.cell?_of_block (a := ⟨b, off + k * 3 + j, none⟩) (hB.2 b rfl h3)).trans (h4 k (cv x) (by rw [List.getElem?_map, hx]; rfl) j u hu)))
    rw [List.length_map] at h1 hbs
    clear h4
    refine callsIn_of_wp Tryd.func42 rfl hF ?_ hro
    simp only [Tryd.ntmps42, List.size_toArray, List.length_cons, List.length_nil, Nat.reduceAdd, Nat.reduceSub, Array.replicate_succ, Array.replicate_zero, List.push_toArray, List.append_toArray, List.nil_append, List.cons_append]
    gi_wp2
    gi_loopw [7] (fun i wr => ∃ k : Nat, k ≤ q.length ∧ i = .int .i64 k ∧ J (q.take k) wr ∧ Still (some b) W wr) (fun i _ => q.length - (intOf i).toNat)
    case atStart => exact ⟨0, Nat.zero_le _, rfl, h0, Still.refl _ _⟩
    case round =>
      obtain ⟨k, hk, rfl, hJs, hnx⟩ := hrel
      by_cases hlt : k < q.length
      · obtain ⟨x, hx⟩ : ∃ x, q[k]? = some x := ⟨q[k], List.getElem?_eq_getElem hlt⟩
        obtain ⟨c0, c1, c2⟩ := HC.out wr hnx k x hx
        have ht : q.take (k + 1) = q.take k ++ [x] := by rw [List.take_add_one, hx]; rfl
        have HT := Lib.hid ht
        clear ht hx
        have hJA : J (q.take k) (wr.alloc (boxC chgT (cv x))) := hJ _ wr _ none hJs (World.grownBy_alloc wr _ none) (fun r e => by cases e)
        have hls : (q.take k).length < q.length := by rw [List.length_take]; omega
        obtain ⟨fn, tmps, assign, body, hy, hR⟩ := hY _ x (wr.alloc (boxC chgT (cv x))) hJA hls
        clear hls
        gi_wp2
        refine hR.mono ?_
        rintro e W3 (⟨rfl, hJ3, hk3⟩ | ⟨rfl, hJx3⟩)
        · have hB3 := Lib.hid ((hnx.alloc (boxC chgT (cv x))).trans hk3)
          gi_wp2
          go_roundw
          case rel => exact ⟨k + 1, by omega, by simp, by rw [HT.out]; exact hJ3, hB3.out⟩
          case measure => simp [intOf]; omega
        · gi_wp2
          refine bodyPost_ret (results_none rfl _ _ _) rfl ?_
          exact ⟨⟨_, rfl⟩, .inr ⟨q.take k ++ [x], by rw [← HT.out]; exact List.take_prefix _ _, hJx3⟩⟩
      · obtain rfl : k = q.length := by omega
        rw [List.take_length] at hJs
        gi_wp2
        go_end0
        exact ⟨⟨_, rfl⟩, .inl ⟨_, rfl, hJs⟩⟩

/-- What All hands back, as a contract of an iterator. -/
theorem all_stops {α : Type} (cv : α → Chg) (F : Fence) (n : Nat) (hF : F.fn 42) (hro : F.round = none) (hn : 1 ≤ n) (bs : Nat) (v : Value) (q : List α) (hl : q.length ≤ 100000) (w : World) (hbs : bs < w.heap.size) (hc : w.cell? ⟨bs, 0, none⟩ = some v) (hr : ReadsC w v (q.map cv)) :
    SeqStopsK F n Tryd.prog 42 #[.pointer (some ⟨bs, 0, none⟩)] (fun x : α => #[chV (cv x)]) (Still v.ownBlock) (fun ys => ys = q) (fun pre => pre <+: q) q.length w := fun l J Jx W hW hJ _ hY h0 =>
  all1_any cv F n hF hro hn l bs v q hl J Jx W hJ hY ((hW.cell (p := ⟨bs, 0, none⟩) hbs).trans hc) (hr.below hW) h0
end Go.Proofs.YtkbeppmjdjddhaaDoor.Batch
