/-
  Walk of the program's Texts: a range over the batch's iterator, each change written.
-/
import Derived.Test.YtkbeppmjdjddhaaDoorBatchIter
import Derived.Test.YtkbeppmjdjddhaaDoorBatchWrite
import Derived.Test.YtkbeppmjdjddhaaDoorBatchRound
namespace Go.Proofs.YtkbeppmjdjddhaaDoor.Batch
open Go Go.RowKit Go.Shelf
open Go.Proofs.YtkbeppmjdjddhaaDoor.Nets (Tab Reads str)

attribute [local go_sem] Oper.semAt_some

abbrev strT : TypeId := 9
abbrev strsT : TypeId := 38
theorem ownsRow_base_a {w : World} {base base' : Nat} {e : TypeId} {size : Nat} {v : Value} {n : Nat} {xs : List Value} (h : w.ownsRow base e size v n xs) (hb : base' ≤ base) : w.ownsRow base' e size v n xs := by
  refine ⟨h.1, ?_⟩
  rcases h.2 with h2 | ⟨g, cap, cur, a, b, c⟩
  · exact .inl h2
  · exact .inr ⟨g, cap, cur, a, by omega, c⟩
/-- The texts of changes, as values. -/
def textV (q : List Chg) : List Value := q.map fun c => str (writeS c)
/-- The closure's value. -/
abbrev itV (b : Nat) : Value := .func (.func 42) #[] #[.pointer (some ⟨b, 0, none⟩)]
theorem keeps_below {B : Nat} {W W' : World} (h : Below W.heap.size W W') : KeepsFrom B W W' := ⟨h.size, fun k _o _ hk _ => (h.block k (Array.getElem?_eq_some_iff.1 hk).1).trans hk⟩

/-- Between two rounds: the texts so far, in the variable's box. -/
def Got (w w1 : World) (pre : List Chg) (W : World) : Prop := ∃ u, Boxed W w.heap.size strsT u ∧ W.ownsRow w1.heap.size strT 1 u pre.length (textV pre) ∧ w1.heap.size ≤ W.heap.size ∧ Below w.heap.size w W
theorem got_own {w w1 : World} {α : Type} {cv : List α → List Chg} {B : Nat} (hB : w.heap.size ≤ B) : OwnFrom B (fun (pre : List α) W => Got w w1 (cv pre) W) := fun s X Y row hs hg hr => by
  obtain ⟨u, h1, h2, h3, h4⟩ := hs
  refine ⟨u, boxed_own w.heap.size strsT (fun (_ : Unit) => u) () X Y row h1 hg (fun r e => (hr r e).2), h2.kept hg ?_, Nat.le_trans h3 hg.size, h4.grown hg h4.size fun k e => by have := (hr k e).1; omega⟩
  rcases h2.2 with ⟨rfl, _⟩ | ⟨g, cap, cur, rfl, _, hgb, _⟩
  · exact .inl rfl
  · refine .inr fun e' => ?_
    obtain ⟨_, o, ho, hcl⟩ := hr g (by simpa [Value.ownBlock] using e'.symm)
    rw [hgb] at ho; cases ho; cases hcl
theorem got_step {w w1 W W' : World} {kb : Option Nat} {ua : Option Addr} {uc : Nat} {pre : List Chg} (hu : Boxed W w.heap.size strsT (.slice ua pre.length uc)) (ho : W.ownsRow w1.heap.size strT 1 (.slice ua pre.length uc) pre.length (textV pre)) (h1 : w1.heap.size ≤ W.heap.size) (hBW : Below w.heap.size w W)
    (hb : Below W.heap.size W W') (hl : pre.length ≤ 100000) (x : Chg) (hw : w.heap.size < w1.heap.size) (hk1 : ∀ k, kb = some k → k < w1.heap.size) (hk2 : ∀ k, kb = some k → k ≠ w.heap.size) :
    ∃ v' w3, (Builtin.append_ #[strsT, strsT] strsT #[.slice ua pre.length uc, .slice (some ⟨W'.heap.size, 0, none⟩) 1 1]).run Tryd.prog (W'.alloc (.cells #[str (writeS x)] strT)) = .ok v' w3 ∧ ∃ a n c, v' = .slice a n c ∧ w3.cell? ⟨w.heap.size, 0, none⟩ = some (.slice ua pre.length uc) ∧ w3.frozen? ⟨w.heap.size, 0, none⟩ = false ∧
      KeepsFrom w1.heap.size W (w3.setCell ⟨w.heap.size, 0, none⟩ v') ∧ Still kb W (w3.setCell ⟨w.heap.size, 0, none⟩ v') ∧ Got w w1 (pre ++ [x]) (w3.setCell ⟨w.heap.size, 0, none⟩ v') := by
  obtain ⟨i0, hi, hz0, hz1, hz2⟩ := info_parts Nets.infoString
  have hu' : Boxed W' w.heap.size strsT (.slice ua pre.length uc) := (hb.block _ hu.lt).trans hu
  have ho' := Nets.owns_below ho hb
  have h1' : w1.heap.size ≤ W'.heap.size := Nat.le_trans h1 hb.size
  obtain ⟨v', w3, hr, h2, h3, _⟩ := run_append_own (P := Tryd.prog) (W'.alloc (.cells #[str (writeS x)] strT)) w1.heap.size strsT strsT strT i0 _ 1 16 Tryd.underlying38 hi hz0 hz1 hz2 rfl (by decide) _ pre.length _ (ho'.alloc _) ⟨W'.heap.size, 0, none⟩ 1 1 [str (writeS x)] rfl
    (Nets.new_cell W' _) (by intro u hu; simp at hu; subst hu; rfl) (by unfold maxLen; omega) (by omega) (by simp; omega)
  have hlt := (ho'.alloc (.cells #[str (writeS x)] strT)).lt
  have hu3 : Boxed w3 w.heap.size strsT (.slice ua pre.length uc) := (hu'.alloc _).kept h3 fun e => by have := (hlt _ e.symm).1; omega
  have hB4 : Below w.heap.size W' (w3.setCell ⟨w.heap.size, 0, none⟩ v') := (((Below.refl w.heap.size W').alloc (by omega) _).grown h3 (by simp; omega) (fun k hk => by have := (hlt k hk).1; omega)).setCell (p := ⟨w.heap.size, 0, none⟩) (Nat.le_refl _) v'
  obtain ⟨a3, c3, e3⟩ := owns_slice h2
  refine ⟨v', w3, hr, a3, _, c3, e3, hu3.cell, hu3.frozen, ?_, ?_, v', hu3.set v', ?_, ?_, hBW.trans ((hb.mono hBW.size).trans hB4)⟩
  · refine (keeps_below hb).trans (((KeepsOthers.alloc _ _).from _).trans (((KeepsOthers.of_grownBy h3 fun j o ej hj => ?_).from _).trans ((KeepsOthers.setCell _ _ _).from _)))
    rcases (ho'.alloc (.cells #[str (writeS x)] strT)).2 with ⟨e, _⟩ | ⟨g, cap, cur, e, _, hgb, _⟩
    · rw [e] at ej; cases ej
    · rw [e] at ej
      obtain rfl : g = j := by simpa [Value.ownBlock] using ej
      rw [hgb] at hj; cases hj; rfl
  · refine (Still.below hb).trans ((Still.alloc (Still.refl _ W') (.cells #[str (writeS x)] strT)).trans ⟨?_, fun k hk hkl => ?_⟩)
    · exact Nat.le_trans h3.size (by simp [World.setCell])
    · have h5 := hk1 k hk
      refine (Below.heap_setCell _ _ _ _ (fun e => hk2 k hk e)).trans (h3.block k hkl fun e => ?_)
      have := (hlt _ e.symm).1
      omega
  · have h5 : (w3.setCell ⟨w.heap.size, 0, none⟩ v').ownsRow w1.heap.size strT 1 v' (pre.length + 1) (textV pre ++ [str (writeS x)]) := h2.kept (grownBy_setCell' w3 w.heap.size v') (.inr fun e => by have := (h2.lt _ e).1; omega)
    have e5 : textV (pre ++ [x]) = textV pre ++ [str (writeS x)] := by simp [textV]
    rw [e5, List.length_append]
    exact h5
  · exact Nat.le_trans (Nat.le_trans h1' (by simp)) (Nat.le_trans h3.size (by simp [World.setCell]))

set_option maxRecDepth 100000 in
set_option maxHeartbeats 4000000 in
theorem texts_walk {w : World} {d : Bt} {q : List Chg} (h : Mem w d q) (hl : q.length ≤ 100000) (hf : ∀ x ∈ q, Fine x) (ht : Tab w) :
    Calls Tryd.prog 16 #[ptr d.pb] w fun e w' => ∃ v, e = .returned v ∧ w'.ownsRow w.heap.size strT 1 v q.length (textV q) ∧ Below w.heap.size w w' := by
  have hA : Below w.heap.size w (w.alloc (.cells #[.slice none 0 0] strsT)) := (Below.refl _ _).alloc (Nat.le_refl _) _
  have hAll := all_any (h.alloc (.cells #[.slice none 0 0] strsT)) hl
  clear h
  have hfA : Fence.wide.fn 30 := trivial
  have hfW : Fence.wide.fn 22 := trivial
  refine (callsIn_wide (n := 8)).1 ?_
  refine callsIn_of_wp_marks Tryd.func16 rfl trivial ?_ rfl
  simp only [Tryd.ntmps16, List.size_toArray, List.length_cons, List.length_nil, Nat.reduceAdd, Nat.reduceSub, Array.replicate_succ, Array.replicate_zero, List.push_toArray, List.append_toArray, List.nil_append, List.cons_append]
  gi_wp2_with (gi_at_call 30; refine (callsIn_wide.2 hAll).mono ?_; rintro e w1 ⟨v, b, rfl, hc, hb, ho, hB1⟩)
  have hsz : w.heap.size + 1 ≤ w1.heap.size := by have := hB1.size; simpa using this
  have hbox : Boxed w1 w.heap.size strsT (.slice none 0 0) := (hB1.block _ (by simp)).trans (heap_alloc_new w _)
  have hB : Below w.heap.size w w1 := hA.trans (hB1.mono hA.size)
  have hkv : ∀ k, v.ownBlock = some k → w.heap.size + 1 ≤ k ∧ k < w1.heap.size := fun k hk => by have := ho.lt k hk; simpa using this
  have hst := all_stops (Subtype.val : {x // x ∈ q} → Chg) Fence.wide (8 - 1) trivial rfl (by omega) b v q.attach (by simpa using hl) w1 hb hc (by rw [List.attach_map_subtype_val]; exact owns_reads ho)
  clear hB1 hAll hA hc hb ho
  refine wpIn_rangeFunc_ownH rfl (by omega) (gf := 42) (lb := #[.pointer (some ⟨b, 0, none⟩)]) rfl trivial (enters_of Tryd.func42 (by kernel_rfl) rfl)
    hst Still.trans (still_b (fun k hk => (hkv k hk).2)) (Below.refl _ _) (fun _ => rfl)
    (fun pre W => Got w w1 (pre.map (·.1)) W) (fun _ _ _ => False) (got_own (by omega)) (fun _ _ _ _ _ hs _ _ => hs)
    ⟨_, hbox, World.ownsRow_nil _ _ _ _, Nat.le_refl _, hB⟩
    (fun x a' W => ∃ bx, w1.heap.size ≤ bx ∧ Lies W bx #[.string x.1.key, .string x.1.val, .bool x.1.gone] chgT ∧ a' = { tmps := #[ptr d.pb, undef, .slice none 0 0, ptr w.heap.size, ptr bx, ptr d.pb, itV b, chV x.1, undef, undef, undef, undef, undef, undef], defers := [] })
    (fun x a' _ X Y row hs hg hr => by
      obtain ⟨bx, h1, h2, h3⟩ := hs
      refine ⟨bx, h1, (hg.block bx h2.lt fun e => ?_).trans h2, h3⟩
      obtain ⟨_, o, ho, hcl⟩ := hr bx e.symm
      rw [show X.heap[bx]? = _ from h2] at ho; cases ho; cases hcl)
    ?assign ?body ?done ?stop
  case assign =>
    rintro l pre x W K ⟨u, hu, ho, h1, hBW⟩ hK
    gi_wp2
    exact hK _ _ ((KeepsOthers.alloc _ _).from _) ((Still.refl _ W).alloc _) ⟨u, hu.alloc _, ho.alloc _, by simp; omega, hBW.alloc hBW.size _⟩ ⟨W.heap.size, h1, Lies.new W _ _, rfl⟩
  case body =>
    rintro l pre x a' W hlW hrl ⟨u, hu, ho, h1, hBW⟩ ⟨bx, hbx, hLx, rfl⟩ hlt
    obtain ⟨ua, uc, rfl⟩ := owns_slice ho
    have hW := write_any x.1
    have HF := hf x.1 x.2
    have hql : q.attach.length = q.length := List.length_attach
    have hpl : (pre.map (·.1)).length ≤ 100000 := by rw [List.length_map]; omega
    have HC : Hid (∀ W', Below W.heap.size W W' → (Boxed W' w.heap.size strsT (.slice ua (pre.map (·.1)).length uc) ∧ Lies W' bx #[.string x.1.key, .string x.1.val, .bool x.1.gone] chgT) ∧ Calls Tryd.prog 22 #[chV x.1] W' fun e w2 => e = .returned (str (writeS x.1)) ∧ Below W'.heap.size W' w2) := fun W' hb =>
      ⟨⟨(hb.block _ hu.lt).trans hu, hLx.same (hb.block _ hLx.lt)⟩, write_any x.1 W' HF (ht.below (hBW.trans (hb.mono hBW.size)))⟩
    have HN : Hid (∀ W', Below W.heap.size W W' → ∃ v' w3, (Builtin.append_ #[strsT, strsT] strsT #[.slice ua (pre.map (·.1)).length uc, .slice (some ⟨W'.heap.size, 0, none⟩) 1 1]).run Tryd.prog (W'.alloc (.cells #[str (writeS x.1)] strT)) = .ok v' w3 ∧ ∃ a n c, v' = .slice a n c ∧ w3.cell? ⟨w.heap.size, 0, none⟩ = some (.slice ua (pre.map (·.1)).length uc) ∧ w3.frozen? ⟨w.heap.size, 0, none⟩ = false ∧
      KeepsFrom w1.heap.size W (w3.setCell ⟨w.heap.size, 0, none⟩ v') ∧ Still v.ownBlock W (w3.setCell ⟨w.heap.size, 0, none⟩ v') ∧ Got w w1 ((pre ++ [x]).map (·.1)) (w3.setCell ⟨w.heap.size, 0, none⟩ v')) := fun W' hb => by
      have hg := got_step hu ho h1 hBW hb hpl x.1 (by omega) (fun k hk => (hkv k hk).2) (fun k hk => by have := (hkv k hk).1; omega)
      rw [List.map_append, List.map_cons, List.map_nil]
      exact hg
    clear hql hu ho hLx ht hf hst hkv hbox hB HF hpl hW
    gi_wp2
    refine wpIn_region_any (by kernel_rfl) ?_
    have hb : Below W.heap.size W W.drew := (Below.refl _ _).drew
    change wpAnyIn _ _ _ _ _ _ _ _ _ W.drew
    refine wpAnyIn_ready (rs := [0, 1]) (by kernel_rfl) (by simp) (AllReadyIn.cons rfl (fun K hK => ?_) (AllReadyIn.cons rfl (fun K hK => ?_) AllReadyIn.nil))
    · obtain ⟨⟨hbx0, hlx0⟩, _⟩ := HC.out W.drew hb
      have hc0 := hbx0.cell
      refine opIn_value rfl (fun c h => by cases h) (w' := W.drew) (v := .slice ua (pre.map (·.1)).length uc) (by simp [go_sem, hc0]) (hK _ _ ?_)
      clear hK K hbx0 hlx0 hc0
      refine wpAnyIn_ready (rs := [1]) (by kernel_rfl) (by simp) (AllReadyIn.cons rfl (fun K hK => ?_) AllReadyIn.nil)
      obtain ⟨⟨hbx0, hlx0⟩, _⟩ := HC.out W.drew hb
      obtain ⟨y0, y1, y2, _, _, _⟩ := lies3 hlx0
      refine opIn_value rfl (fun c h => by cases h) (w' := W.drew) (v := chV x.1) (by simp [go_sem, y0, y1, y2]) (hK _ _ ?_)
      clear hK K hbx0 hlx0 y0 y1 y2
      refine wpAnyIn_ready (rs := [2]) (by kernel_rfl) (by simp) (AllReadyIn.cons rfl (fun K hK => ?_) AllReadyIn.nil)
      refine opIn_call (f := 22) (args := #[chV x.1]) (w' := W.drew) rfl (fun c h => by cases h) (by simp [go_sem, execOp, resolve, invoke]) ((HC.out W.drew hb).2) (fun W2 hb2 => hK _ _ ?_)
      clear hK K
      replace hb := hb.trans (hb2.mono hb.size)
      clear hb2
      refine wpAnyIn_ready (rs := [3]) (by kernel_rfl) (by simp) (AllReadyIn.cons rfl (fun K hK => ?_) AllReadyIn.nil)
      refine opIn_value rfl (fun c h => by cases h) (w' := W2.alloc (.cells #[str (writeS x.1)] strT)) (v := .slice (some ⟨W2.heap.size, 0, none⟩) 1 1) (by simp [go_sem]) (hK _ _ ?_)
      clear hK K
      obtain ⟨v', w3, hr, a3, n3, c3, rfl, hc3, hf3, hk, hs, hgo⟩ := HN.out W2 hb
      refine wpAnyIn_ready (rs := [4]) (by kernel_rfl) (by simp) (AllReadyIn.cons rfl (fun K hK => ?_) AllReadyIn.nil)
      refine opIn_append rfl rfl rfl rfl hr (hK _ _ ?_)
      clear hK K
      refine wpAnyIn_ready (rs := [5]) (by kernel_rfl) (by simp) (AllReadyIn.cons rfl (fun K hK => ?_) AllReadyIn.nil)
      refine opIn_skip rfl (fun c h => by cases h) (w' := w3.setCell ⟨w.heap.size, 0, none⟩ (.slice a3 n3 c3)) (by simp [go_sem, hc3, hf3]) (hK _ _ ?_)
      clear hK K
      refine wpAnyIn_done (by kernel_rfl) ?_ _
      exact ⟨hk, hs, hgo⟩
    · obtain ⟨⟨hbx0, hlx0⟩, _⟩ := HC.out W.drew hb
      obtain ⟨y0, y1, y2, _, _, _⟩ := lies3 hlx0
      refine opIn_value rfl (fun c h => by cases h) (w' := W.drew) (v := chV x.1) (by simp [go_sem, y0, y1, y2]) (hK _ _ ?_)
      clear hK K hbx0 hlx0 y0 y1 y2
      refine wpAnyIn_ready (rs := [0, 2]) (by kernel_rfl) (by simp) (AllReadyIn.cons rfl (fun K hK => ?_) (AllReadyIn.cons rfl (fun K hK => ?_) AllReadyIn.nil))
      · obtain ⟨⟨hbx0, hlx0⟩, _⟩ := HC.out W.drew hb
        have hc0 := hbx0.cell
        refine opIn_value rfl (fun c h => by cases h) (w' := W.drew) (v := .slice ua (pre.map (·.1)).length uc) (by simp [go_sem, hc0]) (hK _ _ ?_)
        clear hK K hbx0 hlx0 hc0
        refine wpAnyIn_ready (rs := [2]) (by kernel_rfl) (by simp) (AllReadyIn.cons rfl (fun K hK => ?_) AllReadyIn.nil)
        refine opIn_call (f := 22) (args := #[chV x.1]) (w' := W.drew) rfl (fun c h => by cases h) (by simp [go_sem, execOp, resolve, invoke]) ((HC.out W.drew hb).2) (fun W2 hb2 => hK _ _ ?_)
        clear hK K
        replace hb := hb.trans (hb2.mono hb.size)
        clear hb2
        refine wpAnyIn_ready (rs := [3]) (by kernel_rfl) (by simp) (AllReadyIn.cons rfl (fun K hK => ?_) AllReadyIn.nil)
        refine opIn_value rfl (fun c h => by cases h) (w' := W2.alloc (.cells #[str (writeS x.1)] strT)) (v := .slice (some ⟨W2.heap.size, 0, none⟩) 1 1) (by simp [go_sem]) (hK _ _ ?_)
        clear hK K
        obtain ⟨v', w3, hr, a3, n3, c3, rfl, hc3, hf3, hk, hs, hgo⟩ := HN.out W2 hb
        refine wpAnyIn_ready (rs := [4]) (by kernel_rfl) (by simp) (AllReadyIn.cons rfl (fun K hK => ?_) AllReadyIn.nil)
        refine opIn_append rfl rfl rfl rfl hr (hK _ _ ?_)
        clear hK K
        refine wpAnyIn_ready (rs := [5]) (by kernel_rfl) (by simp) (AllReadyIn.cons rfl (fun K hK => ?_) AllReadyIn.nil)
        refine opIn_skip rfl (fun c h => by cases h) (w' := w3.setCell ⟨w.heap.size, 0, none⟩ (.slice a3 n3 c3)) (by simp [go_sem, hc3, hf3]) (hK _ _ ?_)
        clear hK K
        refine wpAnyIn_done (by kernel_rfl) ?_ _
        exact ⟨hk, hs, hgo⟩
      · refine opIn_call (f := 22) (args := #[chV x.1]) (w' := W.drew) rfl (fun c h => by cases h) (by simp [go_sem, execOp, resolve, invoke]) ((HC.out W.drew hb).2) (fun W2 hb2 => hK _ _ ?_)
        clear hK K
        replace hb := hb.trans (hb2.mono hb.size)
        clear hb2
        refine wpAnyIn_ready (rs := [0, 3]) (by kernel_rfl) (by simp) (AllReadyIn.cons rfl (fun K hK => ?_) (AllReadyIn.cons rfl (fun K hK => ?_) AllReadyIn.nil))
        · obtain ⟨⟨hbx0, hlx0⟩, _⟩ := HC.out W2 hb
          have hc0 := hbx0.cell
          refine opIn_value rfl (fun c h => by cases h) (w' := W2) (v := .slice ua (pre.map (·.1)).length uc) (by simp [go_sem, hc0]) (hK _ _ ?_)
          clear hK K hbx0 hlx0 hc0
          refine wpAnyIn_ready (rs := [3]) (by kernel_rfl) (by simp) (AllReadyIn.cons rfl (fun K hK => ?_) AllReadyIn.nil)
          refine opIn_value rfl (fun c h => by cases h) (w' := W2.alloc (.cells #[str (writeS x.1)] strT)) (v := .slice (some ⟨W2.heap.size, 0, none⟩) 1 1) (by simp [go_sem]) (hK _ _ ?_)
          clear hK K
          obtain ⟨v', w3, hr, a3, n3, c3, rfl, hc3, hf3, hk, hs, hgo⟩ := HN.out W2 hb
          refine wpAnyIn_ready (rs := [4]) (by kernel_rfl) (by simp) (AllReadyIn.cons rfl (fun K hK => ?_) AllReadyIn.nil)
          refine opIn_append rfl rfl rfl rfl hr (hK _ _ ?_)
          clear hK K
          refine wpAnyIn_ready (rs := [5]) (by kernel_rfl) (by simp) (AllReadyIn.cons rfl (fun K hK => ?_) AllReadyIn.nil)
          refine opIn_skip rfl (fun c h => by cases h) (w' := w3.setCell ⟨w.heap.size, 0, none⟩ (.slice a3 n3 c3)) (by simp [go_sem, hc3, hf3]) (hK _ _ ?_)
          clear hK K
          refine wpAnyIn_done (by kernel_rfl) ?_ _
          exact ⟨hk, hs, hgo⟩
        · refine opIn_value rfl (fun c h => by cases h) (w' := W2.alloc (.cells #[str (writeS x.1)] strT)) (v := .slice (some ⟨W2.heap.size, 0, none⟩) 1 1) (by simp [go_sem]) (hK _ _ ?_)
          clear hK K
          refine wpAnyIn_ready (rs := [0]) (by kernel_rfl) (by simp) (AllReadyIn.cons rfl (fun K hK => ?_) AllReadyIn.nil)
          obtain ⟨⟨hbx0, hlx0⟩, _⟩ := HC.out W2 hb
          have hc0 := hbx0.cell
          have hc00 := (hbx0.alloc (.cells #[str (writeS x.1)] strT)).cell
          refine opIn_value rfl (fun c h => by cases h) (w' := (W2.alloc (.cells #[str (writeS x.1)] strT))) (v := .slice ua (pre.map (·.1)).length uc) (by simp [go_sem, hc00]) (hK _ _ ?_)
          clear hK K hbx0 hlx0 hc0 hc00
          obtain ⟨v', w3, hr, a3, n3, c3, rfl, hc3, hf3, hk, hs, hgo⟩ := HN.out W2 hb
          refine wpAnyIn_ready (rs := [4]) (by kernel_rfl) (by simp) (AllReadyIn.cons rfl (fun K hK => ?_) AllReadyIn.nil)
          refine opIn_append rfl rfl rfl rfl hr (hK _ _ ?_)
          clear hK K
          refine wpAnyIn_ready (rs := [5]) (by kernel_rfl) (by simp) (AllReadyIn.cons rfl (fun K hK => ?_) AllReadyIn.nil)
          refine opIn_skip rfl (fun c h => by cases h) (w' := w3.setCell ⟨w.heap.size, 0, none⟩ (.slice a3 n3 c3)) (by simp [go_sem, hc3, hf3]) (hK _ _ ?_)
          clear hK K
          refine wpAnyIn_done (by kernel_rfl) ?_ _
          exact ⟨hk, hs, hgo⟩
  case done =>
    rintro D ys W hD hys ⟨u, hu, ho, h1, hBW⟩ hK
    have hcu := hu.cell
    rw [hys, List.attach_map_subtype_val] at ho
    obtain ⟨ua, uc, rfl⟩ := owns_slice ho
    gi_wp2
    refine ⟨by simp, .inl ⟨_, _, rfl, run_takeDeferred hK, ?_⟩⟩
    exact ⟨_, results_tmp rfl _ _ _, _, rfl, ownsRow_putObj (ownsRow_base_a ho (base' := w.heap.size) (by omega)) _ hK rfl, hBW.trans (belowK_b (w := w) (Nat.le_refl _) W D _ _ (by omega) hK rfl rfl)⟩
  case stop =>
    rintro D c pre W _ _ h _
    exact h.elim
end Go.Proofs.YtkbeppmjdjddhaaDoor.Batch
