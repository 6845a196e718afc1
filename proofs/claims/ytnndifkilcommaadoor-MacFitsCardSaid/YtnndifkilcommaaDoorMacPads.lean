/-
  A key's block, and its bytes put together with a byte.
-/
import Derived.Test.YtnndifkilcommaaDoorMacSame
import Derived.Test.YtnndifkilcommaaDoorShaWalkH
namespace Go.Proofs.YtnndifkilcommaaDoor.Mac
open Go.RowKit Sha

theorem bl_len (s : ByteArray) : (bl s).length = s.size := by show s.data.toList.length = _; rw [← Lib.size_eq]
/- The block of a key. -/
theorem key_row (k : List UInt8) (s : ByteArray) (hs : s.size ≤ 64) (hk : keyOf k = bl s) :
    (List.take 0 (rowOf .u8 64 fun _ => 0).toList ++ Lib.byteCells (s.data.toList.take s.size) ++ List.drop (0 + s.size) (rowOf .u8 64 fun _ => 0).toList).toArray = rowOf .u8 64 (byteAt (keyOf k)) := by
  have hb : (Lib.byteCells (s.data.toList.take s.size)).length = s.size := by rw [Lib.byteCells_length, List.length_take, ← Lib.size_eq, Nat.min_self]
  have hz : (rowOf .u8 64 fun _ => 0).toList.length = 64 := by rw [Array.length_toList, rowOf_size]
  rw [hk]
  apply Array.ext_getElem?
  intro j
  rw [List.getElem?_toArray, List.take_zero, List.nil_append]
  by_cases h1 : j < s.size
  · rw [List.getElem?_append_left (by rw [hb]; exact h1), rowOf_get _ _ _ (by omega)]
    unfold Lib.byteCells
    rw [List.getElem?_map, List.getElem?_take, if_pos h1, List.getElem?_eq_getElem (by rw [bl_len]; exact h1)]
    show some (Value.int .u8 _) = _
    unfold byteAt
    rw [List.getD_eq_getElem?_getD, List.getElem?_eq_getElem (by rw [bl_len]; exact h1)]
    rfl
  · rw [List.getElem?_append_right (by rw [hb]; omega), hb, List.getElem?_drop, Array.getElem?_toList, show 0 + s.size + (j - s.size) = j by omega]
    by_cases h2 : j < 64
    · rw [rowOf_get _ _ _ h2, rowOf_get _ _ _ h2, byteAt_out _ _ (by rw [bl_len]; omega)]
    · rw [Array.getElem?_eq_none (by rw [rowOf_size]; omega), Array.getElem?_eq_none (by rw [rowOf_size]; omega)]
/- 'copy' of a string into a row, in a walk. -/
theorem wpList_copy_str {ops : Array Oper} {rest : List Oper} {o : Oper} {a : Act} {w : World} {Q : Exit → Act → World → Prop} (hgd : o.guard = none) (x y : Operand) (ho : o.op = .call { callee := .builtin .copy, args := #[x, y], argTypes := #[30, 9] })
    (g off dLen dCap m : Nat) (s : ByteArray) (cur : Array Value) (t : TypeId) (hx : a.eval x = .slice (some ⟨g, off, none⟩) dLen dCap) (hy : a.eval y = .string s) (hg : w.heap[g]? = some (.cells cur t (0, 0))) (hm : Nat.min s.size dLen = m) (hfit : off + m ≤ cur.size) (hty : o.type = 3)
    (h : wpList Tryd.prog ops Q rest (a.put o.dst (goInt m)) (w.setRow g (cur.toList.take off ++ Lib.byteCells (s.data.toList.take m) ++ cur.toList.drop (off + m)).toArray)) : wpList Tryd.prog ops Q (o :: rest) a w := by
  refine wpList_plain hgd fun K hK => ?_
  have hr := copy_str w g off dLen dCap m s cur t hg hm hfit
  unfold Oper.wp execOp
  simp only [ho, hty, resolve, invoke, builtin, Sem.run_bind, Sem.run_pure, Result.andThen_ok, List.map_toArray, List.map_cons, List.map_nil, hx, hy, hr]
  exact hK _ _ h
/- Two blocks of 64 zeros, and the second one filled. -/
def twoRows (w : World) : World := (w.alloc (.cells (rowOf .u8 64 fun _ => 0) 33)).alloc (.cells (rowOf .u8 64 fun _ => 0) 33)
theorem two_second (w : World) : Holds (twoRows w) (w.heap.size + 1) (rowOf .u8 64 fun _ => 0) 33 := by
  have s1 : (w.alloc (.cells (rowOf .u8 64 fun _ => 0) 33)).heap.size = w.heap.size + 1 := by simp
  rw [← s1]; exact Holds.new _ _ _
theorem two_first (w : World) : Holds (twoRows w) w.heap.size (rowOf .u8 64 fun _ => 0) 33 := (Holds.new w _ _).alloc _
theorem two_below (w : World) : Below w.heap.size w (twoRows w) := ((Below.refl _ _).alloc (Nat.le_refl _) _).alloc (by simp) _
set_option maxRecDepth 100000 in
set_option maxHeartbeats 400000 in
theorem keyBlock_short (s : ByteArray) (w : World) (hs : s.size ≤ 64) :
    Calls Tryd.prog 14 #[.string s] w fun e w' => e = .returned (.agg (rowOf .u8 64 (byteAt (keyOf (bl s))))) ∧ Below w.heap.size w w' := by
  have hk : keyOf (bl s) = bl s := if_neg (by rw [bl_len]; omega)
  have hr := key_row (bl s) s hs hk
  have h2 := (two_second w).row (rowOf .u8 64 (byteAt (keyOf (bl s))))
  have h1 := (two_first w).row_other (c := w.heap.size + 1) (rowOf .u8 64 (byteAt (keyOf (bl s)))) (by omega)
  have hb := below_row (two_below w) (w.heap.size + 1) (rowOf .u8 64 (byteAt (keyOf (bl s)))) (by omega)
  have HH := Lib.hid (And.intro hr (And.intro h2 (And.intro h1 hb)))
  clear hr hk h2 h1 hb
  go_enter Tryd.func14, Tryd.ntmps14
  go_wp2_with (first
    | (refine wpList_copy_str rfl (.tmp 9) (.tmp 10) rfl (w.heap.size + 1) 0 64 64 s.size s (rowOf .u8 64 fun _ => 0) 33 rfl rfl (two_second w) (Nat.min_eq_left hs) (by rw [rowOf_size]; omega) rfl ?_; rw [HH.out.1])
    | (refine wpList_load_row rfl 33 (.tmp 3) rfl (w.heap.size + 1) rfl 33 (rowOf .u8 64 (byteAt (keyOf (bl s)))) (0, 0) _ HH.out.2.1 Tryd.underlying33 rfl (rsize43 _ _) ?_)
    | (refine wpList_store_row rfl 33 (.tmp 2) (.tmp 12) rfl w.heap.size (rowOf .u8 64 (byteAt (keyOf (bl s)))) rfl rfl 33 _ HH.out.2.2.1 (rsize43 _ _) (by rw [rowOf_size, rowOf_size]) (rowOf_one _ _ _) ?_))
  exact bodyPost_ret (v := .agg (rowOf .u8 64 (byteAt (keyOf (bl s))))) (results_cell_row Tryd.results14 _ _ w.heap.size 33 _ (0, 0) _ rfl (HH.out.2.2.1.row _) Tryd.underlying33 rfl (rsize43 _ _)) rfl ⟨rfl, below_row HH.out.2.2.2 _ _ (Nat.le_refl _)⟩
set_option maxRecDepth 100000 in
set_option maxHeartbeats 400000 in
theorem keyBlock_long (s : ByteArray) (w : World) (hs : 64 < s.size) (hs2 : s.size ≤ 1000000) (ht : Tab w) :
    Calls Tryd.prog 14 #[.string s] w fun e w' => e = .returned (.agg (rowOf .u8 64 (byteAt (keyOf (bl s))))) ∧ Below w.heap.size w w' := by
  have hk : keyOf (bl s) = bl (ba (digest (bl s))) := by rw [bl_ba]; exact if_pos (by rw [bl_len]; exact hs)
  have hds : (ba (digest (bl s))).size = 32 := by rw [ba_size]; exact digest_len _
  have hr := key_row (bl s) (ba (digest (bl s))) (by omega) hk
  rw [hds] at hr
  have HT := Lib.hid ht
  clear hk ht
  generalize hK : keyOf (bl s) = K at hr ⊢
  have HC := Lib.hid (fun w => sum_any s w)
  generalize ba (digest (bl s)) = D at hr hds HC
  have HR := Lib.hid hr
  clear hr hK
  go_enter Tryd.func14, Tryd.ntmps14
  go_wp2_with fail
  have h0 : Below w.heap.size w (w.alloc (.cells (rowOf .u8 64 fun _ => 0) 33)) := (Below.refl _ _).alloc (Nat.le_refl _) _
  refine (HC.out _ (HT.out.next h0) hs2).mono ?_
  rintro e w1 ⟨rfl, hb1⟩
  have hF := (Holds.new w (rowOf .u8 64 fun _ => 0) 33).below hb1 (by simp)
  have hB := h0.trans (hb1.mono h0.size)
  have hS := Holds.new w1 (rowOf .u8 64 fun _ => 0) 33
  have hF2 := (hF.alloc (.cells (rowOf .u8 64 fun _ => 0) 33)).row_other (c := w1.heap.size) (rowOf .u8 64 (byteAt K)) (by have := hF.lt; omega)
  have hS2 := hS.row (rowOf .u8 64 (byteAt K))
  have hB2 := below_row (hB.alloc hB.size (.cells (rowOf .u8 64 fun _ => 0) 33)) w1.heap.size (rowOf .u8 64 (byteAt K)) hB.size
  have HH := Lib.hid (And.intro hS (And.intro hS2 (And.intro hF2 hB2)))
  clear hF hB hS hF2 hS2 hB2 hb1 h0
  go_wp2_with (first
    | (refine wpList_copy_str rfl (.tmp 9) (.tmp 10) rfl w1.heap.size 0 64 64 32 D (rowOf .u8 64 fun _ => 0) 33 rfl rfl HH.out.1 (by rw [hds]; rfl) (by rw [rowOf_size]; omega) rfl ?_; rw [HR.out])
    | (refine wpList_load_row rfl 33 (.tmp 3) rfl w1.heap.size rfl 33 (rowOf .u8 64 (byteAt K)) (0, 0) _ HH.out.2.1 Tryd.underlying33 rfl (rsize43 _ _) ?_)
    | (refine wpList_store_row rfl 33 (.tmp 2) (.tmp 12) rfl w.heap.size (rowOf .u8 64 (byteAt K)) rfl rfl 33 _ HH.out.2.2.1 (rsize43 _ _) (by rw [rowOf_size, rowOf_size]) (rowOf_one _ _ _) ?_))
  exact bodyPost_ret (v := .agg (rowOf .u8 64 (byteAt K))) (results_cell_row Tryd.results14 _ _ w.heap.size 33 _ (0, 0) _ rfl (HH.out.2.2.1.row _) Tryd.underlying33 rfl (rsize43 _ _)) rfl ⟨rfl, below_row HH.out.2.2.2 _ _ (Nat.le_refl _)⟩
theorem keyBlock_any (s : ByteArray) (w : World) (hs : s.size ≤ 1000000) (ht : Tab w) :
    Calls Tryd.prog 14 #[.string s] w fun e w' => e = .returned (.agg (rowOf .u8 64 (byteAt (keyOf (bl s))))) ∧ Below w.heap.size w w' := by
  by_cases h : s.size ≤ 64
  · exact keyBlock_short s w h
  · exact keyBlock_long s w (by omega) hs ht
end Go.Proofs.YtnndifkilcommaaDoor.Mac
