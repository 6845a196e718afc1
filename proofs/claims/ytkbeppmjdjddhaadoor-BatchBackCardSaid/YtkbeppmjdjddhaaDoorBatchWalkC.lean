/-
  Walks of slices.Insert at changes: at the end; where there is no room; where there is.
-/
import Derived.Test.YtkbeppmjdjddhaaDoorBatchRows
namespace Go.Proofs.YtkbeppmjdjddhaaDoor.Batch
open Go Go.RowKit

/-- What an insertion leaves. -/
def Inserted (w : World) (B : Nat) (v : Value) (q' : List Chg) (e : Ending) (w' : World) : Prop :=
  ∃ v', e = .returned v' ∧ w'.ownsRow B chgT 3 v' q'.length (q'.flatMap chC) ∧ Fr (fun k => v.ownBlock = some k) w w' ∧ ∀ k, v'.ownBlock = some k → v.ownBlock = some k ∨ w.heap.size ≤ k

set_option maxHeartbeats 2000000 in
theorem insert_end (w : World) (B : Nat) (v : Value) (q : List Chg) (x : Chg) (vb : Nat) (ho : w.ownsRow B chgT 3 v q.length (q.flatMap chC)) (hl : q.length ≤ 100000) (hB : B ≤ w.heap.size) (hx : w.rangeAt vb 0 (chC x)) :
    Calls Tryd.prog 52 #[v, .int .i64 q.length, .slice (some ⟨vb, 0, none⟩) 1 1] w (Inserted w B v (q ++ [x])) := by
  obtain ⟨v', w', hr, hh⟩ := append_chg w B v q x vb ho hl hB hx
  have HR := Lib.hid hr
  clear hr
  have hs := ho.2
  clear ho hx
  rcases hs with ⟨rfl, h0⟩ | ⟨g, cap, cur, rfl, _, _, hc1, hc2, _, _⟩
  · obtain rfl : q = [] := List.length_eq_zero_iff.1 h0
    go_enter Tryd.func52, Tryd.ntmps52
    go_wp2_with (at_builtin; refine Lib.wpList_append_run _ rfl _ _ _ _ rfl _ _ rfl rfl _ _ HR.out ?_)
    go_ret
    exact ⟨v', rfl, hh.out⟩
  · unfold maxLen at hc2
    by_cases hcap : cap = q.length
    · go_enter Tryd.func52, Tryd.ntmps52
      go_wp2_with (at_builtin; refine Lib.wpList_append_run _ rfl _ _ _ _ rfl _ _ rfl rfl _ _ HR.out ?_)
      go_ret
      refine ⟨v', rfl, ?_⟩
      have h := hh.out
      rw [List.length_append]
      exact h
    · go_enter Tryd.func52, Tryd.ntmps52
      go_wp2_with (at_builtin; refine Lib.wpList_append_run _ rfl _ _ _ _ rfl _ _ rfl rfl _ _ HR.out ?_)
      go_ret
      refine ⟨v', rfl, ?_⟩
      have h := hh.out
      rw [List.length_append]
      exact h

set_option maxHeartbeats 4000000 in
set_option maxRecDepth 100000 in
theorem insert_grow (w : World) (B g cap : Nat) (cur : Array Value) (q : List Chg) (i : Nat) (x : Chg) (vb : Nat) (_hBg : B ≤ g) (hg : w.heap[g]? = some (.cells cur chgT (0, 0))) (hnc : q.length ≤ cap) (_hcm : cap ≤ 9223372036854775807) (hcur : cur.toList.take (q.length * 3) = q.flatMap chC) (hi : i < q.length) (hl : q.length ≤ 100000)
    (hB : B ≤ w.heap.size) (hx : w.rangeAt vb 0 (chC x)) (hvw : vb < w.heap.size) (hroom : cap < q.length + 1) :
    Calls Tryd.prog 52 #[.slice (some ⟨g, 0, none⟩) q.length cap, .int .i64 i, .slice (some ⟨vb, 0, none⟩) 1 1] w (Inserted w B (.slice (some ⟨g, 0, none⟩) q.length cap) (insC q i x)) := by
  obtain ⟨i0, hi0, hz0, hzs, hzb⟩ := info_parts infoC
  have hn : (insC q i x).length = q.length + 1 := insC_length q i x (by omega)
  have hfl := insC_flat q i x
  have hql := flat_length q
  have hgw : g < w.heap.size := (Array.getElem?_eq_some_iff.1 hg).1
  have hcell : ∀ j v, (q.flatMap chC)[j]? = some v → w.cell? ⟨g, j, none⟩ = some v := fun j v hj => by
    rw [← hcur, List.getElem?_take] at hj
    split at hj
    · rw [cell_of_row w g j cur chgT (0, 0) hg]; simpa using hj
    · cases hj
  obtain ⟨C, hC⟩ : ∃ C, C = q.flatMap chC := ⟨_, rfl⟩
  rw [← hC] at hcell hql hfl
  obtain ⟨n, hqn⟩ : ∃ n, n = q.length := ⟨_, rfl⟩
  rw [← hqn] at hnc hi hl hroom hn hql ⊢
  have h1C : ∀ u ∈ C, u.oneCell' = true := by rw [hC]; exact flat_one q
  have hold : (Builtin.firstCells i0.size i (.slice (some ⟨g, 0, none⟩) i cap)).run Tryd.prog w.drew = .ok (C.take (i * 3)).toArray w.drew := by
    rw [hzs]
    exact run_firstCells_some w.drew 3 i ⟨g, 0, none⟩ i cap (C.take (i * 3)) (by rw [List.length_take]; omega) (fun j v hj => by
      rw [addr_add]
      rw [List.getElem?_take] at hj
      split at hj
      · rw [Nat.zero_add]; exact hcell j v hj
      · cases hj)
  have hkk : (n : Int) + 1 - (i : Int) = ((n + 1 - i : Nat) : Int) := by omega
  have hik : i + (n + 1 - i) = n + 1 := by omega
  obtain ⟨G, hG⟩ : ∃ G, G = grownCap w (n + 1) cap chgT := ⟨_, rfl⟩
  obtain ⟨ROW, hROW⟩ : ∃ ROW : Array Value, ROW = (C.take (i * 3)).toArray ++ Builtin.zeroCells (Value.agg #[.string ⟨#[]⟩, .string ⟨#[]⟩, .bool false]).cells (n + 1 - i) ++ Builtin.zeroCells (Value.agg #[.string ⟨#[]⟩, .string ⟨#[]⟩, .bool false]).cells (G - (n + 1)) := ⟨_, rfl⟩
  have hrz : ∀ ty, (Builtin.append_ #[chsT, 3] ty #[.slice (some ⟨g, 0, none⟩) i cap, .int .i64 ((n : Int) + 1 - (i : Int))]).run Tryd.prog w =
      .ok (.slice (some ⟨w.heap.size, 0, none⟩) (n + 1) G) (w.drew.alloc (.cells ROW chgT)) := fun ty => by
    have h := Lib.run_append_grow_zeros w chsT 3 ty chgT i0 _ .i64 .i64 Tryd.underlying59 Tryd.underlying3 hi0 hz0 (some ⟨g, 0, none⟩) i cap (C.take (i * 3)) hold (n + 1 - i) (by omega) (by omega) (by omega) (by omega) (by rw [hzb]; omega) (by rw [hzb, hik]; exact growslice_fits hroom (by omega))
    rw [hik] at h
    rw [hkk, hROW, hG]
    exact h
  have hGn : n + 1 ≤ G := by rw [hG]; exact grownCap_ge w _ _ _
  have hG63 : G ≤ 9223372036854775807 := by
    have := grownCap_le_maxLen w (n + 1) cap chgT (by unfold maxLen; omega)
    rw [← hG] at this
    unfold maxLen at this
    omega
  have hRl : ROW.size = G * 3 := by
    rw [hROW]
    simp [Builtin.zeroCells, Value.cells]
    omega
  have hRt : ROW.toList.take (i * 3) = C.take (i * 3) := by
    rw [hROW]
    simp only [Array.toList_append, List.append_assoc]
    exact List.take_left' (by simp; omega)
  obtain ⟨ROW1, hROW1⟩ : ∃ R : Array Value, R = (ROW.toList.take (i * 3) ++ chC x ++ ROW.toList.drop (i * 3 + (chC x).length)).toArray := ⟨_, rfl⟩
  have hR1 : ROW1.size = G * 3 := by
    rw [hROW1]
    simp [chC_length]
    omega
  obtain ⟨ROW2, hROW2⟩ : ∃ R : Array Value, R = (ROW1.toList.take ((i + 1) * 3) ++ C.drop (i * 3) ++ ROW1.toList.drop ((i + 1) * 3 + (C.drop (i * 3)).length)).toArray := ⟨_, rfl⟩
  have hdl : (C.drop (i * 3)).length = (n - i) * 3 := by rw [List.length_drop]; omega
  have hcpA : ∀ (W : World), W.heap[w.heap.size]? = some (.cells ROW chgT (0, 0)) → (∀ k, k < w.heap.size → W.heap[k]? = w.heap[k]?) → ∀ ty dc, (Builtin.copy_ #[chsT, chsT] ty #[.slice (some ⟨w.heap.size, i * 3, none⟩) (n + 1 - i) dc, .slice (some ⟨vb, 0, none⟩) 1 1]).run Tryd.prog W = .ok (goInt 1) (W.setRow w.heap.size ROW1) := fun W h1 h2 ty dc => by
    rw [hROW1]
    exact run_copy3 W chsT chsT ty Tryd.underlying59 w.heap.size (i * 3) (n + 1 - i) dc ⟨vb, 0, none⟩ 1 1 ROW chgT (chC x) 1 (by simp only [Nat.min_def]; split <;> omega) rfl h1
      (fun j v hj => by rw [addr_add, World.cell?_of_block (a := ⟨vb, 0 + j, none⟩) (h2 vb hvw)]; exact hx j v hj) (by rw [chC_length]; omega) (one_cell x)
  have hcpB : ∀ (W : World), W.heap[w.heap.size]? = some (.cells ROW1 chgT (0, 0)) → (∀ k, k < w.heap.size → W.heap[k]? = w.heap[k]?) → ∀ ty dc sc, (Builtin.copy_ #[chsT, chsT] ty #[.slice (some ⟨w.heap.size, (i + 1) * 3, none⟩) (n + 1 - (i + 1)) dc, .slice (some ⟨g, i * 3, none⟩) (n - i) sc]).run Tryd.prog W = .ok (goInt ((n - i : Nat) : Int)) (W.setRow w.heap.size ROW2) := fun W h1 h2 ty dc sc => by
    rw [hROW2]
    exact run_copy3 W chsT chsT ty Tryd.underlying59 w.heap.size ((i + 1) * 3) (n + 1 - (i + 1)) dc ⟨g, i * 3, none⟩ (n - i) sc ROW1 chgT (C.drop (i * 3)) (n - i) (by simp only [Nat.min_def]; split <;> omega) hdl h1
      (fun j v hj => by rw [addr_add, World.cell?_of_block (a := ⟨g, i * 3 + j, none⟩) (h2 g hgw)]; exact hcell _ v (by rwa [List.getElem?_drop] at hj)) (by rw [hdl]; omega) (fun u hu => h1C u (List.mem_of_mem_drop hu))
  have hfin := row_ahead ROW.toList (C.take (i * 3)) (chC x) (C.drop (i * 3)) (i * 3) ((i + 1) * 3) ((n + 1) * 3) (by rw [List.length_take]; omega) (by rw [chC_length]; omega) (by rw [hdl]; omega) hRt (by simp; omega)
  rw [chC_length] at hROW1
  rw [hdl] at hROW2
  have e3 : i * 3 + 3 = (i + 1) * 3 := by omega
  have e4 : (i + 1) * 3 + (n - i) * 3 = (n + 1) * 3 := by omega
  rw [e3] at hROW1
  rw [e4] at hROW2
  have hF : Hid (ROW2.toList.take ((n + 1) * 3) = (insC q i x).flatMap chC ∧ ROW2.size = G * 3) := by
    refine Lib.hid ?_
    rw [hfl, hROW2, hROW1]
    refine ⟨hfin.1, ?_⟩
    have := hfin.2
    simp only [List.size_toArray]
    rw [this]
    simpa using hRl
  have HN := Lib.hid hn
  have HQ := Lib.hid hqn
  have HRZ := Lib.hid hrz
  have HCA := Lib.hid hcpA
  have HCB := Lib.hid hcpB
  have hz2 : ¬ ((i : Int) = (n : Int)) := by omega
  have hz3 : (cap : Int) < (n : Int) + 1 := by omega
  have hin : i ≤ n := by omega
  have hGi : ¬ (G = i) := by omega
  have hGim : ¬ (G = i + 1) := by omega
  have hci : ¬ (cap = i) := by omega
  have hb3 : (i : Int) ≤ (n : Int) := by omega
  have hw1 : IntKind.i64.wrap ((i : Int) + 1) = (i : Int) + 1 := by rw [IntKind.wrap_i64]; omega
  have hb1 : (0 : Int) ≤ (i : Int) + 1 := by omega
  have hb2 : (i : Int) + 1 ≤ (n : Int) + 1 := by omega
  have htn : ((i : Int) + 1).toNat = i + 1 := by omega
  have HA1 : Hid (((w.alloc (.cells ROW chgT)).drew).heap[w.heap.size]? = some (.cells ROW chgT (0, 0))) := heap_alloc_new w _
  have HA2 : Hid (∀ k, k < w.heap.size → ((w.alloc (.cells ROW chgT)).drew).heap[k]? = w.heap[k]?) := fun k hk => Below.heap_alloc w _ k hk
  have HB1 : Hid (((((w.alloc (.cells ROW chgT)).drew).setRow w.heap.size ROW1).drew).heap[w.heap.size]? = some (.cells ROW1 chgT (0, 0))) := setRow_heap _ _ _ _ _ _ HA1.out
  have HB2 : Hid (∀ k, k < w.heap.size → ((((w.alloc (.cells ROW chgT)).drew).setRow w.heap.size ROW1).drew).heap[k]? = w.heap[k]?) := fun k hk => (setRow_other _ _ _ _ (by omega)).trans (HA2.out k hk)
  clear hkk hik hold hROW hG hRl hrz hcpA hcpB hfin hROW1 hROW2 hRt hR1 hdl e3 e4 hn hqn hfl hC h1C hcur hcell hql hx hi0 hz0 hzs hzb
  go_enter Tryd.func52, Tryd.ntmps52
  go_wp2_with (first
    | (at_builtin; refine Lib.wpList_append_run _ rfl _ _ _ _ rfl _ _ rfl rfl _ _ (HRZ.out _) ?_)
    | (at_builtin; refine wpList_copy_runI _ rfl _ _ chsT chsT rfl _ _ rfl rfl (HCA.out _ HA1.out HA2.out _ _) ?_)
    | (refine wpList_copy_runI _ rfl _ _ chsT chsT rfl _ _ rfl rfl (HCA.out _ HA1.out HA2.out _ _) ?_))
  go_region_law (refine step_copy_runI rfl _ _ chsT chsT rfl _ _ (by simp [Act.eval, Act.put]) (by simp [Act.eval, Act.put]) (HCB.out _ HB1.out HB2.out 3 (G - (i + 1)) (cap - i)) ?_)
  go_wp2
  go_ret
  have hf := hF.out
  have hL : (((w.alloc (.cells ROW chgT)).drew.setRow w.heap.size ROW1).drew.setRow w.heap.size ROW2).heap[w.heap.size]? = some (.cells ROW2 chgT (0, 0)) := setRow_heap _ _ _ _ _ _ HB1.out
  refine ⟨.slice (some ⟨w.heap.size, 0, none⟩) (n + 1) G, rfl, ⟨flat_length _, .inr ⟨w.heap.size, G, ROW2, by rw [HN.out], hB, hL, by rw [HN.out]; exact hGn, hG63, hf.2, by rw [HN.out]; exact hf.1⟩⟩, ⟨rfl, rfl, rfl, by simp, fun k hk _ => ?_⟩, fun k hk => ?_⟩
  · exact (setRow_other _ _ _ _ (by omega)).trans (HB2.out k hk)
  · have : w.heap.size = k := Option.some.inj hk
    exact .inr (by omega)

set_option maxHeartbeats 4000000 in
set_option maxRecDepth 100000 in
theorem insert_room (w : World) (B g cap : Nat) (cur : Array Value) (q : List Chg) (i : Nat) (x : Chg) (vb : Nat) (hBg : B ≤ g) (hg : w.heap[g]? = some (.cells cur chgT (0, 0))) (hcm : cap ≤ 9223372036854775807) (hsz : cur.size = cap * 3) (hcur : cur.toList.take (q.length * 3) = q.flatMap chC) (hi : i < q.length) (hl : q.length ≤ 100000)
    (hx : Lies w vb #[.string x.key, .string x.val, .bool x.gone] chgT) (hne : vb ≠ g) (hroom : q.length + 1 ≤ cap) :
    Calls Tryd.prog 52 #[.slice (some ⟨g, 0, none⟩) q.length cap, .int .i64 i, .slice (some ⟨vb, 0, none⟩) 1 1] w (Inserted w B (.slice (some ⟨g, 0, none⟩) q.length cap) (insC q i x)) := by
  have hn : (insC q i x).length = q.length + 1 := insC_length q i x (by omega)
  have hfl := insC_flat q i x
  have hql := flat_length q
  have hxr : w.rangeAt vb 0 (chC x) := fun j u hu => by rw [hx.cell]; simpa [chC] using hu
  have hcell : ∀ j v, (q.flatMap chC)[j]? = some v → w.cell? ⟨g, j, none⟩ = some v := fun j v hj => by
    rw [← hcur, List.getElem?_take] at hj
    split at hj
    · rw [cell_of_row w g j cur chgT (0, 0) hg]; simpa using hj
    · cases hj
  obtain ⟨C, hC⟩ : ∃ C, C = q.flatMap chC := ⟨_, rfl⟩
  rw [← hC] at hcell hql hfl hcur
  obtain ⟨n, hqn⟩ : ∃ n, n = q.length := ⟨_, rfl⟩
  rw [← hqn] at hi hl hroom hn hql hcur ⊢
  have h1C : ∀ u ∈ C, u.oneCell' = true := by rw [hC]; exact flat_one q
  have hRt : cur.toList.take (i * 3) = C.take (i * 3) := by rw [← hcur, List.take_take, Nat.min_eq_left (by omega)]
  obtain ⟨ROW1, hROW1⟩ : ∃ R : Array Value, R = (cur.toList.take ((i + 1) * 3) ++ C.drop (i * 3) ++ cur.toList.drop ((i + 1) * 3 + (C.drop (i * 3)).length)).toArray := ⟨_, rfl⟩
  have hdl : (C.drop (i * 3)).length = (n - i) * 3 := by rw [List.length_drop]; omega
  have hR1 : ROW1.size = cap * 3 := by
    rw [hROW1]
    simp only [List.size_toArray, List.length_append, List.length_take, hdl, List.length_drop, Array.length_toList, hsz]
    omega
  obtain ⟨ROW2, hROW2⟩ : ∃ R : Array Value, R = (ROW1.toList.take (i * 3) ++ chC x ++ ROW1.toList.drop (i * 3 + (chC x).length)).toArray := ⟨_, rfl⟩
  have hov : ∀ (W : World), W.heap[vb]? = w.heap[vb]? → W.heap[g]? = w.heap[g]? → ∀ lb cb, (callFunc 60 #[.slice (some ⟨vb, 0, none⟩) 1 1, .slice (some ⟨g, (i + 1) * 3, none⟩) lb cb]).run Tryd.prog W = .ok (.value (.bool false)) W := fun W h1 h2 lb cb => by
    have hxW : Lies W vb #[.string x.key, .string x.val, .bool x.gone] chgT := hx.same h1
    have hgW : W.heap[g]? = some (.cells cur chgT (0, 0)) := h2.trans hg
    have hs1 : W.shape? vb = some (chgT, 3) := by
      have : W.heap[vb]? = _ := hxW
      simp [World.shape?, this]
    have hs2 : W.shape? g = some (chgT, cap * 3) := by simp [World.shape?, hgW, hsz]
    rw [run_callFunc_extern Tryd.func60 (by kernel_rfl) (by kernel_rfl) (by kernel_rfl) (e := Extern.SlicesOverlaps.overlaps #[chsT, chsT] #[4]) (by kernel_rfl),
      Lib.run_overlaps_apart W chsT 4 chgT Tryd.underlying59 3 (fun _ => by kernel_rfl) ⟨vb, 0, none⟩ ⟨g, (i + 1) * 3, none⟩ 1 1 lb cb hne chgT chgT 3 (cap * 3) hs1 hs2 (by omega) (hxW.free 0) (hxW.free 3)]
    rfl
  have hcpA : ∀ (W : World), W.heap[g]? = w.heap[g]? → ∀ ty dc sc, (Builtin.copy_ #[chsT, chsT] ty #[.slice (some ⟨g, (i + 1) * 3, none⟩) (n + 1 - (i + 1)) dc, .slice (some ⟨g, i * 3, none⟩) (n + 1 - i) sc]).run Tryd.prog W = .ok (goInt ((n - i : Nat) : Int)) (W.setRow g ROW1) := fun W h2 ty dc sc => by
    rw [hROW1]
    exact run_copy3 W chsT chsT ty Tryd.underlying59 g ((i + 1) * 3) (n + 1 - (i + 1)) dc ⟨g, i * 3, none⟩ (n + 1 - i) sc cur chgT (C.drop (i * 3)) (n - i) (by simp only [Nat.min_def]; split <;> omega) hdl (h2.trans hg)
      (fun j v hj => by rw [addr_add, World.cell?_of_block (a := ⟨g, i * 3 + j, none⟩) h2]; exact hcell _ v (by rwa [List.getElem?_drop] at hj)) (by rw [hdl]; omega) (fun u hu => h1C u (List.mem_of_mem_drop hu))
  have hcpB : ∀ (W : World), W.heap[g]? = some (.cells ROW1 chgT (0, 0)) → W.heap[vb]? = w.heap[vb]? → ∀ ty dc, (Builtin.copy_ #[chsT, chsT] ty #[.slice (some ⟨g, i * 3, none⟩) (n + 1 - i) dc, .slice (some ⟨vb, 0, none⟩) 1 1]).run Tryd.prog W = .ok (goInt 1) (W.setRow g ROW2) := fun W h1 h2 ty dc => by
    rw [hROW2]
    exact run_copy3 W chsT chsT ty Tryd.underlying59 g (i * 3) (n + 1 - i) dc ⟨vb, 0, none⟩ 1 1 ROW1 chgT (chC x) 1 (by simp only [Nat.min_def]; split <;> omega) rfl h1
      (fun j v hj => by rw [addr_add, World.cell?_of_block (a := ⟨vb, 0 + j, none⟩) h2]; exact hxr j v hj) (by rw [chC_length]; omega) (one_cell x)
  have hfin := row_behind cur.toList (C.take (i * 3)) (chC x) (C.drop (i * 3)) (i * 3) ((i + 1) * 3) ((n + 1) * 3) (by rw [List.length_take]; omega) (by rw [chC_length]; omega) (by rw [hdl]; omega) hRt (by simp; omega)
  rw [chC_length] at hROW2
  rw [hdl] at hROW1
  have e3 : i * 3 + 3 = (i + 1) * 3 := by omega
  have e4 : (i + 1) * 3 + (n - i) * 3 = (n + 1) * 3 := by omega
  rw [e3] at hROW2
  rw [e4] at hROW1
  have hF : Hid (ROW2.toList.take ((n + 1) * 3) = (insC q i x).flatMap chC ∧ ROW2.size = cap * 3) := by
    refine Lib.hid ?_
    rw [hfl, hROW2, hROW1]
    refine ⟨hfin.1, ?_⟩
    have := hfin.2
    simp only [List.size_toArray]
    rw [this]
    simpa using hsz
  have HN := Lib.hid hn
  have HQ := Lib.hid hqn
  have HOV := Lib.hid hov
  have HCA := Lib.hid hcpA
  have HCB := Lib.hid hcpB
  have HG := Lib.hid hg
  have hz2 : ¬ ((i : Int) = (n : Int)) := by omega
  have hz3 : ¬ ((cap : Int) < (n : Int) + 1) := by omega
  have hin : i ≤ n := by omega
  have hci : ¬ (cap = i) := by omega
  have hcj : ¬ (cap = i + 1) := by omega
  have hb3 : (i : Int) ≤ (n : Int) + 1 := by omega
  have hw1 : IntKind.i64.wrap ((i : Int) + 1) = (i : Int) + 1 := by rw [IntKind.wrap_i64]; omega
  have hb1 : (0 : Int) ≤ (i : Int) + 1 := by omega
  have hb2 : (i : Int) + 1 ≤ (n : Int) + 1 := by omega
  have htn : ((i : Int) + 1).toNat = i + 1 := by omega
  have HB1 : Hid ((w.drew.setRow g ROW1).heap[g]? = some (.cells ROW1 chgT (0, 0))) := setRow_heap w.drew g cur _ chgT _ hg
  have HB2 : Hid ((w.drew.setRow g ROW1).heap[vb]? = w.heap[vb]?) := setRow_other w.drew g vb _ hne
  clear hcpA hcpB hfin hROW1 hROW2 hRt hR1 hdl e3 e4 hn hqn hfl hC h1C hcur hcell hql hx hxr hov hg hsz
  go_enter Tryd.func52, Tryd.ntmps52
  have hov2 := HOV.out w rfl rfl
  go_wp2_with (simp only [hov2])
  clear hov2
  go_region_law (refine step_copy_runI rfl _ _ chsT chsT rfl _ _ (by simp [Act.eval, Act.put]) (by simp [Act.eval, Act.put]) (HCA.out w.drew rfl 3 (cap - (i + 1)) (cap - i)) ?_)
  go_wp2_with (refine wpList_copy_runI _ rfl _ _ chsT chsT rfl _ _ rfl rfl (HCB.out _ HB1.out HB2.out _ _) ?_)
  go_ret
  have hf := hF.out
  have hL : ((w.drew.setRow g ROW1).setRow g ROW2).heap[g]? = some (.cells ROW2 chgT (0, 0)) := setRow_heap _ _ _ _ _ _ HB1.out
  refine ⟨.slice (some ⟨g, 0, none⟩) (n + 1) cap, rfl, ⟨flat_length _, .inr ⟨g, cap, ROW2, by rw [HN.out], hBg, hL, by rw [HN.out]; exact hroom, hcm, hf.2, by rw [HN.out]; exact hf.1⟩⟩, ⟨rfl, rfl, rfl, by simp, fun k _ hk => ?_⟩, fun k hk => .inl hk⟩
  have hkg : k ≠ g := fun e => hk (by rw [e]; rfl)
  exact (setRow_other _ _ _ _ hkg).trans (setRow_other _ _ _ _ hkg)

/-- slices.Insert: one change at a place. -/
theorem insert_any (w : World) (B : Nat) (v : Value) (q : List Chg) (i : Nat) (x : Chg) (vb : Nat) (ho : w.ownsRow B chgT 3 v q.length (q.flatMap chC)) (hi : i ≤ q.length) (hl : q.length ≤ 100000) (hB : B ≤ w.heap.size)
    (hx : Lies w vb #[.string x.key, .string x.val, .bool x.gone] chgT) (hne : ∀ k, v.ownBlock = some k → k ≠ vb) :
    Calls Tryd.prog 52 #[v, .int .i64 i, .slice (some ⟨vb, 0, none⟩) 1 1] w (Inserted w B v (insC q i x)) := by
  have hxr : w.rangeAt vb 0 (chC x) := fun j u hu => by rw [hx.cell]; simpa [chC] using hu
  by_cases he : i = q.length
  · subst he
    have e : insC q q.length x = q ++ [x] := by unfold insC; simp
    rw [e]
    exact insert_end w B v q x vb ho hl hB hxr
  · rcases ho.2 with ⟨rfl, h0⟩ | ⟨g, cap, cur, rfl, h1, h2, h3, h4, h5, h6⟩
    · omega
    · unfold maxLen at h4
      by_cases hr : q.length + 1 ≤ cap
      · exact insert_room w B g cap cur q i x vb h1 h2 h4 h5 h6 (by omega) hl hx (fun e => hne g rfl e.symm) hr
      · exact insert_grow w B g cap cur q i x vb h1 h2 h3 h4 h6 (by omega) hl hB hxr hx.lt (by omega)
end Go.Proofs.YtkbeppmjdjddhaaDoor.Batch
