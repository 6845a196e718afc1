/-
  A call, done to both disks: Cut, Fill.
-/
import Derived.Test.YtebiebbbkdbffaaDiskDoes
import Derived.Deep.RegionHeld3
import Derived.Laws.Small
namespace Go.Proofs.Ytebiebbbkdbffaa.Disk
open Go Go.RowKit
open Go.Proofs.Ytebiebbbkdbffaa.Sha (Kept wp_region_drawn_tail wp_region_kept_tail quiet_load_row)

section
variable {w : World} {d : Dk} {B : Nat} {S : St}
set_option maxRecDepth 100000 in
set_option maxHeartbeats 4000000 in
theorem does_cut (lv cv : Value) (a : Act) (h : Both w d B lv cv S) (ha : OkA w d a)  (hk : a.kind = 2) :
    Calls Try.prog 10 #[ptr d.pb, qV S lv cv, actV a] w fun e w' => ∃ lv' cv', e = .returned (.tuple #[qV (cutS S a.n) lv' cv', .bool true]) ∧ DoneB w d B lv cv (cutS S a.n) w' lv' cv' := by
  obtain ⟨la, lc, rfl⟩ := owns_slice h.q.l
  obtain ⟨ca, cc, rfl⟩ := owns_slice h.q.c
  obtain ⟨ka, kc, hkv, -⟩ := ha.reads.shape
  have HH := Lib.hid h
  have HA := Lib.hid ha
  have hb3 : ∀ o o' o'', Below w.heap.size w (((w.alloc o).alloc o').alloc o'') := fun o o' o'' => (boxes o o').alloc (by simp; omega) o''
  obtain ⟨kind, at_, n, fill, short, is, kv, ks⟩ := a
  obtain rfl : kind = 2 := hk
  obtain rfl : kv = .slice ka ks.length kc := hkv
  have HS := Lib.hid (sector_any (((w.alloc (.cells (qC S (.slice la S.dur.length lc) (.slice ca S.cache.length cc)) qT)).alloc (.cells #[.int .i64 2, .int .i64 at_, .int .i64 n, .int .u8 fill, .bool short, .bool is, .slice ka ks.length kc] actT)).alloc (.cells zQ qT)) ⟨2, at_, n, fill, short, is, .slice ka ks.length kc, ks⟩ ka ks.length kc S.z rfl h.is.ok.low h.is.ok.most ha.fill)
  clear h ha
  go_enter Try.func10, Try.ntmps10
  go_wp2_with fail
  refine HS.out.mono ?_
  rintro e w1 ⟨s, rfl, hs, hb1⟩
  have L0 : Lies w1 w.heap.size (qC S (.slice la S.dur.length lc) (.slice ca S.cache.length cc)) qT := (((Lies.new w _ _).same (Below.heap_alloc _ _ _ (by simp))).same (Below.heap_alloc _ _ _ (by simp; omega))).same (hb1.block _ (by simp; omega))
  have L1 : Lies w1 (w.heap.size + 1) #[.int .i64 2, .int .i64 at_, .int .i64 n, .int .u8 fill, .bool short, .bool is, .slice ka ks.length kc] actT := ((show Lies _ (w.heap.size + 1) _ _ from new_at (w := w.alloc (.cells (qC S (.slice la S.dur.length lc) (.slice ca S.cache.length cc)) qT)) (by simp)).same (Below.heap_alloc _ _ _ (by simp))).same (hb1.block _ (by simp))
  have L2 : Lies w1 (w.heap.size + 1 + 1) zQ qT := (show Lies _ (w.heap.size + 1 + 1) _ _ from new_at (by simp)).same (hb1.block _ (by simp))
  have hb0 : Below w.heap.size w w1 := (hb3 _ _ _).trans (hb1.mono (by simp; omega))
  have HB0 := Lib.hid hb0
  have HH1 := Lib.hid (HH.out.below hb0)
  have HL := Lib.hid (And.intro L0 (And.intro L1 L2))
  have HNO : Hid (∀ k, w.heap.size ≤ k → ¬ own d k) := fun k hk e => by have := (HH.out.is.own_lt e).1; omega
  obtain ⟨q0, q1, q2, q3, q4, q5, q6⟩ := seven L0
  obtain ⟨a0, a1, a2, a3, a4, a5, a6⟩ := seven L1
  have hlt := L2.lt
  have hs0 := hb0.size
  clear hb1 hb0 L0 L1 L2 hb3
  have HC := Lib.hid (cutIs_any HH1.out.is n HA.out.n.1 HA.out.n.2)
  have HP : Hid (∀ w2, Left w1 d (cutS S n) w2 → ∃ d', Both w2 d' B (.slice la S.dur.length lc) (.slice ca S.cache.length cc) (cutS S n) ∧ Step w1 d w2 d' ∧ ∀ k, own d' k → own d k ∨ w1.heap.size ≤ k) := fun w2 hl =>
    HH1.out.thenQ hl fun cv2 hq _ _ => ⟨Below.refl _ _, ⟨hq.l, hq.c⟩, New.refl _ _, New.refl _ _⟩
  go_wp2_with fail
  refine HC.out.mono ?_
  rintro e w2 ⟨rfl, hl⟩
  obtain ⟨d', hB', hS', hO'⟩ := HP.out w2 hl
  obtain ⟨cv2, _, hst⟩ := hl
  have L0 : Lies w2 w.heap.size (qC S (.slice la S.dur.length lc) (.slice ca S.cache.length cc)) qT := HL.out.1.same (hst.fr.block _ HL.out.1.lt (HNO.out _ (Nat.le_refl _)))
  have L1 : Lies w2 (w.heap.size + 1) _ actT := HL.out.2.1.same (hst.fr.block _ HL.out.2.1.lt (HNO.out _ (by omega)))
  have L2 : Lies w2 (w.heap.size + 1 + 1) zQ qT := HL.out.2.2.same (hst.fr.block _ HL.out.2.2.lt (HNO.out _ (by omega)))
  have HL4 : Hid (Lies (w2.setCell ⟨w.heap.size, 3, none⟩ (.int .i64 (max n 0))) w.heap.size (qC (cutS S n) (.slice la S.dur.length lc) (.slice ca S.cache.length cc)) qT) := by
    have hmx : ((n.toNat : Nat) : Int) = max n 0 := by omega
    have h9 := L0.set 3 (.int .i64 (max n 0))
    rw [← hmx] at h9 ⊢
    exact h9
  have HR4 : Hid (Lies (w2.setCell ⟨w.heap.size, 3, none⟩ (.int .i64 (max n 0))) (w.heap.size + 1 + 1) zQ qT) := L2.other _ (by omega)
  have HE : Hid (DoneB w d B (.slice la S.dur.length lc) (.slice ca S.cache.length cc) (cutS S n) ((w2.setCell ⟨w.heap.size, 3, none⟩ (.int .i64 (max n 0))).setRow (w.heap.size + 1 + 1) (qC (cutS S n) (.slice la S.dur.length lc) (.slice ca S.cache.length cc))) (.slice la S.dur.length lc) (.slice ca S.cache.length cc)) :=
    doneB_frame (F := fun k => k = w.heap.size ∨ k = w.heap.size + 1 + 1) (w1 := w1) HH.out hB' ((Step.of_below d HB0.out).trans hS') HB0.out.size (New.refl _ _) (New.refl _ _) (fun k hk => by omega)
      ((Fr.mono (Fr.one w2 w.heap.size 3 (.int .i64 (max n 0))) fun _ _ e => .inl e).trans (Fr.mono (F' := fun k => k = w.heap.size ∨ k = w.heap.size + 1 + 1) (Fr.row _ _ _) fun _ _ e => .inr e) fun _ _ e => e) hO'
  obtain ⟨a0, a1, a2, a3, a4, a5, a6⟩ := seven L1
  have qv := L0.cell 3
  have qv : w2.cell? ⟨w.heap.size, 3, none⟩ = some (.int .i64 S.left) := qv
  have qf := L0.free 3
  clear hB' hS' hO' hst L0 L1 L2 q0 q1 q2 q3 q4 q5 q6
  go_wp2_with (first
    | (refine wpList_load_row rfl 33 (.tmp 4) rfl w.heap.size rfl qT (qC (cutS S n) (.slice la S.dur.length lc) (.slice ca S.cache.length cc)) (0, 0) _ HL4.out Try.underlying33 rfl sizeQ ?_)
    | (refine wpList_store_row rfl 33 (.tmp 6) (.tmp 109) rfl (w.heap.size + 1 + 1) (qC (cutS S n) (.slice la S.dur.length lc) (.slice ca S.cache.length cc)) rfl rfl qT _ HR4.out sizeQ rfl (qC_one _ _ _ _ _ _ _) ?_))
  exact bodyPost_ret (v := .tuple #[qV (cutS S n) (.slice la S.dur.length lc) (.slice ca S.cache.length cc), .bool true]) (results_row2 Try.results10 _ _ (w.heap.size + 1 + 1) qT _ (0, 0) _ rfl (HR4.out.setRow _) Try.underlying33 rfl sizeQ) rfl ⟨_, _, rfl, HE.out⟩
set_option maxRecDepth 100000 in
set_option maxHeartbeats 4000000 in
theorem does_fill (lv cv : Value) (a : Act) (h : Both w d B lv cv S) (ha : OkA w d a)  (hk : a.kind = 3) :
    Calls Try.prog 10 #[ptr d.pb, qV S lv cv, actV a] w fun e w' => ∃ lv' cv', e = .returned (.tuple #[qV (fillS S a.is) lv' cv', .bool true]) ∧ DoneB w d B lv cv (fillS S a.is) w' lv' cv' := by
  obtain ⟨la, lc, rfl⟩ := owns_slice h.q.l
  obtain ⟨ca, cc, rfl⟩ := owns_slice h.q.c
  obtain ⟨ka, kc, hkv, -⟩ := ha.reads.shape
  have HH := Lib.hid h
  have HA := Lib.hid ha
  have hb3 : ∀ o o' o'', Below w.heap.size w (((w.alloc o).alloc o').alloc o'') := fun o o' o'' => (boxes o o').alloc (by simp; omega) o''
  obtain ⟨kind, at_, n, fill, short, is, kv, ks⟩ := a
  obtain rfl : kind = 3 := hk
  obtain rfl : kv = .slice ka ks.length kc := hkv
  have HS := Lib.hid (sector_any (((w.alloc (.cells (qC S (.slice la S.dur.length lc) (.slice ca S.cache.length cc)) qT)).alloc (.cells #[.int .i64 3, .int .i64 at_, .int .i64 n, .int .u8 fill, .bool short, .bool is, .slice ka ks.length kc] actT)).alloc (.cells zQ qT)) ⟨3, at_, n, fill, short, is, .slice ka ks.length kc, ks⟩ ka ks.length kc S.z rfl h.is.ok.low h.is.ok.most ha.fill)
  clear h ha
  go_enter Try.func10, Try.ntmps10
  go_wp2_with fail
  refine HS.out.mono ?_
  rintro e w1 ⟨s, rfl, hs, hb1⟩
  have L0 : Lies w1 w.heap.size (qC S (.slice la S.dur.length lc) (.slice ca S.cache.length cc)) qT := (((Lies.new w _ _).same (Below.heap_alloc _ _ _ (by simp))).same (Below.heap_alloc _ _ _ (by simp; omega))).same (hb1.block _ (by simp; omega))
  have L1 : Lies w1 (w.heap.size + 1) #[.int .i64 3, .int .i64 at_, .int .i64 n, .int .u8 fill, .bool short, .bool is, .slice ka ks.length kc] actT := ((show Lies _ (w.heap.size + 1) _ _ from new_at (w := w.alloc (.cells (qC S (.slice la S.dur.length lc) (.slice ca S.cache.length cc)) qT)) (by simp)).same (Below.heap_alloc _ _ _ (by simp))).same (hb1.block _ (by simp))
  have L2 : Lies w1 (w.heap.size + 1 + 1) zQ qT := (show Lies _ (w.heap.size + 1 + 1) _ _ from new_at (by simp)).same (hb1.block _ (by simp))
  have hb0 : Below w.heap.size w w1 := (hb3 _ _ _).trans (hb1.mono (by simp; omega))
  have HB0 := Lib.hid hb0
  have HH1 := Lib.hid (HH.out.below hb0)
  have HL := Lib.hid (And.intro L0 (And.intro L1 L2))
  have HNO : Hid (∀ k, w.heap.size ≤ k → ¬ own d k) := fun k hk e => by have := (HH.out.is.own_lt e).1; omega
  obtain ⟨q0, q1, q2, q3, q4, q5, q6⟩ := seven L0
  obtain ⟨a0, a1, a2, a3, a4, a5, a6⟩ := seven L1
  have hlt := L2.lt
  have hs0 := hb0.size
  clear hb1 hb0 L0 L1 L2 hb3
  have HC := Lib.hid (fillIs_any HH1.out.is is)
  have HP : Hid (∀ w2, Left w1 d (fillS S is) w2 → ∃ d', Both w2 d' B (.slice la S.dur.length lc) (.slice ca S.cache.length cc) (fillS S is) ∧ Step w1 d w2 d' ∧ ∀ k, own d' k → own d k ∨ w1.heap.size ≤ k) := fun w2 hl =>
    HH1.out.thenQ hl fun cv2 hq _ _ => ⟨Below.refl _ _, ⟨hq.l, hq.c⟩, New.refl _ _, New.refl _ _⟩
  go_wp2_with fail
  refine HC.out.mono ?_
  rintro e w2 ⟨rfl, hl⟩
  obtain ⟨d', hB', hS', hO'⟩ := HP.out w2 hl
  obtain ⟨cv2, _, hst⟩ := hl
  have L0 : Lies w2 w.heap.size (qC S (.slice la S.dur.length lc) (.slice ca S.cache.length cc)) qT := HL.out.1.same (hst.fr.block _ HL.out.1.lt (HNO.out _ (Nat.le_refl _)))
  have L1 : Lies w2 (w.heap.size + 1) _ actT := HL.out.2.1.same (hst.fr.block _ HL.out.2.1.lt (HNO.out _ (by omega)))
  have L2 : Lies w2 (w.heap.size + 1 + 1) zQ qT := HL.out.2.2.same (hst.fr.block _ HL.out.2.2.lt (HNO.out _ (by omega)))
  have HL4 : Hid (Lies (w2.setCell ⟨w.heap.size, 5, none⟩ (.bool is)) w.heap.size (qC (fillS S is) (.slice la S.dur.length lc) (.slice ca S.cache.length cc)) qT) := L0.set 5 _
  have HR4 : Hid (Lies (w2.setCell ⟨w.heap.size, 5, none⟩ (.bool is)) (w.heap.size + 1 + 1) zQ qT) := L2.other _ (by omega)
  have HE : Hid (DoneB w d B (.slice la S.dur.length lc) (.slice ca S.cache.length cc) (fillS S is) ((w2.setCell ⟨w.heap.size, 5, none⟩ (.bool is)).setRow (w.heap.size + 1 + 1) (qC (fillS S is) (.slice la S.dur.length lc) (.slice ca S.cache.length cc))) (.slice la S.dur.length lc) (.slice ca S.cache.length cc)) :=
    doneB_frame (F := fun k => k = w.heap.size ∨ k = w.heap.size + 1 + 1) (w1 := w1) HH.out hB' ((Step.of_below d HB0.out).trans hS') HB0.out.size (New.refl _ _) (New.refl _ _) (fun k hk => by omega)
      ((Fr.mono (Fr.one w2 w.heap.size 5 (.bool is)) fun _ _ e => .inl e).trans (Fr.mono (F' := fun k => k = w.heap.size ∨ k = w.heap.size + 1 + 1) (Fr.row _ _ _) fun _ _ e => .inr e) fun _ _ e => e) hO'
  obtain ⟨a0, a1, a2, a3, a4, a5, a6⟩ := seven L1
  have qv := L0.cell 5
  have qv : w2.cell? ⟨w.heap.size, 5, none⟩ = some (.bool S.full) := qv
  have qf := L0.free 5
  clear hB' hS' hO' hst L0 L1 L2 q0 q1 q2 q3 q4 q5 q6
  go_wp2_with (first
    | (refine wpList_load_row rfl 33 (.tmp 4) rfl w.heap.size rfl qT (qC (fillS S is) (.slice la S.dur.length lc) (.slice ca S.cache.length cc)) (0, 0) _ HL4.out Try.underlying33 rfl sizeQ ?_)
    | (refine wpList_store_row rfl 33 (.tmp 6) (.tmp 109) rfl (w.heap.size + 1 + 1) (qC (fillS S is) (.slice la S.dur.length lc) (.slice ca S.cache.length cc)) rfl rfl qT _ HR4.out sizeQ rfl (qC_one _ _ _ _ _ _ _) ?_))
  exact bodyPost_ret (v := .tuple #[qV (fillS S is) (.slice la S.dur.length lc) (.slice ca S.cache.length cc), .bool true]) (results_row2 Try.results10 _ _ (w.heap.size + 1 + 1) qT _ (0, 0) _ rfl (HR4.out.setRow _) Try.underlying33 rfl sizeQ) rfl ⟨_, _, rfl, HE.out⟩
end
end Go.Proofs.Ytebiebbbkdbffaa.Disk
