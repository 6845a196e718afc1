/-
  A call, done to both disks: a Crash, a Read.
-/
import Derived.Test.YtebiebbbkdbffaaDiskDoes
import Derived.Deep.RegionHeld3
import Derived.Laws.Small
namespace Go.Proofs.Ytebiebbbkdbffaa.Disk
open Go Go.RowKit
open Go.Proofs.Ytebiebbbkdbffaa.Sha (Kept wp_region_drawn_tail wp_region_kept_tail quiet_load_row)

section
variable {w : World} {d : Dk} {B : Nat} {S : St}
set_option maxRecDepth 100000 in
set_option maxHeartbeats 4000000 in
theorem does_crash (lv cv : Value) (a : Act) (h : Both w d B lv cv S) (ha : OkA w d a) (hpos : 0 < S.dur.length) (hk : a.kind = 4) :
    Calls Try.prog 10 #[ptr d.pb, qV S lv cv, actV a] w fun e w' => ∃ lv' cv', e = .returned (.tuple #[qV (crashS S a.ks a.n) lv' cv', .bool true]) ∧ DoneB w d B lv cv (crashS S a.ks a.n) w' lv' cv' := by
  obtain ⟨la, lc, rfl⟩ := owns_slice h.q.l
  obtain ⟨ca, cc, rfl⟩ := owns_slice h.q.c
  obtain ⟨ka, kc, hkv, -⟩ := ha.reads.shape
  have HH := Lib.hid h
  have HA := Lib.hid ha
  have hb3 : ∀ o o' o'', Below w.heap.size w (((w.alloc o).alloc o').alloc o'') := fun o o' o'' => (boxes o o').alloc (by simp; omega) o''
  obtain ⟨kind, at_, n, fill, short, is, kv, ks⟩ := a
  obtain rfl : kind = 4 := hk
  obtain rfl : kv = .slice ka ks.length kc := hkv
  have HS := Lib.hid (sector_any (((w.alloc (.cells (qC S (.slice la S.dur.length lc) (.slice ca S.cache.length cc)) qT)).alloc (.cells #[.int .i64 4, .int .i64 at_, .int .i64 n, .int .u8 fill, .bool short, .bool is, .slice ka ks.length kc] actT)).alloc (.cells zQ qT)) ⟨4, at_, n, fill, short, is, .slice ka ks.length kc, ks⟩ ka ks.length kc S.z rfl h.is.ok.low h.is.ok.most ha.fill)
  clear h ha
  go_enter Try.func10, Try.ntmps10
  go_wp2_with fail
  refine HS.out.mono ?_
  rintro e w1 ⟨s, rfl, hs, hb1⟩
  have L0 : Lies w1 w.heap.size (qC S (.slice la S.dur.length lc) (.slice ca S.cache.length cc)) qT := (((Lies.new w _ _).same (Below.heap_alloc _ _ _ (by simp))).same (Below.heap_alloc _ _ _ (by simp; omega))).same (hb1.block _ (by simp; omega))
  have L1 : Lies w1 (w.heap.size + 1) #[.int .i64 4, .int .i64 at_, .int .i64 n, .int .u8 fill, .bool short, .bool is, .slice ka ks.length kc] actT := ((show Lies _ (w.heap.size + 1) _ _ from new_at (w := w.alloc (.cells (qC S (.slice la S.dur.length lc) (.slice ca S.cache.length cc)) qT)) (by simp)).same (Below.heap_alloc _ _ _ (by simp))).same (hb1.block _ (by simp))
  have L2 : Lies w1 (w.heap.size + 1 + 1) zQ qT := (show Lies _ (w.heap.size + 1 + 1) _ _ from new_at (by simp)).same (hb1.block _ (by simp))
  have hb0 : Below w.heap.size w w1 := (hb3 _ _ _).trans (hb1.mono (by simp; omega))
  have HB0 := Lib.hid hb0
  have HH1 := Lib.hid (HH.out.below hb0)
  have HL := Lib.hid (And.intro L0 (And.intro L1 L2))
  have HNO : Hid (∀ k, w.heap.size ≤ k → ¬ own d k) := fun k hk e => by have := (HH.out.is.own_lt e).1; omega
  obtain ⟨q0, q1, q2, q3, q4, q5, q6⟩ := seven L0
  obtain ⟨a0, a1, a2, a3, a4, a5, a6⟩ := seven L1
  have hlt := L2.lt
  have hs0 := hb0.size
  clear hb1 hb0 L0 L1 L2 hb3
  have hfar := HA.out.far
  have HC := Lib.hid (crash_any HH1.out.is (.slice ka ks.length kc) ks n (HA.out.reads.below HB0.out) HA.out.len)
  go_wp2_with fail
  refine HC.out.mono ?_
  rintro e w2 ⟨rfl, hl⟩
  have HLF := Lib.hid hl
  obtain ⟨cv2, hI2, hst⟩ := hl
  have L0 : Lies w2 w.heap.size (qC S (.slice la S.dur.length lc) (.slice ca S.cache.length cc)) qT := HL.out.1.same (hst.fr.block _ HL.out.1.lt (HNO.out _ (Nat.le_refl _)))
  have L1 : Lies w2 (w.heap.size + 1) _ actT := HL.out.2.1.same (hst.fr.block _ HL.out.2.1.lt (HNO.out _ (by omega)))
  have L2 : Lies w2 (w.heap.size + 1 + 1) zQ qT := HL.out.2.2.same (hst.fr.block _ HL.out.2.2.lt (HNO.out _ (by omega)))
  have hq2 : IsQ w2 B (.slice la S.dur.length lc) (.slice ca S.cache.length cc) S := ⟨Fr.owns HH1.out.q.l hst.fr HH.out.al, Fr.owns HH1.out.q.c hst.fr HH.out.ac⟩
  have hr2 : ReadsK w2 (.slice ka ks.length kc) ks := (HA.out.reads.below HB0.out).keep (HH1.out.is.stepBelow hst) HA.out.far
  have hs2 := hst.fr.size
  have HQC := Lib.hid (crashQ_any w2 B (.slice la S.dur.length lc) (.slice ca S.cache.length cc) (.slice ka ks.length kc) S ks n hq2 HH.out.is.ok hr2 HA.out.len (Nat.le_trans HH1.out.le hs2) hpos)
  have HL2 := Lib.hid (And.intro L0 L2)
  obtain ⟨q0, q1, q2, q3, q4, q5, q6⟩ := seven L0
  obtain ⟨a0, a1, a2, a3, a4, a5, a6⟩ := seven L1
  clear hst hI2 L0 L1 L2 hq2 hr2 hfar
  go_wp2_with fail
  refine HQC.out.mono ?_
  rintro e w3 ⟨lv', cv', rfl, hQ⟩
  obtain ⟨la', lc', rfl⟩ := owns_slice hQ.q.l
  obtain ⟨ca', cc', rfl⟩ := owns_slice hQ.q.c
  obtain ⟨d', hB', hS', hO'⟩ := HH1.out.thenQ (w2 := w3) HLF.out fun cv2 hq _ _ => ⟨hQ.below, hQ.q, fun k hk => (hQ.l k hk).imp id fun e => e, fun k hk => (hQ.c k hk).imp id fun e => e⟩
  generalize hP : crashS S ks n = P at hQ hB'
  obtain ⟨z', dur', cache', left', full', off', ops'⟩ := P
  have HPE := Lib.hid hP
  have L0 : Lies w3 w.heap.size (qC S (.slice la S.dur.length lc) (.slice ca S.cache.length cc)) qT := HL2.out.1.same (hQ.below.block _ HL2.out.1.lt)
  have L2 : Lies w3 (w.heap.size + 1 + 1) zQ qT := HL2.out.2.same (hQ.below.block _ HL2.out.2.lt)
  have HX0 := Lib.hid L0
  have HL4 : Hid (Lies (w3.setRow w.heap.size (qC ⟨z', dur', cache', left', full', off', ops'⟩ (.slice la' dur'.length lc') (.slice ca' cache'.length cc'))) w.heap.size (qC ⟨z', dur', cache', left', full', off', ops'⟩ (.slice la' dur'.length lc') (.slice ca' cache'.length cc')) qT) := L0.setRow _
  have HR4 : Hid (Lies (w3.setRow w.heap.size (qC ⟨z', dur', cache', left', full', off', ops'⟩ (.slice la' dur'.length lc') (.slice ca' cache'.length cc'))) (w.heap.size + 1 + 1) zQ qT) := L2.row_other _ (by omega)
  have HE : Hid (DoneB w d B (.slice la S.dur.length lc) (.slice ca S.cache.length cc) ⟨z', dur', cache', left', full', off', ops'⟩ ((w3.setRow w.heap.size (qC ⟨z', dur', cache', left', full', off', ops'⟩ (.slice la' dur'.length lc') (.slice ca' cache'.length cc'))).setRow (w.heap.size + 1 + 1) (qC ⟨z', dur', cache', left', full', off', ops'⟩ (.slice la' dur'.length lc') (.slice ca' cache'.length cc'))) (.slice la' dur'.length lc') (.slice ca' cache'.length cc')) :=
    doneB_frame (F := fun k => k = w.heap.size ∨ k = w.heap.size + 1 + 1) (w1 := w1) HH.out hB' ((Step.of_below d HB0.out).trans hS') HB0.out.size (fun k hk => (hQ.l k hk).imp id fun e => Nat.le_trans hs2 e) (fun k hk => (hQ.c k hk).imp id fun e => Nat.le_trans hs2 e) (fun k hk => by omega)
      ((Fr.mono (Fr.row w3 w.heap.size _) fun _ _ e => .inl e).trans (Fr.mono (F' := fun k => k = w.heap.size ∨ k = w.heap.size + 1 + 1) (Fr.row _ _ _) fun _ _ e => .inr e) fun _ _ e => e) hO'
  clear hB' hS' hO' hQ L0 L2 hP q0 q1 q2 q3 q4 q5 q6
  go_wp2_with (first
    | (refine wpList_store_row rfl 33 (.tmp 4) (.tmp 108) rfl w.heap.size (qC ⟨z', dur', cache', left', full', off', ops'⟩ (.slice la' dur'.length lc') (.slice ca' cache'.length cc')) rfl rfl qT _ HX0.out sizeQ rfl (qC_one _ _ _ _ _ _ _) ?_)
    | (refine wpList_load_row rfl 33 (.tmp 4) rfl w.heap.size rfl qT (qC ⟨z', dur', cache', left', full', off', ops'⟩ (.slice la' dur'.length lc') (.slice ca' cache'.length cc')) (0, 0) _ HL4.out Try.underlying33 rfl sizeQ ?_)
    | (refine wpList_store_row rfl 33 (.tmp 6) (.tmp 109) rfl (w.heap.size + 1 + 1) (qC ⟨z', dur', cache', left', full', off', ops'⟩ (.slice la' dur'.length lc') (.slice ca' cache'.length cc')) rfl rfl qT _ HR4.out sizeQ rfl (qC_one _ _ _ _ _ _ _) ?_))
  exact bodyPost_ret (v := .tuple #[qV ⟨z', dur', cache', left', full', off', ops'⟩ (.slice la' dur'.length lc') (.slice ca' cache'.length cc'), .bool true]) (results_row2 Try.results10 _ _ (w.heap.size + 1 + 1) qT _ (0, 0) _ rfl (HR4.out.setRow _) Try.underlying33 rfl sizeQ) rfl ⟨.slice la' dur'.length lc', .slice ca' cache'.length cc', by rw [HPE.out], by rw [HPE.out]; exact HE.out⟩
set_option maxRecDepth 100000 in
set_option maxHeartbeats 4000000 in
theorem does_read (lv cv : Value) (a : Act) (h : Both w d B lv cv S) (ha : OkA w d a)  (hk0 : a.kind ≠ 0) (hk1 : a.kind ≠ 1) (hk2 : a.kind ≠ 2) (hk3 : a.kind ≠ 3) (hk4 : a.kind ≠ 4) :
    Calls Try.prog 10 #[ptr d.pb, qV S lv cv, actV a] w fun e w' => ∃ lv' cv', e = .returned (.tuple #[qV S lv' cv', .bool true]) ∧ DoneB w d B lv cv S w' lv' cv' := by
  obtain ⟨la, lc, rfl⟩ := owns_slice h.q.l
  obtain ⟨ca, cc, rfl⟩ := owns_slice h.q.c
  obtain ⟨ka, kc, hkv, -⟩ := ha.reads.shape
  have HH := Lib.hid h
  have HA := Lib.hid ha
  have hb3 : ∀ o o' o'', Below w.heap.size w (((w.alloc o).alloc o').alloc o'') := fun o o' o'' => (boxes o o').alloc (by simp; omega) o''
  obtain ⟨kind, at_, n, fill, short, is, kv, ks⟩ := a
  have e0 : (kind == 0) = false := by simp; exact hk0
  have e1 : (kind == 1) = false := by simp; exact hk1
  have e2 : (kind == 2) = false := by simp; exact hk2
  have e3 : (kind == 3) = false := by simp; exact hk3
  have e4 : (kind == 4) = false := by simp; exact hk4
  clear hk0 hk1 hk2 hk3 hk4
  obtain rfl : kv = .slice ka ks.length kc := hkv
  have HS := Lib.hid (sector_any (((w.alloc (.cells (qC S (.slice la S.dur.length lc) (.slice ca S.cache.length cc)) qT)).alloc (.cells #[.int .i64 kind, .int .i64 at_, .int .i64 n, .int .u8 fill, .bool short, .bool is, .slice ka ks.length kc] actT)).alloc (.cells zQ qT)) ⟨kind, at_, n, fill, short, is, .slice ka ks.length kc, ks⟩ ka ks.length kc S.z rfl h.is.ok.low h.is.ok.most ha.fill)
  clear h ha
  go_enter Try.func10, Try.ntmps10
  go_wp2_with fail
  refine HS.out.mono ?_
  rintro e w1 ⟨s, rfl, hs, hb1⟩
  have L0 : Lies w1 w.heap.size (qC S (.slice la S.dur.length lc) (.slice ca S.cache.length cc)) qT := (((Lies.new w _ _).same (Below.heap_alloc _ _ _ (by simp))).same (Below.heap_alloc _ _ _ (by simp; omega))).same (hb1.block _ (by simp; omega))
  have L1 : Lies w1 (w.heap.size + 1) #[.int .i64 kind, .int .i64 at_, .int .i64 n, .int .u8 fill, .bool short, .bool is, .slice ka ks.length kc] actT := ((show Lies _ (w.heap.size + 1) _ _ from new_at (w := w.alloc (.cells (qC S (.slice la S.dur.length lc) (.slice ca S.cache.length cc)) qT)) (by simp)).same (Below.heap_alloc _ _ _ (by simp))).same (hb1.block _ (by simp))
  have L2 : Lies w1 (w.heap.size + 1 + 1) zQ qT := (show Lies _ (w.heap.size + 1 + 1) _ _ from new_at (by simp)).same (hb1.block _ (by simp))
  have hb0 : Below w.heap.size w w1 := (hb3 _ _ _).trans (hb1.mono (by simp; omega))
  have HB0 := Lib.hid hb0
  have HH1 := Lib.hid (HH.out.below hb0)
  have HL := Lib.hid (And.intro L0 (And.intro L1 L2))
  have HNO : Hid (∀ k, w.heap.size ≤ k → ¬ own d k) := fun k hk e => by have := (HH.out.is.own_lt e).1; omega
  obtain ⟨q0, q1, q2, q3, q4, q5, q6⟩ := seven L0
  obtain ⟨a0, a1, a2, a3, a4, a5, a6⟩ := seven L1
  have hlt := L2.lt
  have hs0 := hb0.size
  clear hb1 hb0 L0 L1 L2 hb3
  have HC := Lib.hid (readIs_any HH1.out.is at_)
  have HQ := Lib.hid (readQ_any w1 B (.slice la S.dur.length lc) (.slice ca S.cache.length cc) S at_ HH1.out.q HH.out.is.ok)
  go_wp2_with fail
  refine HC.out.mono ?_
  rintro e w1' ⟨rfl, rfl⟩
  go_wp2_with fail
  refine HQ.out.mono ?_
  rintro e w2 ⟨rfl, hb2⟩
  have HL4 : Hid (Lies w2 w.heap.size (qC S (.slice la S.dur.length lc) (.slice ca S.cache.length cc)) qT) := HL.out.1.same (hb2.block _ HL.out.1.lt)
  have HR4 : Hid (Lies w2 (w.heap.size + 1 + 1) zQ qT) := HL.out.2.2.same (hb2.block _ HL.out.2.2.lt)
  have HE : Hid (DoneB w d B (.slice la S.dur.length lc) (.slice ca S.cache.length cc) S (w2.setRow (w.heap.size + 1 + 1) (qC S (.slice la S.dur.length lc) (.slice ca S.cache.length cc))) (.slice la S.dur.length lc) (.slice ca S.cache.length cc)) :=
    doneB_frame (F := fun k => k = w.heap.size + 1 + 1) (w1 := w1) HH.out (HH1.out.below hb2) (Step.of_below d (HB0.out.trans (hb2.mono hs0))) HB0.out.size (New.refl _ _) (New.refl _ _) (fun k hk => by omega) (Fr.row _ _ _) (fun k hk => .inl hk)
  clear hb2 q0 q1 q2 q3 q4 q5 q6 a0 a1 a2 a3 a4 a5 a6
  go_wp2_with (first
    | (refine wpList_load_row rfl 33 (.tmp 4) rfl w.heap.size rfl qT (qC S (.slice la S.dur.length lc) (.slice ca S.cache.length cc)) (0, 0) _ HL4.out Try.underlying33 rfl sizeQ ?_)
    | (refine wpList_store_row rfl 33 (.tmp 6) (.tmp 37) rfl (w.heap.size + 1 + 1) (qC S (.slice la S.dur.length lc) (.slice ca S.cache.length cc)) rfl rfl qT _ HR4.out sizeQ rfl (qC_one _ _ _ _ _ _ _) ?_))
  exact bodyPost_ret (v := .tuple #[qV S (.slice la S.dur.length lc) (.slice ca S.cache.length cc), .bool true]) (results_row2 Try.results10 _ _ (w.heap.size + 1 + 1) qT _ (0, 0) _ rfl (HR4.out.setRow _) Try.underlying33 rfl sizeQ) rfl ⟨_, _, rfl, HE.out⟩
end
end Go.Proofs.Ytebiebbbkdbffaa.Disk
