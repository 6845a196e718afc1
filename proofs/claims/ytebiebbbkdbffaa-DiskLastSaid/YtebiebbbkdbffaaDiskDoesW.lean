/-
  A call, done to both disks: a Write.
-/
import Derived.Test.YtebiebbbkdbffaaDiskDoes
import Derived.Deep.RegionHeld3
namespace Go.Proofs.Ytebiebbbkdbffaa.Disk
open Go Go.RowKit
open Go.Proofs.Ytebiebbbkdbffaa.Sha (Kept wp_region_drawn_tail wp_region_kept_tail quiet_load_row)

section
variable {w : World} {d : Dk} {B : Nat} {S : St}
set_option maxRecDepth 100000 in
set_option maxHeartbeats 4000000 in
theorem does_write (lv cv : Value) (a : Act) (h : Both w d B lv cv S) (ha : OkA w d a) (hn : S.ops < 1000000) (hk : a.kind = 0) :
    Calls Try.prog 10 #[ptr d.pb, qV S lv cv, actV a] w fun e w' => ∃ s lv' cv', e = .returned (.tuple #[qV (putS S a.at_ s).1 lv' cv', .bool true]) ∧ DoneB w d B lv cv (putS S a.at_ s).1 w' lv' cv' := by
  obtain ⟨la, lc, rfl⟩ := owns_slice h.q.l
  obtain ⟨ca, cc, rfl⟩ := owns_slice h.q.c
  obtain ⟨ka, kc, hkv, -⟩ := ha.reads.shape
  have HH := Lib.hid h
  have hb3 : ∀ o o' o'', Below w.heap.size w (((w.alloc o).alloc o').alloc o'') := fun o o' o'' => (boxes o o').alloc (by simp; omega) o''
  obtain ⟨kind, at_, n, fill, short, is, kv, ks⟩ := a
  obtain rfl : kind = 0 := hk
  obtain rfl : kv = .slice ka ks.length kc := hkv
  have HS := Lib.hid (sector_any (((w.alloc (.cells (qC S (.slice la S.dur.length lc) (.slice ca S.cache.length cc)) qT)).alloc (.cells #[.int .i64 0, .int .i64 at_, .int .i64 n, .int .u8 fill, .bool short, .bool is, .slice ka ks.length kc] actT)).alloc (.cells zQ qT)) ⟨0, at_, n, fill, short, is, .slice ka ks.length kc, ks⟩ ka ks.length kc S.z rfl h.is.ok.low h.is.ok.most ha.fill)
  clear h ha
  go_enter Try.func10, Try.ntmps10
  go_wp2_with fail
  refine HS.out.mono ?_
  rintro e w1 ⟨s, rfl, hs, hb1⟩
  have L0 : Lies w1 w.heap.size (qC S (.slice la S.dur.length lc) (.slice ca S.cache.length cc)) qT := (((Lies.new w _ _).same (Below.heap_alloc _ _ _ (by simp))).same (Below.heap_alloc _ _ _ (by simp; omega))).same (hb1.block _ (by simp; omega))
  have L1 : Lies w1 (w.heap.size + 1) #[.int .i64 0, .int .i64 at_, .int .i64 n, .int .u8 fill, .bool short, .bool is, .slice ka ks.length kc] actT := ((show Lies _ (w.heap.size + 1) _ _ from new_at (w := w.alloc (.cells (qC S (.slice la S.dur.length lc) (.slice ca S.cache.length cc)) qT)) (by simp)).same (Below.heap_alloc _ _ _ (by simp))).same (hb1.block _ (by simp))
  have L2 : Lies w1 (w.heap.size + 1 + 1) zQ qT := (show Lies _ (w.heap.size + 1 + 1) _ _ from new_at (by simp)).same (hb1.block _ (by simp))
  have hb0 : Below w.heap.size w w1 := (hb3 _ _ _).trans (hb1.mono (by simp; omega))
  have HB0 := Lib.hid hb0
  have HH1 := Lib.hid (HH.out.below hb0)
  have HP := Lib.hid (putQ_any w1 B (.slice la S.dur.length lc) (.slice ca S.cache.length cc) S at_ s HH1.out.q HH.out.is.ok hn HH1.out.le)
  have HL := Lib.hid (And.intro L0 (And.intro L1 L2))
  obtain ⟨q0, q1, q2, q3, q4, q5, q6⟩ := seven L0
  obtain ⟨a0, a1, a2, a3, a4, a5, a6⟩ := seven L1
  have hlt := L2.lt
  clear hb1 hb0 L0 L1 L2 hb3
  go_wp2_with fail
  refine HP.out.mono ?_
  rintro e w2 ⟨lv', cv', rfl, hQ⟩
  obtain ⟨la', lc', rfl⟩ := owns_slice hQ.q.l
  obtain ⟨ca', cc', rfl⟩ := owns_slice hQ.q.c
  have hs2 := hQ.below.size
  have HD : Hid (∀ m, Calls Try.prog 19 #[ptr d.pb, .int .i64 at_, .string s] ((w2.alloc (.cells (qC (putS S at_ s).1 (.slice la' (putS S at_ s).1.dur.length lc') (.slice ca' (putS S at_ s).1.cache.length cc')) qT)).drewN m) fun e w3 => e = .returned (.int .i64 (putS S at_ s).2) ∧
      Lies w3 w2.heap.size (qC (putS S at_ s).1 (.slice la' (putS S at_ s).1.dur.length lc') (.slice ca' (putS S at_ s).1.cache.length cc')) qT ∧ w3.cell? ⟨w.heap.size + 1, 1, none⟩ = some (.int .i64 at_) ∧ Lies w3 (w.heap.size + 1 + 1) zQ qT ∧
      ∃ d', Both w3 d' B (.slice la' (putS S at_ s).1.dur.length lc') (.slice ca' (putS S at_ s).1.cache.length cc') (putS S at_ s).1 ∧ Step w d w3 d' ∧ ∀ k, own d' k → own d k ∨ w2.heap.size ≤ k) := fun m => by
    have hbm : Below w2.heap.size w2 ((w2.alloc (.cells (qC (putS S at_ s).1 (.slice la' (putS S at_ s).1.dur.length lc') (.slice ca' (putS S at_ s).1.cache.length cc')) qT)).drewN m) := below_drewN ((Below.refl _ _).alloc (Nat.le_refl _) _) m
    have hb13 := hQ.below.trans (hbm.mono hs2)
    refine (write_any (HH1.out.is.below hb13) at_ s hn).mono fun e w3 hh => ?_
    obtain ⟨rfl, hl⟩ := hh
    obtain ⟨d', hB', hS', hO'⟩ := HH1.out.then hQ hbm hl
    obtain ⟨cv2, _, hst⟩ := hl
    have hno : ∀ k, w.heap.size ≤ k → ¬ own d k := fun k hk e => by have := (HH.out.is.own_lt e).1; omega
    have hlw := HL.out.2.2.lt
    have hsm := hbm.size
    have hw01 := HB0.out.size
    refine ⟨rfl, ?_, ?_, ?_, d', hB', (Step.of_below d HB0.out).trans hS', fun k hk => (hO' k hk).imp id fun e => Nat.le_trans hsm e⟩
    · exact ((Lies.new w2 _ _).drewN m).same (hst.fr.block _ ((Lies.new w2 _ _).drewN m).lt (hno _ (by omega)))
    · have h5 : Lies _ (w.heap.size + 1) _ actT := (HL.out.2.1.same (hb13.block _ (by omega))).same (hst.fr.block _ (by omega) (hno _ (by omega)))
      exact h5.cell 1
    · exact (HL.out.2.2.same (hb13.block _ (by omega))).same (hst.fr.block _ (by omega) (hno _ (by omega)))
  have HQ := Lib.hid hQ
  have HNO : Hid (∀ k, w.heap.size ≤ k → ¬ own d k) := fun k hk e => by have := (HH.out.is.own_lt e).1; omega
  have a1' : w2.cell? ⟨w.heap.size + 1, 1, none⟩ = some (.int .i64 at_) := (hQ.below.cell (p := ⟨w.heap.size + 1, 1, none⟩) (by show w.heap.size + 1 < _; omega)).trans a1
  have hlt2 : w.heap.size + 1 + 1 < w2.heap.size := by omega
  have hR : Lies w2 (w.heap.size + 1 + 1) zQ qT := HL.out.2.2.same (hQ.below.block _ hlt)
  have hRf := fun o j => (hR.same (Below.heap_alloc w2 o _ hlt2)).free j
  obtain ⟨z0, z1, z2, z3, z4, z5, z6⟩ := seven hR
  clear hQ hR HP q0 q1 q2 q3 q4 q5 q6 a0 a1 a2 a3 a4 a5 a6
  generalize hP : putS S at_ s = P at HD HQ
  obtain ⟨⟨z', dur', cache', left', full', off', ops'⟩, code⟩ := P
  have HPE := Lib.hid hP
  clear hP
  go_wp2_with fail
  have hw2 : w.heap.size + 1 < w2.heap.size := by omega
  go_region_held3 (fun W => W.cell? ⟨w2.heap.size, 0, none⟩ = some (.int .i64 z') ∧ W.cell? ⟨w2.heap.size, 1, none⟩ = some (.slice la' dur'.length lc') ∧ W.cell? ⟨w2.heap.size, 2, none⟩ = some (.slice ca' cache'.length cc') ∧ W.cell? ⟨w2.heap.size, 3, none⟩ = some (.int .i64 left') ∧
      W.cell? ⟨w2.heap.size, 4, none⟩ = some (.bool off') ∧ W.cell? ⟨w2.heap.size, 5, none⟩ = some (.bool full') ∧ W.cell? ⟨w2.heap.size, 6, none⟩ = some (.int .i64 ops') ∧ W.cell? ⟨w.heap.size + 1, 1, none⟩ = some (.int .i64 at_))
    (first | go_keep | (all_goals (first | assumption | (rw [hq2]; assumption) | (rw [hq1]; assumption))))
    ((go_at_call 19; refine (HD.out 1).mono ?_; rintro r w3 ⟨rfl, hX, hA, hZ, hD⟩; obtain ⟨x0, x1, x2, x3, x4, x5, x6⟩ := seven hX; obtain ⟨y0, y1, y2, y3, y4, y5, y6⟩ := seven hZ; have hzf := fun j => hZ.free j; have hq2 := fun j : Nat => cell_fill7 w3 (w.heap.size + 1 + 1) w2.heap.size j (.int .i64 z') (.slice la' dur'.length lc') (.slice ca' cache'.length cc') (.int .i64 left') (.bool off') (.bool full') (.int .i64 ops') (by omega); have hq1 := fun j : Nat => cell_fill7 w3 (w.heap.size + 1 + 1) (w.heap.size + 1) j (.int .i64 z') (.slice la' dur'.length lc') (.slice ca' cache'.length cc') (.int .i64 left') (.bool off') (.bool full') (.int .i64 ops') (by omega); simp only [fill7] at hq1 hq2; have HDD := Lib.hid hD; have HZZ := Lib.hid hZ; clear hD hX hZ))
  have HF := Lib.hid (And.intro (HZZ.out.fill7 (.int .i64 z') (.slice la' dur'.length lc') (.slice ca' cache'.length cc') (.int .i64 left') (.bool off') (.bool full') (.int .i64 ops')) (Fr.fill7 w3 (w.heap.size + 1 + 1) (.int .i64 z') (.slice la' dur'.length lc') (.slice ca' cache'.length cc') (.int .i64 left') (.bool off') (.bool full') (.int .i64 ops')))
  obtain ⟨d', hB', hS', hO'⟩ := HDD.out
  have HE : Hid (DoneB w d B (.slice la S.dur.length lc) (.slice ca S.cache.length cc) ⟨z', dur', cache', left', full', off', ops'⟩ (fill7 w3 (w.heap.size + 1 + 1) (.int .i64 z') (.slice la' dur'.length lc') (.slice ca' cache'.length cc') (.int .i64 left') (.bool off') (.bool full') (.int .i64 ops')) (.slice la' dur'.length lc') (.slice ca' cache'.length cc')) :=
    doneB_fill HH.out hB' hS' HB0.out.size HQ.out.l HQ.out.c (by omega) hlt HF.out.2 (fun e => by
      rcases hO' _ e with e | e
      · exact HNO.out _ (by omega) e
      · omega)
  clear hB' hS' hO' HDD
  go_wp2_with fail
  exact bodyPost_ret (v := .tuple #[qV ⟨z', dur', cache', left', full', off', ops'⟩ (.slice la' dur'.length lc') (.slice ca' cache'.length cc'), .bool true]) (results_row2 Try.results10 _ _ (w.heap.size + 1 + 1) qT _ (0, 0) _ rfl HF.out.1 Try.underlying33 rfl sizeQ) rfl ⟨s, .slice la' dur'.length lc', .slice ca' cache'.length cc', by rw [HPE.out], by rw [HPE.out]; exact HE.out⟩
end
end Go.Proofs.Ytebiebbbkdbffaa.Disk
