/-
  Walks of the law DiskPlays.
-/
import Derived.Test.YtebiebbbkdbffaaLawP
namespace Go.Proofs.Ytebiebbbkdbffaa.Disk
open Go Go.RowKit
open Go.Proofs.Ytebiebbbkdbffaa.Sha (Kept wp_region_drawn_tail wp_region_kept_tail quiet_load_row)

set_option maxRecDepth 100000 in
set_option maxHeartbeats 4000000 in
theorem diskPlays_any (g0 g1 : Int) (v : Value) (es : List Act) (w : World) (h : ReadsA w v es) (ho : ∀ a ∈ es, OkL w a) (hm : es.length ≤ 9223372036854775807) :
    Calls Try.prog 3 #[.agg #[.int .i64 g0, .int .i64 g1], v] w fun e w' => e = .returned (.bool true) ∧ Below w.heap.size w w' := by
  have HW := Lib.hid works_any
  obtain ⟨va, cap, rfl, hsh⟩ := h.shape
  have HL := Lib.hid hsh
  have HO := Lib.hid ho
  clear h ho hsh
  have hbg : Below w.heap.size w (w.alloc (.cells #[.int .i64 g0, .int .i64 g1] 22)) := (Below.refl _ _).alloc (Nat.le_refl _) _
  have HBG := Lib.hid hbg
  have HRT := Lib.hid (fun W => right_any W g0 g1)
  by_cases hr : 4 ≤ g0 ∧ g0 ≤ 4096 ∧ 16 ≤ g1 ∧ g1 ≤ 256
  · rw [decide_eq_true hr] at HRT
    obtain ⟨n, rfl⟩ := Int.eq_ofNat_of_zero_le (show 0 ≤ g0 by omega)
    obtain ⟨z, rfl⟩ := Int.eq_ofNat_of_zero_le (show 0 ≤ g1 by omega)
    have HN := Lib.hid (new_any (w.alloc (.cells #[.int .i64 n, .int .i64 z] 22)) n z (by omega) (by omega) (by omega) (by omega))
    by_cases h12 : 12 < n
    · clear hr hbg
      go_enter Try.func3, Try.ntmps3
      go_wp2_with fail
      refine HN.out.mono ?_
      rintro e w1 ⟨d0, rfl, hI, hB, hb⟩
      have hg : Lies w1 w.heap.size #[.int .i64 n, .int .i64 z] 22 := (Lies.new w _ _).same (hb.block _ (by simp))
      have x0 : w1.cell? ⟨w.heap.size, 0, none⟩ = some (.int .i64 n) := hg.cell 0
      have x1 : w1.cell? ⟨w.heap.size, 1, none⟩ = some (.int .i64 z) := hg.cell 1
      have H1 := Lib.hid (HBG.out.trans (hb.mono (by simp)))
      clear hI hB hb hg
      go_wp2_with fail
      refine (HRT.out w1).mono ?_
      rintro e w1' ⟨rfl, rfl⟩
      go_wp2_with fail
      refine (HW.out w1).mono ?_
      rintro e w2 ⟨rfl, hb2⟩
      have H2 := Lib.hid (H1.out.trans (hb2.mono H1.out.size))
      clear hb2
      go_wp2_with fail
      go_ret
      exact ⟨rfl, H2.out⟩
    · have HNQ := Lib.hid (fun W => newQ_any W n z (by omega) (by omega))
      have hn4 : 4 ≤ n := by omega
      clear hr hbg
      go_enter Try.func3, Try.ntmps3
      go_wp2_with fail
      refine HN.out.mono ?_
      rintro e w1 ⟨d0, rfl, hI, hB, hb⟩
      have hg : Lies w1 w.heap.size #[.int .i64 n, .int .i64 z] 22 := (Lies.new w _ _).same (hb.block _ (by simp))
      have x0 : w1.cell? ⟨w.heap.size, 0, none⟩ = some (.int .i64 n) := hg.cell 0
      have x1 : w1.cell? ⟨w.heap.size, 1, none⟩ = some (.int .i64 z) := hg.cell 1
      have H1 := Lib.hid (And.intro (HBG.out.trans (hb.mono (by simp))) (And.intro hI (show w.heap.size ≤ d0.B by rw [hB]; simp)))
      clear hI hB hb hg
      go_wp2_with fail
      refine (HRT.out w1).mono ?_
      rintro e w1' ⟨rfl, rfl⟩
      go_wp2_with fail
      refine (HNQ.out w1).mono ?_
      rintro e w2 ⟨lv0, cv0, rfl, hQ, hb2⟩
      obtain ⟨la0, lc0, rfl⟩ := owns_slice hQ.l
      obtain ⟨ca0, cc0, rfl⟩ := owns_slice hQ.c
      have HST := Lib.hid (AtB.start H1.out.2.1 H1.out.2.2 H1.out.1 hQ hb2)
      clear hQ hb2 x0 x1
      go_wp2_with fail
      go_loopw [8] (fun i wr => ∃ (k : Nat) (d : Dk) (lv cv : Value) (S : St), k ≤ es.length ∧ k ≤ 60 ∧ i = .int .i64 k ∧ AtB w d0 w2.heap.size n z k wr d w1.heap.size lv cv S) (fun i _ => es.length - (intOf i).toNat)
      case atStart => exact ⟨0, d0, _, _, _, Nat.zero_le _, by omega, rfl, HST.out⟩
      case round =>
        obtain ⟨k, d, lv, cv, S, hk, hk60, rfl, hM⟩ := hrel
        obtain ⟨la, lc, rfl⟩ := owns_slice hM.both.q.l
        obtain ⟨ca, cc, rfl⟩ := owns_slice hM.both.q.c
        obtain ⟨z', dur, cache, left, full, off, ops⟩ := S
        have HM := Lib.hid hM
        clear hM
        by_cases hlt : k < es.length ∧ k < 60
        · obtain ⟨a, ha⟩ : ∃ a, es[k]? = some a := ⟨es[k], List.getElem?_eq_getElem hlt.1⟩
          obtain ⟨b, of, rfl, hbl, hra⟩ := HL.out (by omega)
          have HOA := Lib.hid (HO.out a (List.mem_of_getElem? ha))
          have h1 := hlt.1
          have h2 := hlt.2
          have hkI : (k : Int) < (es.length : Int) := by omega
          have HDX := Lib.hid (fun (W : World) (hb : Below wr.heap.size wr W) => HM.out.does (HO.out a (List.mem_of_getElem? ha)) (by omega) (by omega) hb)
          have HBL := Lib.hid (fun (W : World) (hb : Below w.heap.size w W) => lies7 (hra k a ha) hbl hb)
          obtain ⟨s0, s1, s2, s3, s4, s5, s6⟩ := seven (show Lies wr w2.heap.size #[.int .i64 z', .slice la dur.length lc, .slice ca cache.length cc, .int .i64 left, .bool off, .bool full, .int .i64 ops] qT from HM.out.box)
          obtain ⟨a0, a1, a2, a3, a4, a5, a6⟩ := HBL.out wr HM.out.below
          have HLT := Lib.hid (And.intro (show w2.heap.size ≠ wr.heap.size by have := HM.out.box.lt; omega) (show b ≠ wr.heap.size by have := HM.out.below.size; omega))
          have HDA : Hid (Calls Try.prog 10 #[ptr d0.pb, .agg #[.int .i64 z', .slice la dur.length lc, .slice ca cache.length cc, .int .i64 left, .bool off, .bool full, .int .i64 ops], .agg #[.int .i64 a.kind, .int .i64 a.at_, .int .i64 a.n, .int .u8 a.fill, .bool a.short, .bool a.is, a.kv]] wr.drew _) := HDX.out wr.drew (Below.refl wr.heap.size wr).drew
          have HZN := Lib.hid (((Lies.new wr zQ qT).drewN 1))
          have HDB : Hid (Calls Try.prog 10 #[ptr d0.pb, .agg #[.int .i64 z', .slice la dur.length lc, .slice ca cache.length cc, .int .i64 left, .bool off, .bool full, .int .i64 ops], .agg #[.int .i64 a.kind, .int .i64 a.at_, .int .i64 a.n, .int .u8 a.fill, .bool a.short, .bool a.is, a.kv]] (wr.alloc (.cells zQ qT)).drew _) := HDX.out (wr.alloc (.cells zQ qT)).drew ((Below.refl wr.heap.size wr).alloc (Nat.le_refl _) _).drew
          clear hlt ha hra
          go_wp2_with fail
          go_region_held3 (fun W => W.cell? ⟨w2.heap.size, 0, none⟩ = some (.int .i64 z') ∧ W.cell? ⟨w2.heap.size, 1, none⟩ = some (.slice la dur.length lc) ∧ W.cell? ⟨w2.heap.size, 2, none⟩ = some (.slice ca cache.length cc) ∧ W.cell? ⟨w2.heap.size, 3, none⟩ = some (.int .i64 left) ∧ W.cell? ⟨w2.heap.size, 4, none⟩ = some (.bool off) ∧ W.cell? ⟨w2.heap.size, 5, none⟩ = some (.bool full) ∧ W.cell? ⟨w2.heap.size, 6, none⟩ = some (.int .i64 ops) ∧
              W.cell? ⟨b, of + k * 7, none⟩ = some (.int .i64 a.kind) ∧ W.cell? ⟨b, of + k * 7 + 1, none⟩ = some (.int .i64 a.at_) ∧ W.cell? ⟨b, of + k * 7 + 2, none⟩ = some (.int .i64 a.n) ∧ W.cell? ⟨b, of + k * 7 + 3, none⟩ = some (.int .u8 a.fill) ∧ W.cell? ⟨b, of + k * 7 + 4, none⟩ = some (.bool a.short) ∧ W.cell? ⟨b, of + k * 7 + 5, none⟩ = some (.bool a.is) ∧ W.cell? ⟨b, of + k * 7 + 6, none⟩ = some a.kv)
            (first | ((repeat' refine And.intro ?_ ?_) <;> (first | (with_reducible assumption) | (rw [hq2]; with_reducible assumption) | (rw [hq1]; with_reducible assumption) | ((with_reducible refine cellAl ?_ _); with_reducible assumption) | ((with_reducible refine cellAlD ?_ _); with_reducible assumption) | ((with_reducible refine cellDr ?_); with_reducible assumption) | (trace_state; fail))))
            ((go_at_call 10; first | ((with_reducible refine HDA.out.mono ?_); rintro r w3 ⟨z2, la', dur2, lc', ca', cache2, cc', left2, off2, full2, ops2, rfl, hdo, h5, h6, h7, hbox, hbw, hsz, hnew⟩; obtain ⟨s0', s1', s2', s3', s4', s5', s6'⟩ := seven (show Lies w3 w2.heap.size #[.int .i64 z', .slice la dur.length lc, .slice ca cache.length cc, .int .i64 left, .bool off, .bool full, .int .i64 ops] qT from hbox); obtain ⟨a0', a1', a2', a3', a4', a5', a6'⟩ := HBL.out w3 hbw; have HN := Lib.hid (And.intro hdo (And.intro h5 (And.intro h6 (And.intro h7 (And.intro hbox (And.intro hbw hsz)))))); clear hdo h5 h6 h7 hbox hbw hsz hnew) | ((with_reducible refine HDB.out.mono ?_); rintro r w3 ⟨z2, la', dur2, lc', ca', cache2, cc', left2, off2, full2, ops2, rfl, hdo, h5, h6, h7, hbox, hbw, hsz, hnew⟩; obtain ⟨s0', s1', s2', s3', s4', s5', s6'⟩ := seven (show Lies w3 w2.heap.size #[.int .i64 z', .slice la dur.length lc, .slice ca cache.length cc, .int .i64 left, .bool off, .bool full, .int .i64 ops] qT from hbox); obtain ⟨a0', a1', a2', a3', a4', a5', a6'⟩ := HBL.out w3 hbw; have HN := Lib.hid (And.intro hdo (And.intro h5 (And.intro h6 (And.intro h7 (And.intro hbox (And.intro hbw hsz)))))); have hZ := hnew _ _ _ (Nat.le_refl _) HZN.out; obtain ⟨y0, y1, y2, y3, y4, y5, y6⟩ := seven hZ; have hzf := fun j => hZ.free j; have Hz := Lib.hid hZ; have hq2 := fun j : Nat => cell_fill7 w3 wr.heap.size (w2.heap.size) j (.int .i64 z2) (.slice la' dur2.length lc') (.slice ca' cache2.length cc') (.int .i64 left2) (.bool off2) (.bool full2) (.int .i64 ops2) HLT.out.1; have hq1 := fun j : Nat => cell_fill7 w3 wr.heap.size b j (.int .i64 z2) (.slice la' dur2.length lc') (.slice ca' cache2.length cc') (.int .i64 left2) (.bool off2) (.bool full2) (.int .i64 ops2) HLT.out.2; simp only [fill7] at hq1 hq2; clear hdo h5 h6 h7 hbox hbw hsz hnew hZ)))
          · have hf : Fr (fun k => k = w3.heap.size) w3 (w3.alloc (.cells #[(.int .i64 z2), .slice la' dur2.length lc', .slice ca' cache2.length cc', (.int .i64 left2), .bool off2, .bool full2, .int .i64 ops2] qT)) := (Fr.refl _ _).alloc _
            have HN4 := Lib.hid (HM.out.next2 (nb := w3.heap.size) (Below.refl wr.heap.size wr).drew HN.out.1 HN.out.2.1 HN.out.2.2.1 HN.out.2.2.2.1 hf (by have := HN.out.2.2.2.2.2.2; simpa using this) (.inr (Nat.le_refl _)))
            have HBX := Lib.hid (HN.out.2.2.2.2.1.same (hf.block _ HN.out.2.2.2.2.1.lt (by have := HN.out.2.2.2.2.1.lt; omega)))
            obtain ⟨t0, t1, t2, t3, t4, t5, t6⟩ := seven (Lies.new w3 #[(.int .i64 z2), .slice la' dur2.length lc', .slice ca' cache2.length cc', (.int .i64 left2), .bool off2, .bool full2, .int .i64 ops2] qT)
            generalize w3.alloc (.cells #[(.int .i64 z2), .slice la' dur2.length lc', .slice ca' cache2.length cc', (.int .i64 left2), .bool off2, .bool full2, .int .i64 ops2] qT) = W4 at HN4 HBX t0 t1 t2 t3 t4 t5 t6 ⊢
            clear hf HN s0 s1 s2 s3 s4 s5 s6 a0 a1 a2 a3 a4 a5 a6 s0' s1' s2' s3' s4' s5' s6' a0' a1' a2' a3' a4' a5' a6'
            obtain ⟨d', hN⟩ := HN4.out
            have Hn := Lib.hid hN
            have hsm := same_any (.slice la' dur2.length lc') (.slice ca' cache2.length cc') hN.both (by show 0 < dur2.length; have : dur2.length = n := hN.len; omega)
            rw [hN.pb] at hsm
            have HSM := Lib.hid hsm
            obtain ⟨s0, s1, s2, s3, s4, s5, s6⟩ := seven (show Lies _ w2.heap.size #[.int .i64 z2, .slice la' dur2.length lc', .slice ca' cache2.length cc', .int .i64 left2, .bool off2, .bool full2, .int .i64 ops2] qT from hN.box)
            clear hsm hN
            go_wp2_with (refine wpList_store_row rfl 33 (.tmp 7) (.tmp 79) rfl w2.heap.size (qC ⟨z2, dur2, cache2, left2, full2, off2, ops2⟩ (.slice la' dur2.length lc') (.slice ca' cache2.length cc')) rfl rfl qT _ HBX.out sizeQ rfl (qC_one _ _ _ _ _ _ _) ?_)
            refine HSM.out.mono ?_
            rintro r w6 ⟨rfl, hb6⟩
            have HN6 := Lib.hid (Hn.out.on hb6)
            clear hb6 s0 s1 s2 s3 s4 s5 s6
            go_wp2_with fail
            go_roundw
            case rel => exact ⟨k + 1, d', _, _, _, by omega, by omega, by simp, HN6.out⟩
            case measure => simp [intOf]; omega
          · have hf := Fr.fill7 w3 wr.heap.size (.int .i64 z2) (.slice la' dur2.length lc') (.slice ca' cache2.length cc') (.int .i64 left2) (.bool off2) (.bool full2) (.int .i64 ops2)
            have HN4 := Lib.hid (HM.out.next2 (nb := wr.heap.size) ((Below.refl wr.heap.size wr).alloc (Nat.le_refl _) _).drew HN.out.1 HN.out.2.1 HN.out.2.2.1 HN.out.2.2.2.1 hf (Nat.le_refl _) (.inl (by simp)))
            have HBX := Lib.hid (HN.out.2.2.2.2.1.same (hf.block _ HN.out.2.2.2.2.1.lt HLT.out.1))
            obtain ⟨t0, t1, t2, t3, t4, t5, t6⟩ := seven (Hz.out.fill7 (.int .i64 z2) (.slice la' dur2.length lc') (.slice ca' cache2.length cc') (.int .i64 left2) (.bool off2) (.bool full2) (.int .i64 ops2))
            simp only [fill7] at HN4 HBX t0 t1 t2 t3 t4 t5 t6
            generalize World.setCell _ ⟨wr.heap.size, 6, none⟩ (.int .i64 (ops2 : Int)) = W4 at HN4 HBX t0 t1 t2 t3 t4 t5 t6 ⊢
            clear hf HN s0 s1 s2 s3 s4 s5 s6 a0 a1 a2 a3 a4 a5 a6 s0' s1' s2' s3' s4' s5' s6' a0' a1' a2' a3' a4' a5' a6' hq1 hq2 y0 y1 y2 y3 y4 y5 y6 hzf Hz
            obtain ⟨d', hN⟩ := HN4.out
            have Hn := Lib.hid hN
            have hsm := same_any (.slice la' dur2.length lc') (.slice ca' cache2.length cc') hN.both (by show 0 < dur2.length; have : dur2.length = n := hN.len; omega)
            rw [hN.pb] at hsm
            have HSM := Lib.hid hsm
            obtain ⟨s0, s1, s2, s3, s4, s5, s6⟩ := seven (show Lies _ w2.heap.size #[.int .i64 z2, .slice la' dur2.length lc', .slice ca' cache2.length cc', .int .i64 left2, .bool off2, .bool full2, .int .i64 ops2] qT from hN.box)
            clear hsm hN
            go_wp2_with (refine wpList_store_row rfl 33 (.tmp 7) (.tmp 79) rfl w2.heap.size (qC ⟨z2, dur2, cache2, left2, full2, off2, ops2⟩ (.slice la' dur2.length lc') (.slice ca' cache2.length cc')) rfl rfl qT _ HBX.out sizeQ rfl (qC_one _ _ _ _ _ _ _) ?_)
            refine HSM.out.mono ?_
            rintro r w6 ⟨rfl, hb6⟩
            have HN6 := Lib.hid (Hn.out.on hb6)
            clear hb6 s0 s1 s2 s3 s4 s5 s6
            go_wp2_with fail
            go_roundw
            case rel => exact ⟨k + 1, d', _, _, _, by omega, by omega, by simp, HN6.out⟩
            case measure => simp [intOf]; omega
        · have hsm := same_any (.slice la dur.length lc) (.slice ca cache.length cc) HM.out.both (by show 0 < dur.length; have : dur.length = n := HM.out.len; omega)
          rw [HM.out.pb] at hsm
          have HSM := Lib.hid hsm
          obtain ⟨s0, s1, s2, s3, s4, s5, s6⟩ := seven (show Lies _ w2.heap.size #[.int .i64 z', .slice la dur.length lc, .slice ca cache.length cc, .int .i64 left, .bool off, .bool full, .int .i64 ops] qT from HM.out.box)
          rcases (show ¬ k < es.length ∨ (k < es.length ∧ ¬ k < 60) by omega) with hg | ⟨hg, hg2⟩
          all_goals
            clear hlt hsm
            go_wp2_with fail
            refine HSM.out.mono ?_
            rintro r w6 ⟨rfl, hb6⟩
            have H6 := Lib.hid (HM.out.below.trans (hb6.mono HM.out.below.size))
            clear hb6
            go_wp2_with fail
            refine (HW.out w6).mono ?_
            rintro r w7 ⟨rfl, hb7⟩
            have H7 := Lib.hid (H6.out.trans (hb7.mono H6.out.size))
            clear hb7
            go_wp2_with fail
            go_ret
            exact ⟨rfl, H7.out⟩
  · rw [decide_eq_false hr] at HRT
    have HN := Lib.hid (new_bad (w.alloc (.cells #[.int .i64 g0, .int .i64 g1] 22)) g0 g1 (by omega))
    clear hr hbg
    go_enter Try.func3, Try.ntmps3
    go_wp2_with fail
    refine HN.out.mono ?_
    rintro e w1 ⟨rfl, rfl⟩
    go_wp2_with fail
    refine (HRT.out _).mono ?_
    rintro e w1' ⟨rfl, rfl⟩
    go_wp2_with fail
    refine (HW.out _).mono ?_
    rintro e w2 ⟨rfl, hb2⟩
    have H2 := Lib.hid (HBG.out.trans (hb2.mono HBG.out.size))
    clear hb2
    go_wp2_with fail
    go_ret
    exact ⟨rfl, H2.out⟩
end Go.Proofs.Ytebiebbbkdbffaa.Disk
