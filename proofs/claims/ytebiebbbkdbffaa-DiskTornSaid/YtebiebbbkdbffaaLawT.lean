/-
  Walks of the law DiskTorn.
-/
import Derived.Test.YtebiebbbkdbffaaLawP
import Derived.Test.YtebiebbbkdbffaaDiskPlainB
namespace Go.Proofs.Ytebiebbbkdbffaa.Disk
open Go Go.RowKit
open Go.Proofs.Ytebiebbbkdbffaa.Sha (Kept wp_region_drawn_tail wp_region_kept_tail quiet_load_row)

set_option maxRecDepth 100000 in
set_option maxHeartbeats 1200000 in
theorem diskTorn_any (v kv : Value) (es : List Act) (ks : List Bool) (torn : Int) (w : World) (h : ReadsA w v es) (ho : ∀ a ∈ es, OkL w a) (hm : es.length ≤ 9223372036854775807) (hk : ReadsK w kv ks) (hkl : ks.length ≤ 9223372036854775807) :
    Calls Try.prog 5 #[v, kv, .int .i64 torn] w fun e w' => e = .returned (.bool true) ∧ Below w.heap.size w w' := by
  have HW := Lib.hid works_any
  obtain ⟨va, cap, rfl, hsh⟩ := h.shape
  obtain ⟨ka, kc, rfl, _⟩ := hk.shape
  have HL := Lib.hid hsh
  have HO := Lib.hid ho
  have HK := Lib.hid hk
  clear h ho hsh hk
  have HNQ := Lib.hid (fun W => newQ_any W 8 16 (by omega) (by omega))
  have HN := Lib.hid (fun W => new_any W 8 16 (by omega) (by omega) (by omega) (by omega))
  go_enter Try.func5, Try.ntmps5
  go_wp2_with fail
  refine (HW.out w).mono ?_
  rintro e w0 ⟨rfl, hb0⟩
  have H0 := Lib.hid hb0
  clear hb0
  go_wp2_with fail
  refine (HN.out w0).mono ?_
  rintro e w1 ⟨d0, rfl, hI, hB, hb⟩
  have H1 := Lib.hid (And.intro (H0.out.trans (hb.mono H0.out.size)) (And.intro hI (show w.heap.size ≤ d0.B by rw [hB]; exact H0.out.size)))
  clear hI hB hb
  go_wp2_with fail
  refine (HNQ.out w1).mono ?_
  rintro e w2 ⟨lv0, cv0, rfl, hQ, hb2⟩
  obtain ⟨la0, lc0, rfl⟩ := owns_slice hQ.l
  obtain ⟨ca0, cc0, rfl⟩ := owns_slice hQ.c
  have HST := Lib.hid (AtB.start H1.out.2.1 H1.out.2.2 H1.out.1 hQ hb2)
  clear hQ hb2
  go_wp2_with fail
  go_loopw [10] (fun i wr => ∃ (k : Nat) (d : Dk) (lv cv : Value) (S : St), k ≤ es.length ∧ k ≤ 60 ∧ i = .int .i64 k ∧ AtB w d0 w2.heap.size 8 16 k wr d w1.heap.size lv cv S) (fun i _ => es.length - (intOf i).toNat)
  case atStart => exact ⟨0, d0, _, _, _, Nat.zero_le _, by omega, rfl, HST.out⟩
  case round =>
    obtain ⟨k, d, lv, cv, S, hk, hk60, rfl, hM⟩ := hrel
    obtain ⟨la, lc, rfl⟩ := owns_slice hM.both.q.l
    obtain ⟨ca, cc, rfl⟩ := owns_slice hM.both.q.c
    obtain ⟨z', dur, cache, left, full, off, ops⟩ := S
    have HM := Lib.hid hM
    clear hM
    by_cases hlt : k < es.length ∧ k < 60
    · obtain ⟨a, ha⟩ : ∃ a, es[k]? = some a := ⟨es[k], List.getElem?_eq_getElem hlt.1⟩
      obtain ⟨b, of, rfl, hbl, hra⟩ := HL.out (by omega)
      have HOA := Lib.hid (HO.out a (List.mem_of_getElem? ha))
      have h1 := hlt.1
      have h2 := hlt.2
      have hkI : (k : Int) < (es.length : Int) := by omega
      have HDX := Lib.hid (fun (W : World) (hb : Below wr.heap.size wr W) => HM.out.does (HO.out a (List.mem_of_getElem? ha)) (by omega) (by omega) hb)
      have HBL := Lib.hid (fun (W : World) (hb : Below w.heap.size w W) => lies7 (hra k a ha) hbl hb)
      obtain ⟨s0, s1, s2, s3, s4, s5, s6⟩ := seven (show Lies wr w2.heap.size #[.int .i64 z', .slice la dur.length lc, .slice ca cache.length cc, .int .i64 left, .bool off, .bool full, .int .i64 ops] qT from HM.out.box)
      obtain ⟨a0, a1, a2, a3, a4, a5, a6⟩ := HBL.out wr HM.out.below
      have HLT := Lib.hid (And.intro (show w2.heap.size ≠ wr.heap.size by have := HM.out.box.lt; omega) (show b ≠ wr.heap.size by have := HM.out.below.size; omega))
      have HDA : Hid (Calls Try.prog 10 #[ptr d0.pb, .agg #[.int .i64 z', .slice la dur.length lc, .slice ca cache.length cc, .int .i64 left, .bool off, .bool full, .int .i64 ops], .agg #[.int .i64 a.kind, .int .i64 a.at_, .int .i64 a.n, .int .u8 a.fill, .bool a.short, .bool a.is, a.kv]] wr.drew _) := HDX.out wr.drew (Below.refl wr.heap.size wr).drew
      have HZN := Lib.hid (((Lies.new wr zQ qT).drewN 1))
      have HDB : Hid (Calls Try.prog 10 #[ptr d0.pb, .agg #[.int .i64 z', .slice la dur.length lc, .slice ca cache.length cc, .int .i64 left, .bool off, .bool full, .int .i64 ops], .agg #[.int .i64 a.kind, .int .i64 a.at_, .int .i64 a.n, .int .u8 a.fill, .bool a.short, .bool a.is, a.kv]] (wr.alloc (.cells zQ qT)).drew _) := HDX.out (wr.alloc (.cells zQ qT)).drew ((Below.refl wr.heap.size wr).alloc (Nat.le_refl _) _).drew
      clear hlt ha hra
      go_wp2_with fail
      go_region_held3 (fun W => W.cell? ⟨w2.heap.size, 0, none⟩ = some (.int .i64 z') ∧ W.cell? ⟨w2.heap.size, 1, none⟩ = some (.slice la dur.length lc) ∧ W.cell? ⟨w2.heap.size, 2, none⟩ = some (.slice ca cache.length cc) ∧ W.cell? ⟨w2.heap.size, 3, none⟩ = some (.int .i64 left) ∧ W.cell? ⟨w2.heap.size, 4, none⟩ = some (.bool off) ∧ W.cell? ⟨w2.heap.size, 5, none⟩ = some (.bool full) ∧ W.cell? ⟨w2.heap.size, 6, none⟩ = some (.int .i64 ops) ∧
          W.cell? ⟨b, of + k * 7, none⟩ = some (.int .i64 a.kind) ∧ W.cell? ⟨b, of + k * 7 + 1, none⟩ = some (.int .i64 a.at_) ∧ W.cell? ⟨b, of + k * 7 + 2, none⟩ = some (.int .i64 a.n) ∧ W.cell? ⟨b, of + k * 7 + 3, none⟩ = some (.int .u8 a.fill) ∧ W.cell? ⟨b, of + k * 7 + 4, none⟩ = some (.bool a.short) ∧ W.cell? ⟨b, of + k * 7 + 5, none⟩ = some (.bool a.is) ∧ W.cell? ⟨b, of + k * 7 + 6, none⟩ = some a.kv)
        (first | ((repeat' refine And.intro ?_ ?_) <;> (first | (with_reducible assumption) | (rw [hq2]; with_reducible assumption) | (rw [hq1]; with_reducible assumption) | ((with_reducible refine cellAl ?_ _); with_reducible assumption) | ((with_reducible refine cellAlD ?_ _); with_reducible assumption) | ((with_reducible refine cellDr ?_); with_reducible assumption) | (trace_state; fail))))
        ((go_at_call 10; first | ((with_reducible refine HDA.out.mono ?_); rintro r w3 ⟨z2, la', dur2, lc', ca', cache2, cc', left2, off2, full2, ops2, rfl, hdo, h5, h6, h7, hbox, hbw, hsz, hnew⟩; obtain ⟨s0', s1', s2', s3', s4', s5', s6'⟩ := seven (show Lies w3 w2.heap.size #[.int .i64 z', .slice la dur.length lc, .slice ca cache.length cc, .int .i64 left, .bool off, .bool full, .int .i64 ops] qT from hbox); obtain ⟨a0', a1', a2', a3', a4', a5', a6'⟩ := HBL.out w3 hbw; have HN := Lib.hid (And.intro hdo (And.intro h5 (And.intro h6 (And.intro h7 (And.intro hbox (And.intro hbw hsz)))))); clear hdo h5 h6 h7 hbox hbw hsz hnew) | ((with_reducible refine HDB.out.mono ?_); rintro r w3 ⟨z2, la', dur2, lc', ca', cache2, cc', left2, off2, full2, ops2, rfl, hdo, h5, h6, h7, hbox, hbw, hsz, hnew⟩; obtain ⟨s0', s1', s2', s3', s4', s5', s6'⟩ := seven (show Lies w3 w2.heap.size #[.int .i64 z', .slice la dur.length lc, .slice ca cache.length cc, .int .i64 left, .bool off, .bool full, .int .i64 ops] qT from hbox); obtain ⟨a0', a1', a2', a3', a4', a5', a6'⟩ := HBL.out w3 hbw; have HN := Lib.hid (And.intro hdo (And.intro h5 (And.intro h6 (And.intro h7 (And.intro hbox (And.intro hbw hsz)))))); have hZ := hnew _ _ _ (Nat.le_refl _) HZN.out; obtain ⟨y0, y1, y2, y3, y4, y5, y6⟩ := seven hZ; have hzf := fun j => hZ.free j; have H16 := Lib.hid hZ; have hq2 := fun j : Nat => cell_fill7 w3 wr.heap.size (w2.heap.size) j (.int .i64 z2) (.slice la' dur2.length lc') (.slice ca' cache2.length cc') (.int .i64 left2) (.bool off2) (.bool full2) (.int .i64 ops2) HLT.out.1; have hq1 := fun j : Nat => cell_fill7 w3 wr.heap.size b j (.int .i64 z2) (.slice la' dur2.length lc') (.slice ca' cache2.length cc') (.int .i64 left2) (.bool off2) (.bool full2) (.int .i64 ops2) HLT.out.2; simp only [fill7] at hq1 hq2; clear hdo h5 h6 h7 hbox hbw hsz hnew hZ)))
      · have hf : Fr (fun k => k = w3.heap.size) w3 (w3.alloc (.cells #[(.int .i64 z2), .slice la' dur2.length lc', .slice ca' cache2.length cc', (.int .i64 left2), .bool off2, .bool full2, .int .i64 ops2] qT)) := (Fr.refl _ _).alloc _
        have HN4 := Lib.hid (HM.out.next2 (nb := w3.heap.size) (Below.refl wr.heap.size wr).drew HN.out.1 HN.out.2.1 HN.out.2.2.1 HN.out.2.2.2.1 hf (by have := HN.out.2.2.2.2.2.2; simpa using this) (.inr (Nat.le_refl _)))
        have HBX := Lib.hid (HN.out.2.2.2.2.1.same (hf.block _ HN.out.2.2.2.2.1.lt (by have := HN.out.2.2.2.2.1.lt; omega)))
        obtain ⟨t0, t1, t2, t3, t4, t5, t6⟩ := seven (Lies.new w3 #[(.int .i64 z2), .slice la' dur2.length lc', .slice ca' cache2.length cc', (.int .i64 left2), .bool off2, .bool full2, .int .i64 ops2] qT)
        generalize w3.alloc (.cells #[(.int .i64 z2), .slice la' dur2.length lc', .slice ca' cache2.length cc', (.int .i64 left2), .bool off2, .bool full2, .int .i64 ops2] qT) = W4 at HN4 HBX t0 t1 t2 t3 t4 t5 t6 ⊢
        clear hf HN s0 s1 s2 s3 s4 s5 s6 a0 a1 a2 a3 a4 a5 a6 s0' s1' s2' s3' s4' s5' s6' a0' a1' a2' a3' a4' a5' a6'
        go_wp2_with (refine wpList_store_row rfl 33 (.tmp 9) (.tmp 53) rfl w2.heap.size (qC ⟨z2, dur2, cache2, left2, full2, off2, ops2⟩ (.slice la' dur2.length lc') (.slice ca' cache2.length cc')) rfl rfl qT _ HBX.out sizeQ rfl (qC_one _ _ _ _ _ _ _) ?_)
        obtain ⟨d', hN⟩ := HN4.out
        go_roundw
        case rel => exact ⟨k + 1, d', _, _, _, by omega, by omega, by simp, hN⟩
        case measure => simp [intOf]; omega
      · have hf := Fr.fill7 w3 wr.heap.size (.int .i64 z2) (.slice la' dur2.length lc') (.slice ca' cache2.length cc') (.int .i64 left2) (.bool off2) (.bool full2) (.int .i64 ops2)
        have HN4 := Lib.hid (HM.out.next2 (nb := wr.heap.size) ((Below.refl wr.heap.size wr).alloc (Nat.le_refl _) _).drew HN.out.1 HN.out.2.1 HN.out.2.2.1 HN.out.2.2.2.1 hf (Nat.le_refl _) (.inl (by simp)))
        have HBX := Lib.hid (HN.out.2.2.2.2.1.same (hf.block _ HN.out.2.2.2.2.1.lt HLT.out.1))
        obtain ⟨t0, t1, t2, t3, t4, t5, t6⟩ := seven (H16.out.fill7 (.int .i64 z2) (.slice la' dur2.length lc') (.slice ca' cache2.length cc') (.int .i64 left2) (.bool off2) (.bool full2) (.int .i64 ops2))
        simp only [fill7] at HN4 HBX t0 t1 t2 t3 t4 t5 t6
        generalize World.setCell _ ⟨wr.heap.size, 6, none⟩ (.int .i64 (ops2 : Int)) = W4 at HN4 HBX t0 t1 t2 t3 t4 t5 t6 ⊢
        clear hf HN s0 s1 s2 s3 s4 s5 s6 a0 a1 a2 a3 a4 a5 a6 s0' s1' s2' s3' s4' s5' s6' a0' a1' a2' a3' a4' a5' a6' hq1 hq2 y0 y1 y2 y3 y4 y5 y6 hzf H16
        go_wp2_with (refine wpList_store_row rfl 33 (.tmp 9) (.tmp 53) rfl w2.heap.size (qC ⟨z2, dur2, cache2, left2, full2, off2, ops2⟩ (.slice la' dur2.length lc') (.slice ca' cache2.length cc')) rfl rfl qT _ HBX.out sizeQ rfl (qC_one _ _ _ _ _ _ _) ?_)
        obtain ⟨d', hN⟩ := HN4.out
        go_roundw
        case rel => exact ⟨k + 1, d', _, _, _, by omega, by omega, by simp, hN⟩
        case measure => simp [intOf]; omega
    · obtain ⟨wb, hwb⟩ : ∃ wb, wb = wr := ⟨_, rfl⟩
      subst hwb
      have hlen : dur.length = 8 := HM.out.len
      have hsiz : z' = 16 := HM.out.siz
      have HLN := Lib.hid (And.intro hlen hsiz)
      have HCL := Lib.hid (show cache.length ≤ 1000000 from Nat.le_trans HM.out.both.is.1.cache HM.out.both.is.1.ops)
      clear hlen hsiz
      rcases (show ¬ k < es.length ∨ (k < es.length ∧ ¬ k < 60) by omega) with hg | ⟨hg, hg2⟩
      all_goals
        clear hlt
        go_wp2_with fail
        clear hg
        try clear hg2
        go_loopw [13, 14] (fun v i wr => ∃ (j : Nat), j ≤ 8 ∧ i = .int .i64 j ∧ wr.ownsRow wb.heap.size strT 1 v j ((dur.take j).map Value.string) ∧ Below wb.heap.size wb wr) (fun _ i _ => 8 - (intOf i).toNat)
        case atStart => exact ⟨0, by omega, rfl, World.ownsRow_nil _ _ _ _, Below.refl _ _⟩
        case round =>
          obtain ⟨j, hj, rfl, ho, hb⟩ := hrel
          obtain ⟨a, c, rfl⟩ := owns_slice ho
          have HL2 := Lib.hid (And.intro ho hb)
          clear ho hb
          by_cases hlt : j < 8
          · have hjd : j < dur.length := by have := HLN.out.1; omega
            have hD := durableIs (HM.out.both.is.below HL2.out.2) j hjd
            rw [HM.out.pb] at hD
            have HD := Lib.hid hD
            have hlj : (dur.take j).length = j := by rw [List.length_take]; omega
            obtain ⟨v', w6, hr, ho2, hg2, hf2⟩ := append_str (wr.alloc (.cells #[.string (at0 dur j)] strT)) wb.heap.size wr.heap.size (.slice a j c) (dur.take j) (at0 dur j) (Lies.new _ _ _) (by rw [hlj]; exact HL2.out.1.alloc _) (by rw [hlj]; omega) (by have := HL2.out.2.size; simp; omega)
            rw [hlj] at ho2
            obtain ⟨a', c', rfl⟩ := owns_slice ho2
            have HAP := Lib.hid hr
            have HZ : Hid (w6.ownsRow wb.heap.size strT 1 (.slice a' (j + 1) c') (j + 1) ((dur.take (j + 1)).map Value.string) ∧ Below wb.heap.size wb w6) := by
              refine ⟨by rw [← take_at0 hjd]; exact ho2, ?_⟩
              have h7 : Below wb.heap.size wb (wr.alloc (.cells #[.string (at0 dur j)] strT)) := HL2.out.2.alloc HL2.out.2.size _
              exact h7.grown hg2 h7.size fun k hk => (HL2.out.1.lt k hk).1
            clear hr ho2 hg2 hf2 hD
            go_wp2_with fail
            refine HD.out.mono ?_
            rintro r w5 ⟨rfl, rfl⟩
            clear hlj
            go_wp2_with (at_builtin; refine wpList_append_run rfl _ _ 30 rfl _ _ _ rfl rfl HAP.out ?_)
            go_roundw
            case rel => exact ⟨j + 1, by omega, by simp, HZ.out⟩
            case measure => simp [intOf]; omega
          · obtain rfl : j = 8 := by omega
            have htk : dur.take 8 = dur := List.take_of_length_le (by have := HLN.out.1; omega)
            have HW8 := Lib.hid (And.intro (show wr.ownsRow wb.heap.size strT 1 (.slice a 8 c) dur.length (dur.map Value.string) by have h9 := HL2.out.1; rw [htk] at h9; rw [HLN.out.1]; exact h9) HL2.out.2)
            have hcr := crash_any (HM.out.both.is.below HL2.out.2) _ ks torn (HK.out.below (HM.out.below.trans (HL2.out.2.mono HM.out.below.size))) hkl
            rw [HM.out.pb] at hcr
            have HCR := Lib.hid hcr
            clear hlt hcr htk
            go_wp2_with fail
            refine HCR.out.mono ?_
            rintro r w7 ⟨rfl, cv7, hI7, hS7⟩
            have HTS := Lib.hid (HM.out.torn HW8.out.1 HW8.out.2 hI7 hS7)
            clear hI7 hS7
            go_wp2_with fail
            go_loopw [15] (fun i wr => ∃ (j : Nat), j ≤ 8 ∧ i = .int .i64 j ∧ Below w7.heap.size w7 wr) (fun i _ => 8 - (intOf i).toNat)
            case atStart => exact ⟨0, by omega, rfl, Below.refl _ _⟩
            case round =>
              obtain ⟨j, hj, rfl, hb⟩ := hrel
              have HB7 := Lib.hid hb
              clear hb
              by_cases hlt : j < 8
              · have HDU := Lib.hid (HTS.out.dur HB7.out hlt)
                obtain ⟨x, hx⟩ : ∃ x, x = at0 (crashS ⟨z', dur, cache, left, full, off, ops⟩ ks torn).dur j := ⟨_, rfl⟩
                have HOLD := Lib.hid (HTS.out.olds hlt)
                rw [← hx] at HDU HOLD
                clear hx
                have hxs := HOLD.out.1
                go_wp2_with fail
                refine HDU.out.mono ?_
                rintro r w8 ⟨rfl, rfl⟩
                obtain ⟨y, hy⟩ : ∃ y, y = at0 dur j := ⟨_, rfl⟩
                obtain ⟨BW, hwas⟩ := HTS.out.was
                obtain ⟨g, c2, hv, _, _, hgc, _⟩ := owns_block hwas (by rw [HLN.out.1]; omega)
                obtain ⟨rfl, -, rfl⟩ := Value.slice.inj hv
                have hyc : w7.cell? ⟨g, j, none⟩ = some (.string y) := hgc _ _ (by rw [hy]; exact at0_cell (by rw [HLN.out.1]; exact hlt))
                have hys : y.size = 16 := by rw [hy]; exact HTS.out.fit.size _ (at0_mem (by rw [HLN.out.1]; exact hlt))
                have HYC := Lib.hid (fun (W : World) (hb : Below w7.heap.size w7 W) => (hb.cell (p := ⟨g, j, none⟩) (cell_lt' hyc)).trans hyc)
                have HY := Lib.hid hy
                have hlt' : (j : Int) < 8 := by omega
                have hj0 : (0 : Int) ≤ (j : Int) := by omega
                clear hv hwas hgc hyc hy
                go_wp2_with fail
                go_loopw [17] (fun i wr => ∃ (q : Nat), q ≤ 16 ∧ i = .int .i64 q ∧ Below w7.heap.size w7 wr) (fun i _ => 16 - (intOf i).toNat)
                case atStart => exact ⟨0, by omega, rfl, HB7.out⟩
                case round =>
                  obtain ⟨q, hq, rfl, hb⟩ := hrel
                  have HB9 := Lib.hid hb
                  have hyw := HYC.out wr hb
                  clear hb
                  by_cases hq16 : q < 16
                  · have hq1 : (q : Int) < 16 := by omega
                    have hq0 : (0 : Int) ≤ (q : Int) := by omega
                    have hq2 : q < x.size := by omega
                    have hq3 : q < y.size := by omega
                    go_wp2_with fail
                    go_quiet (fail)
                    go_wp2_with fail
                    have HST := Lib.hid (old_start HY.out (HOLD.out.2 q hq16) hq2 hq3)
                    go_loopw [18, 19] (fun ok mm wr => ∃ (m : Nat) (b : Bool), m ≤ cache.length ∧ mm = .int .i64 m ∧ ok = .bool b ∧ (b = true ∨ Some5 cache x m j q) ∧ Below w7.heap.size w7 wr) (fun _ mm _ => cache.length - (intOf mm).toNat)
                    case atStart => exact ⟨0, _, Nat.zero_le _, rfl, rfl, HST.out, below_drewN HB9.out _⟩
                    case round =>
                      obtain ⟨m, b, hm5, rfl, rfl, hor, hb⟩ := hrel
                      have hcl : cache.length ≤ 1000000 := HCL.out
                      have HB5 := Lib.hid hb
                      have kc : wr.cell? ⟨w2.heap.size, 2, none⟩ = some (.slice ca cache.length cc) := (hb.cell (p := ⟨w2.heap.size, 2, none⟩) HTS.out.qlt).trans HTS.out.cell
                      have HOR := Lib.hid hor
                      clear hb hor
                      by_cases hlt5 : m < cache.length
                      · have hm0 : (0 : Int) ≤ (m : Int) := by omega
                        have hm1 : (m : Int) < (cache.length : Int) := by omega
                        cases b
                        · obtain ⟨v, hv5⟩ : ∃ v, cache[m]? = some v := ⟨cache[m], List.getElem?_eq_getElem hlt5⟩
                          have hq4 : q < v.s.size := by rw [(HTS.out.fit.wr v (List.mem_of_getElem? hv5)).2]; exact hq16
                          obtain ⟨BC, hcc⟩ := HTS.out.cache
                          obtain ⟨g2, c5, hcv, hg2, k0, k1, _⟩ := owns_writeQ hcc hv5
                          obtain ⟨rfl, -, rfl⟩ := Value.slice.inj hcv
                          have e0 := (HB5.out.cell (p := ⟨g2, m * 2, none⟩) hg2).trans k0
                          have e1 := (HB5.out.cell (p := ⟨g2, m * 2 + 1, none⟩) hg2).trans k1
                          have HSP := Lib.hid (step5 HOR.out hv5)
                          clear hcv hcc hv5 k0 k1
                          by_cases he : v.p = j
                          · have h1 : ((v.p : Int) == (j : Int)) = true := by simp [he]
                            have HS6 := Lib.hid (HSP.out.hit hq4 hq2)
                            clear he
                            go_wp2_with fail
                            go_quiet (fail)
                            go_wp2_with fail
                            go_roundw
                            case rel => exact ⟨m + 1, _, by omega, by simp, rfl, HS6.out, below_drewN HB5.out _⟩
                            case measure => simp [intOf]; omega
                          · have h1 : ((v.p : Int) == (j : Int)) = false := by simp; omega
                            have HS6 := Lib.hid (HSP.out.miss he)
                            clear he
                            go_wp2_with fail
                            go_quiet (fail)
                            go_wp2_with fail
                            go_roundw
                            case rel => exact ⟨m + 1, false, by omega, by simp, rfl, .inr HS6.out, below_drewN HB5.out _⟩
                            case measure => simp [intOf]; omega
                        · go_wp2_with fail
                          go_quiet (fail)
                          go_wp2_with fail
                          go_roundw
                          case rel => exact ⟨m + 1, true, by omega, by simp, rfl, .inl rfl, below_drewN HB5.out _⟩
                          case measure => simp [intOf]; omega
                      · obtain rfl : b = true := HOR.out.resolve_right fun e => e.none (by omega)
                        go_wp2_with fail
                        go_roundw
                        case rel => exact ⟨q + 1, by omega, by simp, HB5.out⟩
                        case measure => simp [intOf]; omega
                  · go_wp2_with fail
                    go_roundw
                    case rel => exact ⟨j + 1, by omega, by simp, HB9.out⟩
                    case measure => simp [intOf]; omega
              · obtain rfl : j = 8 := by omega
                clear hlt
                go_wp2_with fail
                go_ret
                exact ⟨rfl, HTS.out.below.trans (HB7.out.mono HTS.out.below.size)⟩
end Go.Proofs.Ytebiebbbkdbffaa.Disk
