/-
  Walks of the law DiskLast.
-/
import Derived.Test.YtebiebbbkdbffaaLawR
namespace Go.Proofs.Ytebiebbbkdbffaa.Disk
open Go Go.RowKit
open Go.Proofs.Ytebiebbbkdbffaa.Sha (Kept wp_region_drawn_tail wp_region_kept_tail quiet_load_row)

set_option maxRecDepth 100000 in
set_option maxHeartbeats 8000000 in
theorem diskLast_any (v : Value) (es : List Act) (all : Bool) (w : World) (h : ReadsA w v es) (ho : ∀ a ∈ es, OkL w a) (hm : es.length ≤ 9223372036854775807) :
    Calls Try.prog 4 #[v, .bool all] w fun e w' => e = .returned (.bool true) ∧ Below w.heap.size w w' := by
  have HW := Lib.hid works_any
  obtain ⟨va, cap, rfl, hsh⟩ := h.shape
  have HL := Lib.hid hsh
  have HO := Lib.hid ho
  clear h ho hsh
  have HNQ := Lib.hid (fun W => newQ_any W 8 16 (by omega) (by omega))
  have HN := Lib.hid (fun W => new_any W 8 16 (by omega) (by omega) (by omega) (by omega))
  go_enter Try.func4, Try.ntmps4
  go_wp2_with fail
  refine (HW.out w).mono ?_
  rintro e w0 ⟨rfl, hb0⟩
  have H0 := Lib.hid hb0
  clear hb0
  go_wp2_with fail
  refine (HN.out w0).mono ?_
  rintro e w1 ⟨d0, rfl, hI, hB, hb⟩
  have H1 := Lib.hid (And.intro (H0.out.trans (hb.mono H0.out.size)) (And.intro hI (show w.heap.size ≤ d0.B by rw [hB]; exact H0.out.size)))
  clear hI hB hb
  go_wp2_with fail
  refine (HNQ.out w1).mono ?_
  rintro e w2 ⟨lv0, cv0, rfl, hQ, hb2⟩
  obtain ⟨la0, lc0, rfl⟩ := owns_slice hQ.l
  obtain ⟨ca0, cc0, rfl⟩ := owns_slice hQ.c
  have HST := Lib.hid (AtB.start H1.out.2.1 H1.out.2.2 H1.out.1 hQ hb2)
  clear hQ hb2
  go_wp2_with fail
  go_loopw [8] (fun i wr => ∃ (k : Nat) (d : Dk) (lv cv : Value) (S : St), k ≤ es.length ∧ k ≤ 60 ∧ i = .int .i64 k ∧ AtB w d0 w2.heap.size 8 16 k wr d w1.heap.size lv cv S) (fun i _ => es.length - (intOf i).toNat)
  case atStart => exact ⟨0, d0, _, _, _, Nat.zero_le _, by omega, rfl, HST.out⟩
  case round =>
    obtain ⟨k, d, lv, cv, S, hk, hk60, rfl, hM⟩ := hrel
    obtain ⟨la, lc, rfl⟩ := owns_slice hM.both.q.l
    obtain ⟨ca, cc, rfl⟩ := owns_slice hM.both.q.c
    obtain ⟨z', dur, cache, left, full, off, ops⟩ := S
    have HM := Lib.hid hM
    clear hM
    by_cases hlt : k < es.length ∧ k < 60
    · obtain ⟨a, ha⟩ : ∃ a, es[k]? = some a := ⟨es[k], List.getElem?_eq_getElem hlt.1⟩
      obtain ⟨b, of, rfl, hbl, hra⟩ := HL.out (by omega)
      have HOA := Lib.hid (HO.out a (List.mem_of_getElem? ha))
      have h1 := hlt.1
      have h2 := hlt.2
      have hkI : (k : Int) < (es.length : Int) := by omega
      have HDX := Lib.hid (fun (W : World) (hb : Below wr.heap.size wr W) => HM.out.does (HO.out a (List.mem_of_getElem? ha)) (by omega) (by omega) hb)
      have HBL := Lib.hid (fun (W : World) (hb : Below w.heap.size w W) => lies7 (hra k a ha) hbl hb)
      obtain ⟨s0, s1, s2, s3, s4, s5, s6⟩ := seven (show Lies wr w2.heap.size #[.int .i64 z', .slice la dur.length lc, .slice ca cache.length cc, .int .i64 left, .bool off, .bool full, .int .i64 ops] qT from HM.out.box)
      obtain ⟨a0, a1, a2, a3, a4, a5, a6⟩ := HBL.out wr HM.out.below
      have HLT := Lib.hid (And.intro (show w2.heap.size ≠ wr.heap.size by have := HM.out.box.lt; omega) (show b ≠ wr.heap.size by have := HM.out.below.size; omega))
      have HDA : Hid (Calls Try.prog 10 #[ptr d0.pb, .agg #[.int .i64 z', .slice la dur.length lc, .slice ca cache.length cc, .int .i64 left, .bool off, .bool full, .int .i64 ops], .agg #[.int .i64 a.kind, .int .i64 a.at_, .int .i64 a.n, .int .u8 a.fill, .bool a.short, .bool a.is, a.kv]] wr.drew _) := HDX.out wr.drew (Below.refl wr.heap.size wr).drew
      have HZN := Lib.hid (((Lies.new wr zQ qT).drewN 1))
      have HDB : Hid (Calls Try.prog 10 #[ptr d0.pb, .agg #[.int .i64 z', .slice la dur.length lc, .slice ca cache.length cc, .int .i64 left, .bool off, .bool full, .int .i64 ops], .agg #[.int .i64 a.kind, .int .i64 a.at_, .int .i64 a.n, .int .u8 a.fill, .bool a.short, .bool a.is, a.kv]] (wr.alloc (.cells zQ qT)).drew _) := HDX.out (wr.alloc (.cells zQ qT)).drew ((Below.refl wr.heap.size wr).alloc (Nat.le_refl _) _).drew
      clear hlt ha hra
      go_wp2_with fail
      go_region_held3 (fun W => W.cell? ⟨w2.heap.size, 0, none⟩ = some (.int .i64 z') ∧ W.cell? ⟨w2.heap.size, 1, none⟩ = some (.slice la dur.length lc) ∧ W.cell? ⟨w2.heap.size, 2, none⟩ = some (.slice ca cache.length cc) ∧ W.cell? ⟨w2.heap.size, 3, none⟩ = some (.int .i64 left) ∧ W.cell? ⟨w2.heap.size, 4, none⟩ = some (.bool off) ∧ W.cell? ⟨w2.heap.size, 5, none⟩ = some (.bool full) ∧ W.cell? ⟨w2.heap.size, 6, none⟩ = some (.int .i64 ops) ∧
          W.cell? ⟨b, of + k * 7, none⟩ = some (.int .i64 a.kind) ∧ W.cell? ⟨b, of + k * 7 + 1, none⟩ = some (.int .i64 a.at_) ∧ W.cell? ⟨b, of + k * 7 + 2, none⟩ = some (.int .i64 a.n) ∧ W.cell? ⟨b, of + k * 7 + 3, none⟩ = some (.int .u8 a.fill) ∧ W.cell? ⟨b, of + k * 7 + 4, none⟩ = some (.bool a.short) ∧ W.cell? ⟨b, of + k * 7 + 5, none⟩ = some (.bool a.is) ∧ W.cell? ⟨b, of + k * 7 + 6, none⟩ = some a.kv)
        (first | ((repeat' refine And.intro ?_ ?_) <;> (first | (with_reducible assumption) | (rw [hq2]; with_reducible assumption) | (rw [hq1]; with_reducible assumption) | ((with_reducible refine cellAl ?_ _); with_reducible assumption) | ((with_reducible refine cellAlD ?_ _); with_reducible assumption) | ((with_reducible refine cellDr ?_); with_reducible assumption) | (trace_state; fail))))
        ((go_at_call 10; first | ((with_reducible refine HDA.out.mono ?_); rintro r w3 ⟨z2, la', dur2, lc', ca', cache2, cc', left2, off2, full2, ops2, rfl, hdo, h5, h6, h7, hbox, hbw, hsz, hnew⟩; obtain ⟨s0', s1', s2', s3', s4', s5', s6'⟩ := seven (show Lies w3 w2.heap.size #[.int .i64 z', .slice la dur.length lc, .slice ca cache.length cc, .int .i64 left, .bool off, .bool full, .int .i64 ops] qT from hbox); obtain ⟨a0', a1', a2', a3', a4', a5', a6'⟩ := HBL.out w3 hbw; have HN := Lib.hid (And.intro hdo (And.intro h5 (And.intro h6 (And.intro h7 (And.intro hbox (And.intro hbw hsz)))))); clear hdo h5 h6 h7 hbox hbw hsz hnew) | ((with_reducible refine HDB.out.mono ?_); rintro r w3 ⟨z2, la', dur2, lc', ca', cache2, cc', left2, off2, full2, ops2, rfl, hdo, h5, h6, h7, hbox, hbw, hsz, hnew⟩; obtain ⟨s0', s1', s2', s3', s4', s5', s6'⟩ := seven (show Lies w3 w2.heap.size #[.int .i64 z', .slice la dur.length lc, .slice ca cache.length cc, .int .i64 left, .bool off, .bool full, .int .i64 ops] qT from hbox); obtain ⟨a0', a1', a2', a3', a4', a5', a6'⟩ := HBL.out w3 hbw; have HN := Lib.hid (And.intro hdo (And.intro h5 (And.intro h6 (And.intro h7 (And.intro hbox (And.intro hbw hsz)))))); have hZ := hnew _ _ _ (Nat.le_refl _) HZN.out; obtain ⟨y0, y1, y2, y3, y4, y5, y6⟩ := seven hZ; have hzf := fun j => hZ.free j; have H16 := Lib.hid hZ; have hq2 := fun j : Nat => cell_fill7 w3 wr.heap.size (w2.heap.size) j (.int .i64 z2) (.slice la' dur2.length lc') (.slice ca' cache2.length cc') (.int .i64 left2) (.bool off2) (.bool full2) (.int .i64 ops2) HLT.out.1; have hq1 := fun j : Nat => cell_fill7 w3 wr.heap.size b j (.int .i64 z2) (.slice la' dur2.length lc') (.slice ca' cache2.length cc') (.int .i64 left2) (.bool off2) (.bool full2) (.int .i64 ops2) HLT.out.2; simp only [fill7] at hq1 hq2; clear hdo h5 h6 h7 hbox hbw hsz hnew hZ)))
      · have hf : Fr (fun k => k = w3.heap.size) w3 (w3.alloc (.cells #[(.int .i64 z2), .slice la' dur2.length lc', .slice ca' cache2.length cc', (.int .i64 left2), .bool off2, .bool full2, .int .i64 ops2] qT)) := (Fr.refl _ _).alloc _
        have HN4 := Lib.hid (HM.out.next2 (nb := w3.heap.size) (Below.refl wr.heap.size wr).drew HN.out.1 HN.out.2.1 HN.out.2.2.1 HN.out.2.2.2.1 hf (by have := HN.out.2.2.2.2.2.2; simpa using this) (.inr (Nat.le_refl _)))
        have HBX := Lib.hid (HN.out.2.2.2.2.1.same (hf.block _ HN.out.2.2.2.2.1.lt (by have := HN.out.2.2.2.2.1.lt; omega)))
        obtain ⟨t0, t1, t2, t3, t4, t5, t6⟩ := seven (Lies.new w3 #[(.int .i64 z2), .slice la' dur2.length lc', .slice ca' cache2.length cc', (.int .i64 left2), .bool off2, .bool full2, .int .i64 ops2] qT)
        generalize w3.alloc (.cells #[(.int .i64 z2), .slice la' dur2.length lc', .slice ca' cache2.length cc', (.int .i64 left2), .bool off2, .bool full2, .int .i64 ops2] qT) = W4 at HN4 HBX t0 t1 t2 t3 t4 t5 t6 ⊢
        clear hf HN s0 s1 s2 s3 s4 s5 s6 a0 a1 a2 a3 a4 a5 a6 s0' s1' s2' s3' s4' s5' s6' a0' a1' a2' a3' a4' a5' a6'
        go_wp2_with (refine wpList_store_row rfl 33 (.tmp 7) (.tmp 55) rfl w2.heap.size (qC ⟨z2, dur2, cache2, left2, full2, off2, ops2⟩ (.slice la' dur2.length lc') (.slice ca' cache2.length cc')) rfl rfl qT _ HBX.out sizeQ rfl (qC_one _ _ _ _ _ _ _) ?_)
        obtain ⟨d', hN⟩ := HN4.out
        go_roundw
        case rel => exact ⟨k + 1, d', _, _, _, by omega, by omega, by simp, hN⟩
        case measure => simp [intOf]; omega
      · have hf := Fr.fill7 w3 wr.heap.size (.int .i64 z2) (.slice la' dur2.length lc') (.slice ca' cache2.length cc') (.int .i64 left2) (.bool off2) (.bool full2) (.int .i64 ops2)
        have HN4 := Lib.hid (HM.out.next2 (nb := wr.heap.size) ((Below.refl wr.heap.size wr).alloc (Nat.le_refl _) _).drew HN.out.1 HN.out.2.1 HN.out.2.2.1 HN.out.2.2.2.1 hf (Nat.le_refl _) (.inl (by simp)))
        have HBX := Lib.hid (HN.out.2.2.2.2.1.same (hf.block _ HN.out.2.2.2.2.1.lt HLT.out.1))
        obtain ⟨t0, t1, t2, t3, t4, t5, t6⟩ := seven (H16.out.fill7 (.int .i64 z2) (.slice la' dur2.length lc') (.slice ca' cache2.length cc') (.int .i64 left2) (.bool off2) (.bool full2) (.int .i64 ops2))
        simp only [fill7] at HN4 HBX t0 t1 t2 t3 t4 t5 t6
        generalize World.setCell _ ⟨wr.heap.size, 6, none⟩ (.int .i64 (ops2 : Int)) = W4 at HN4 HBX t0 t1 t2 t3 t4 t5 t6 ⊢
        clear hf HN s0 s1 s2 s3 s4 s5 s6 a0 a1 a2 a3 a4 a5 a6 s0' s1' s2' s3' s4' s5' s6' a0' a1' a2' a3' a4' a5' a6' hq1 hq2 y0 y1 y2 y3 y4 y5 y6 hzf H16
        go_wp2_with (refine wpList_store_row rfl 33 (.tmp 7) (.tmp 55) rfl w2.heap.size (qC ⟨z2, dur2, cache2, left2, full2, off2, ops2⟩ (.slice la' dur2.length lc') (.slice ca' cache2.length cc')) rfl rfl qT _ HBX.out sizeQ rfl (qC_one _ _ _ _ _ _ _) ?_)
        obtain ⟨d', hN⟩ := HN4.out
        go_roundw
        case rel => exact ⟨k + 1, d', _, _, _, by omega, by omega, by simp, hN⟩
        case measure => simp [intOf]; omega
    · obtain ⟨wb, hwb⟩ : ∃ wb, wb = wr := ⟨_, rfl⟩
      subst hwb
      have hcl : cache.length ≤ 1000000 := Nat.le_trans HM.out.both.is.1.cache HM.out.both.is.1.ops
      have hcu := cutIs_any HM.out.both.is 0 (by omega) (by omega)
      rw [HM.out.pb] at hcu
      obtain ⟨S1, hS1⟩ : ∃ S1, S1 = cutS ⟨z', dur, cache, left, full, off, ops⟩ 0 := ⟨_, rfl⟩
      have HLN := Lib.hid (And.intro (show S1.dur.length = 8 by rw [hS1]; exact HM.out.len) (show S1.cache.length ≤ 1000000 by rw [hS1]; exact hcl))
      rw [← hS1] at hcu
      have HCU := Lib.hid hcu
      clear hcu hcl hS1
      rcases (show ¬ k < es.length ∨ (k < es.length ∧ ¬ k < 60) by omega) with hg | ⟨hg, hg2⟩
      all_goals
        clear hlt
        go_wp2_with fail
        clear hg
        try clear hg2
        refine HCU.out.mono ?_
        rintro r w3 ⟨rfl, cv3, hI3, hS3⟩
        obtain ⟨d3, hp3, hI3', hb3, hle3⟩ := HM.out.cut hI3 hS3
        have HIS := Lib.hid (And.intro hI3' (And.intro hb3 (And.intro hle3 hp3)))
        have hof := offIs hI3'
        rw [hp3] at hof
        obtain ⟨o1, ho1⟩ : ∃ o1, o1 = S1.off := ⟨_, rfl⟩
        rw [← ho1] at hof
        have HO1 := Lib.hid ho1
        have HOF := Lib.hid hof
        clear hI3 hS3 hI3' hb3 hle3 hof hp3 ho1
        go_wp2_with fail
        refine HOF.out.mono ?_
        rintro r w4 ⟨rfl, rfl⟩
        go_wp2_with fail
        go_loopw [11, 12, 14] (fun v1 v2 i wr => ∃ (j : Nat) (a1 a2 : Option Addr) (c1 c2 : Nat), j ≤ 8 ∧ i = .int .i64 j ∧ v1 = .slice a1 j c1 ∧ v2 = .slice a2 j c2 ∧ Two w4 S1 a1 a2 c1 c2 j wr) (fun _ _ i _ => 8 - (intOf i).toNat)
        case atStart => exact ⟨0, none, none, 0, 0, by omega, rfl, rfl, rfl, Two.start _ _⟩
        case round =>
          obtain ⟨j, a1, a2, c1, c2, hj, rfl, rfl, rfl, hT⟩ := hrel
          have HT := Lib.hid hT
          clear hT
          by_cases hlt : j < 8
          · obtain ⟨a1', c1', w6, a2', c2', w9, r1, r2, hT9⟩ := HT.out.next hlt HLN.out.1
            have hD := durableIs (HIS.out.1.below HT.out.below) j (by rw [HLN.out.1]; exact hlt)
            have hR := readIs_any (HIS.out.1.below HT.out.below) (j : Int)
            rw [HIS.out.2.2.2] at hD hR
            generalize at0 S1.dur j = x at r1 hD
            generalize (readS S1 (j : Int)).2 = code at hR
            generalize (readS S1 (j : Int)).1 = y at r2 hR
            have HA1 := Lib.hid r1
            have HA2 := Lib.hid r2
            have HD := Lib.hid hD
            have HR := Lib.hid hR
            have HT9 := Lib.hid hT9
            clear r1 r2 hD hR hT9
            go_wp2_with fail
            refine HR.out.mono ?_
            rintro r w5 ⟨rfl, rfl⟩
            go_wp2_with fail
            refine HD.out.mono ?_
            rintro r w5 ⟨rfl, rfl⟩
            go_wp2_with (first
              | (at_builtin; refine wpList_append_run rfl _ _ 30 rfl _ _ _ rfl rfl HA1.out ?_)
              | (at_builtin; refine wpList_append_run rfl _ _ 30 rfl _ _ _ rfl rfl HA2.out ?_))
            go_roundw
            case rel => exact ⟨j + 1, a1', a2', c1', c2', by omega, by simp, rfl, rfl, HT9.out⟩
            case measure => simp [intOf]; omega
          · obtain rfl : j = 8 := by omega
            clear hlt
            obtain ⟨wc, hwc⟩ : ∃ wc, wc = wr := ⟨_, rfl⟩
            subst hwc
            have hC := cachedIs (HIS.out.1.below HT.out.below)
            rw [HIS.out.2.2.2] at hC
            obtain ⟨n, hn⟩ : ∃ n, n = S1.cache.length := ⟨_, rfl⟩
            rw [← hn] at hC
            have hn9 : n ≤ 1000000 := by rw [hn]; exact HLN.out.2
            have HC := Lib.hid hC
            have HN := Lib.hid hn
            have hmk := make_bools n all hn9
            clear hC hn
            go_wp2_with fail
            refine HC.out.mono ?_
            rintro r w5 ⟨rfl, rfl⟩
            go_wp2_with fail
            go_loopw [85] (fun i wr => ∃ m : Nat, m ≤ n ∧ i = .int .i64 m ∧ Lies wr w5.heap.size (boolC m n all) 4 ∧ Below w5.heap.size w5 wr) (fun i _ => n - (intOf i).toNat)
            case atStart => exact ⟨0, Nat.zero_le _, rfl, Lies.new _ _ _, (Below.refl _ _).alloc (Nat.le_refl _) _⟩
            case round =>
              obtain ⟨m, hm3, rfl, hL, hb⟩ := hrel
              have HB := Lib.hid (And.intro hL hb)
              by_cases hlt : m < n
              · have kc : wr.cell? ⟨w5.heap.size, m, none⟩ = some (.bool false) := (hL.cell m).trans (boolC_at hlt)
                have kf := hL.free m
                have hm0 : (0 : Int) ≤ (m : Int) := by omega
                have hm1 : (m : Int) < (n : Int) := by omega
                have HX : Hid (Lies (wr.setCell ⟨w5.heap.size, m, none⟩ (.bool all)) w5.heap.size (boolC (m + 1) n all) 4 ∧ Below w5.heap.size w5 (wr.setCell ⟨w5.heap.size, m, none⟩ (.bool all))) := ⟨by have := hL.set m (.bool all); rwa [boolC_set hlt] at this, hb.setCell (Nat.le_refl _) _⟩
                clear hL hb
                go_wp2_with fail
                go_roundw
                case rel => exact ⟨m + 1, by omega, by simp, HX.out⟩
                case measure => simp [intOf]; omega
              · obtain rfl : m = n := by omega
                have hK := reads_bools hL
                have hcr := crash_any ((HIS.out.1.below HT.out.below).below hb) _ (List.replicate m all) (-1) hK (by simp; omega)
                rw [HIS.out.2.2.2] at hcr
                have HCR := Lib.hid hcr
                clear hL hb hK hcr hlt
                go_wp2_with fail
                refine HCR.out.mono ?_
                rintro r w7 ⟨rfl, cv7, hI7, hS7⟩
                rw [HN.out] at hI7
                obtain ⟨g1, g2, rfl, rfl, hLA⟩ := HT.out.crash (all := all) HLN.out.1 HIS.out.1 HIS.out.2.1 HIS.out.2.2.1 HB.out.2 hI7 hS7
                rw [HIS.out.2.2.2] at hLA
                have HLA := Lib.hid hLA
                clear hI7 hS7 hLA
                go_wp2_with fail
                go_loopw [19] (fun i wr => ∃ j : Nat, j ≤ 8 ∧ i = .int .i64 j ∧ Below w7.heap.size w7 wr) (fun i _ => 8 - (intOf i).toNat)
                case atStart => exact ⟨0, by omega, rfl, Below.refl _ _⟩
                case round =>
                  obtain ⟨j, hj8, rfl, hb⟩ := hrel
                  have HB8 := Lib.hid hb
                  clear hb
                  by_cases hlt : j < 8
                  · have hRL := HLA.out.read HLN.out.1 HB8.out hlt
                    have e1 := (HB8.out.cell (p := ⟨g1, j, none⟩) HLA.out.lt1).trans (HLA.out.was j hlt)
                    have e2 := (HB8.out.cell (p := ⟨g2, j, none⟩) HLA.out.lt2).trans (HLA.out.now j hlt)
                    have HCA := Lib.hid (HLA.out.cached HB8.out)
                    have hj1 : (j : Int) < 8 := by omega
                    have hj0 : (0 : Int) ≤ (j : Int) := by omega
                    have hl8 : j < S1.dur.length := by rw [HLN.out.1]; exact hlt
                    cases all
                    · rw [last_none] at hRL
                      generalize at0 S1.dur j = x at hRL e1
                      have HRL := Lib.hid hRL
                      clear hRL
                      go_wp2_with fail
                      refine HRL.out.mono ?_
                      rintro r w8 ⟨rfl, rfl⟩
                      go_wp2_with fail
                      refine HCA.out.mono ?_
                      rintro r w8 ⟨rfl, rfl⟩
                      go_wp2_with fail
                      go_roundw
                      case rel => exact ⟨j + 1, by omega, by simp, HB8.out⟩
                      case measure => simp [intOf]; omega
                    · cases o1
                      · rw [last_all hl8 HO1.out.symm] at hRL
                        generalize (readS S1 (j : Int)).1 = x at hRL e2
                        have HRL := Lib.hid hRL
                        clear hRL
                        go_wp2_with fail
                        refine HRL.out.mono ?_
                        rintro r w8 ⟨rfl, rfl⟩
                        go_wp2_with fail
                        refine HCA.out.mono ?_
                        rintro r w8 ⟨rfl, rfl⟩
                        go_wp2_with fail
                        go_roundw
                        case rel => exact ⟨j + 1, by omega, by simp, HB8.out⟩
                        case measure => simp [intOf]; omega
                      · have HRL := Lib.hid hRL
                        clear hRL
                        go_wp2_with fail
                        refine HRL.out.mono ?_
                        rintro r w8 ⟨rfl, rfl⟩
                        go_wp2_with fail
                        refine HCA.out.mono ?_
                        rintro r w8 ⟨rfl, rfl⟩
                        go_wp2_with fail
                        go_roundw
                        case rel => exact ⟨j + 1, by omega, by simp, HB8.out⟩
                        case measure => simp [intOf]; omega
                  · obtain rfl : j = 8 := by omega
                    have HON := Lib.hid (HLA.out.isOn HB8.out)
                    clear hlt
                    go_wp2_with fail
                    refine HON.out.mono ?_
                    rintro r w8 ⟨rfl, rfl⟩
                    go_wp2_with fail
                    go_ret
                    exact ⟨rfl, HLA.out.below.trans (HB8.out.mono HLA.out.below.size)⟩
end Go.Proofs.Ytebiebbbkdbffaa.Disk
