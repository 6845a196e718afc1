/-
  Walk of the law KvStays.
-/
import Derived.Test.YtdabjhgnmeemiaaGreatDoorKgOn

/-
  The law KvStays, walked.
-/
namespace Go.Proofs.YtdabjhgnmeemiaaGreatDoor.Kv
open Go Go.RowKit
open Go.Proofs.YtdabjhgnmeemiaaGreatDoor.Disk (St Dk Is own Fr Lies newS fillS cutS)
open Go.Proofs.YtdabjhgnmeemiaaGreatDoor.Wal (Wl Wk Log ownW StepW Done Grp Has Kin Either SyncO ResetO framesS fmtS fmt_has Grd)
open Go.Proofs.YtdabjhgnmeemiaaGreatDoor.Batch (less Rising at? Chg ptr Mem Bt Fine LightC madeL good_madeL madeL_length madeL_light madeL_norm)
open Go.Proofs.YtdabjhgnmeemiaaGreatDoor.Nets (Tab Reads Small)

theorem MadeK.runs {w0 w1 w : World} {x : Sk} {n z q : Nat} (h : Below w0.heap.size w0 w1) (hst : Store w x (fmtS n z) ⟨0, 0, []⟩ q []) (h1 : 8 ≤ n) (h2 : n ≤ 40) (h3 : 16 ≤ z) (h4 : z ≤ 64) (hB : w1.heap.size ≤ x.k.d.B) (hb : Below w1.heap.size w1 w) :
    Runs w0 w x.ps x.k.d.pb x (fmtS n z) ⟨0, 0, []⟩ [] [] q 0 3 [] :=
  ⟨hst, Inv.start h1 h2 h3 h4, h.trans (hb.mono h.size), Nat.le_trans h.size hB, rfl, rfl⟩
set_option maxRecDepth 100000 in
set_option maxHeartbeats 4000000 in
theorem kvStays_any (g0 g1 g2 : Int) (v : Value) (es : List Ak) (full : Bool) (w : World) (h : ReadsA w v es) (ho : ∀ e ∈ es, OkA w e) (hm : es.length ≤ 9223372036854775807) (ht : Tab w)
    (hg0 : -9223372036854775808 ≤ g0 ∧ g0 ≤ 9223372036854775807) (hg1 : -9223372036854775808 ≤ g1 ∧ g1 ≤ 9223372036854775807) (hg2 : -9223372036854775808 ≤ g2 ∧ g2 ≤ 9223372036854775807) :
    Calls Tryz.prog 6 #[.agg #[.int .i64 g0, .int .i64 g1, .int .i64 g2], v, .bool full] w fun e w' => e = .returned (.bool true) ∧ Below w.heap.size w w' := by
  obtain ⟨va, cap, rfl, hsh⟩ := h.shape
  have hbx : Below w.heap.size w (w.alloc (.cells #[.int .i64 g0, .int .i64 g1, .int .i64 g2] geoT)) := (Below.refl _ _).alloc (Nat.le_refl _) _
  have hgb : Lies (w.alloc (.cells #[.int .i64 g0, .int .i64 g1, .int .i64 g2] geoT)) w.heap.size #[.int .i64 g0, .int .i64 g1, .int .i64 g2] geoT := Lies.new w _ _
  have H0 := Lib.hid (And.intro (h.below hbx) (And.intro (fun e he => (ho e he).below hbx) (And.intro (ht.below hbx) (And.intro hbx hgb))))
  have HW := Lib.hid (works_any _ (ht.below hbx))
  have HMD := Lib.hid (fun W => madeK_any g0 g1 g2 W hg0.1 hg0.2 hg1.1 hg1.2 hg2.1 hg2.2)
  have H0S := Lib.hid (fun hl => by
    obtain ⟨b, off, h1, h2, h3⟩ := hsh hl
    exact (⟨b, off, h1, by have := hbx.size; omega, fun i a ha => Batch.range_below (h3 i a ha) h2 hbx⟩ : ∃ b off, va = some ⟨b, off, none⟩ ∧ b < (w.alloc (.cells #[.int .i64 g0, .int .i64 g1, .int .i64 g2] geoT)).heap.size ∧ ∀ i x, es[i]? = some x → (w.alloc (.cells #[.int .i64 g0, .int .i64 g1, .int .i64 g2] geoT)).rangeAt b (off + i * 3) (aC x)))
  clear h ho ht hbx hgb hg0 hg1 hg2 hsh
  go_enter Tryz.func6, Tryz.ntmps6
  go_wp2_with fail
  generalize w.alloc (.cells #[.int .i64 g0, .int .i64 g1, .int .i64 g2] geoT) = W0 at *
  refine HW.out.mono ?_
  rintro e w1 ⟨rfl, hb1⟩
  have hg := H0.out.2.2.2.2.same (hb1.block _ H0.out.2.2.2.2.lt)
  have c0 : w1.cell? ⟨w.heap.size, 0, none⟩ = some (.int .i64 g0) := hg.cell 0
  have c1 : w1.cell? ⟨w.heap.size, 1, none⟩ = some (.int .i64 g1) := hg.cell 1
  have c2 : w1.cell? ⟨w.heap.size, 2, none⟩ = some (.int .i64 g2) := hg.cell 2
  have H1 := Lib.hid hb1
  have HMD1 := Lib.hid (HMD.out w1)
  clear hb1 hg HMD HW
  go_wp2_with fail
  refine HMD1.out.mono ?_
  rintro e w2 ⟨x, n, z, m, q, rfl, hmm, h1, h2, h3, h4, hq, hst, hB, hb2⟩
  have hq2 : q < 2000 := by omega
  have hR := MadeK.runs H1.out hst h1 h2 h3 h4 hB hb2
  have hbx : Below w2.heap.size w2 (w2.alloc (.cells (rsC (m : Int) 0 ⟨#[]⟩ (.slice none 0 0) (.slice none 0 0) false q (.slice none 0 0)) r11T)) := (Below.refl _ _).alloc (Nat.le_refl _) _
  have hR2 := hR.below hbx
  have hli := lights_any (.slice va es.length cap) es _ (H0.out.1.below hR2.old) (fun e he => (H0.out.2.1 e he).below hR2.old) hm
  have HLI := Lib.hid hli
  have HR := Lib.hid hR2
  clear hmm h1 h2 h3 h4 hq hst hB hb2 hR hbx hR2 hli HMD1 c0 c1 c2
  go_wp2_with fail
  generalize w2.alloc (.cells (rsC (m : Int) 0 ⟨#[]⟩ (.slice none 0 0) (.slice none 0 0) false q (.slice none 0 0)) r11T) = W2 at *
  refine HLI.out.mono ?_
  rintro e w3 ⟨b, rfl, hls, rfl⟩
  have HLS := Lib.hid hls
  clear HLI hls
  generalize x.ps = ps at *
  generalize x.k.d.pb = pb at *
  cases b
  · go_wp2_with fail
    go_ret
    exact ⟨rfl, H0.out.2.2.2.1.trans (HR.out.old.mono H0.out.2.2.2.1.size)⟩
  · go_wp2_with fail
    have HLT := Lib.hid (HLS.out (by simp))
    clear HLS
    go_loopw [10] (fun i wr => ∃ (k : Nat) (x : Sk) (S : St) (L : Wl) (gs : List Grp) (cs : List Chg) (P : List Pr), k ≤ es.length ∧ k ≤ 30 ∧ i = .int .i64 k ∧ Runs W0 wr ps pb x S L gs cs q (12 * k) (3 + 168 * k) P ∧ S.left = 0) (fun i _ => es.length - (intOf i).toNat)
    case atStart => exact ⟨0, x, _, _, _, _, _, Nat.zero_le _, by omega, rfl, HR.out, rfl⟩
    case round =>
      clear HR x n z
      obtain ⟨k, x, S, L, gs, cs, P, hk, hk30, rfl, hR, hleft⟩ := hrel
      by_cases hlt : k < es.length ∧ k < 30
      · obtain ⟨e, hke⟩ : ∃ e, es[k]? = some e := ⟨es[k]'hlt.1, List.getElem?_eq_getElem hlt.1⟩
        obtain ⟨hl1, hl2⟩ := hlt
        obtain ⟨b, off, rfl, hbl, hcell⟩ := H0S.out (by omega)
        have HCL := Lib.hid (fun W (hW : Below W0.heap.size W0 W) => three (Batch.range_below (hcell k e hke) hbl hW))
        have hoe := H0.out.2.1 e (List.mem_of_getElem? hke)
        have HOE := Lib.hid hoe
        have HLA := Lib.hid (lights_at HLT.out hke hl2)
        have HSC := Lib.hid (hR.scan hq2 (by omega))
        have HRX := Lib.hid (And.intro hR hleft)
        have HKE := Lib.hid (And.intro hbl (And.intro hcell hke))
        clear hR hleft hbl hcell hke hoe
        go_wp2_with fail
        refine HSC.out.mono ?_
        rintro e' w5 ⟨u, rfl, hou, hb5⟩
        have HR5 := Lib.hid (HRX.out.1.below hb5)
        have HA5 := Lib.hid (Aside.of HRX.out.1.st hou)
        have HL5 := Lib.hid HRX.out.2
        obtain ⟨c0, c1, c2⟩ := HCL.out _ HR5.out.old
        clear hou hb5 HSC HRX
        obtain ⟨kd, lv, ls, is⟩ := e
        rcases (show kd = 0 ∨ kd = 1 ∨ (kd ≠ 0 ∧ kd ≠ 1) by omega) with hkd | hkd | ⟨hkd0, hkd1⟩
        · subst hkd
          have HNW := Lib.hid (Batch.new_any w5)
          go_wp2_with fail
          refine HNW.out.mono ?_
          rintro e' w6 ⟨d, rfl, hdp, hdB, hmem, hb6⟩
          have HR6 := Lib.hid (HR5.out.below hb6)
          have HMK := Lib.hid (Batch.make_any hmem (hdB ▸ Nat.le_refl _) hb6 lv ls (HOE.out.reads.below HR5.out.old) HOE.out.each (by have := HLA.out.2; simp at this; omega))
          have HM6 := Lib.hid (And.intro hmem (And.intro hdB hb6))
          obtain ⟨c0, c1, c2⟩ := HCL.out _ HR6.out.old
          clear hdp hdB hmem hb6 HNW
          go_wp2_with fail
          refine HMK.out.mono ?_
          rintro e' w7 ⟨ov, d7, rfl, hro, hbe, hm7, hs7⟩
          have hb7 : Below w5.heap.size w6 w7 := hs7.below HM6.out.1 (Nat.le_of_eq HM6.out.2.1.symm)
          have hb57 : Below w5.heap.size w5 w7 := HM6.out.2.2.trans hb7
          have HR7 := Lib.hid (HR5.out.below hb57)
          have HA7 := Lib.hid (HA5.out.below hb57)
          have HM7 := Lib.hid (And.intro hm7 (And.intro (show d7.B = w5.heap.size by rw [hs7.B]; exact HM6.out.2.1) (show d7.pb = d.pb from hs7.pb)))
          have HN7 := Lib.hid (fun b (hb : ownS x b) => (HR5.out.st.own_lt hb).1)
          have HFI := Lib.hid (fun bb => HR7.out.fill bb)
          clear hro hbe hm7 hs7 hb7 hb57 HMK HM6 HR6 c0 c1 c2
          have hlight : (∀ c ∈ ls, LightC c) ∧ ls.length ≤ 12 := ⟨HLA.out.1.2, HLA.out.2⟩
          have HLL := Lib.hid hlight
          clear hlight
          cases full
          case' false =>
            go_wp2_with fail
          case' true =>
            go_wp2_with fail
            generalize ((k : Int) % 3 == 2) = fb at *
          all_goals
            refine (HFI.out _).mono ?_
            rintro e' w8 ⟨rfl, x8, hR8, hs8⟩
            have hm8 : Mem w8 d7 (madeL ls) := HM7.out.1.frame (frB hs8.fr) fun b hb hd => by
              have h1 := (HM7.out.1.own_lt hd).2
              have h2 := HN7.out b hb
              have h3 := HM7.out.2.1
              omega
            have hcm := hR8.commit hq2 (by omega) (by omega) H0.out.2.2.1 hm8 HLL.out.1 HLL.out.2
            rw [HM7.out.2.2] at hcm
            have HCM := Lib.hid hcm
            have HR8 := Lib.hid hR8
            have HA8 := Lib.hid (HA7.out.step hs8)
            clear hR8 hs8 hm8 hcm HFI
            go_wp2_with fail
            refine HCM.out.mono ?_
            rintro e' w9 ⟨S9, L9, c, x9, P9, rfl, hends, hkin, hst9, hs9⟩
            obtain ⟨⟨gs9, cs9, hR9⟩, hP9, -⟩ := EndPost.on HR8.out hends HL5.out hst9 hs9
            have hl9 : S9.left = 0 := hkin.left HL5.out
            have HFI := Lib.hid (hR9.fill false)
            have HA9 := Lib.hid (HA8.out.step hs9)
            have HP9 := Lib.hid (And.intro hP9 hl9)
            clear hends hkin hst9 hs9 hR9 hP9 hl9 HCM HR8 HA8 HA7 HR7 HM7
            go_wp2_with fail
            refine HFI.out.mono ?_
            rintro e' w10 ⟨rfl, x10, hR10, hs10⟩
            have HT := Lib.hid (And.intro hR10 (And.intro (show (fillS S9 false).left = 0 from HP9.out.2) (And.intro (HA9.out.step hs10) HP9.out.1)))
            clear hR10 hs10 HFI HA9 HP9 HA5 HR5 HN7
            generalize fillS S9 false = S10 at *
            by_cases hc : c = 0
            case' pos => subst hc
            case' neg =>
              have hc1 : (c != 0) = true := by simpa using hc
              have hc2 : (c == 0) = false := by simpa using hc
              have HPE := Lib.hid (HT.out.2.2.2 hc)
            all_goals
              have HSC := Lib.hid (HT.out.1.scan hq2 (by omega))
              go_wp2_with fail
              refine HSC.out.mono ?_
              rintro e' w11 ⟨u2, rfl, hou, hb11⟩
              have hR11 := HT.out.1.below hb11
              have HA11 := Lib.hid (And.intro (HT.out.2.2.1.below hb11) (Aside.of HT.out.1.st hou))
              have HQU := Lib.hid hR11.quota
              have HR11 := Lib.hid (And.intro hR11 (And.intro HT.out.2.1 HT.out.2.2.2))
              have HOP := Lib.hid (hR11.open_ hq2)
              clear hou hb11 hR11 HT HSC
              go_wp2_with fail
              refine HQU.out.mono ?_
              rintro e' w12 ⟨rfl, rfl⟩
              clear HQU
              go_wp2_with fail
              refine HOP.out.mono ?_
              rintro e' w13 ⟨t, rfl, hst13, htd, hb13, hown13, hps13⟩
              have HR13 := Lib.hid (And.intro (HR11.out.1.below hb13) HR11.out.2)
              have HA13 := Lib.hid (And.intro (HA11.out.1.below hb13) (HA11.out.2.below hb13))
              have HST := Lib.hid hst13
              have HQU := Lib.hid (fun (W : World) (hb : Below w13.heap.size w13 W) => (HR13.out.1.below hb).quota)
              have HUS := Lib.hid (fun (W : World) (hb : Below w13.heap.size w13 W) => (HR13.out.1.below hb).used)
              clear hst13 htd hb13 hown13 hps13 HR11 HA11 HOP
              go_wp2_with fail
              have hfr := HR13.out.1.inv.fairP hq2 (by omega)
              have HLEN := Lib.hid hfr.1
              have hused := HR13.out.1.inv.usd
              clear hfr
            all_goals first
              | (have hal := alike_any u2 u P9 P w13 HA13.out.2.1 HA13.out.1.1 HLEN.out (HPE.out ▸ HLEN.out)
                 unfold AlikePost at hal
                 rw [decide_eq_true HPE.out] at hal
                 have HAL := Lib.hid hal
                 clear hal
                 refine HAL.out.mono ?_
                 rintro e' w14 ⟨rfl, hb14⟩
                 have HB14 := Lib.hid hb14
                 clear hb14 HAL HPE
                 go_wp2_with fail)
              | have HB14 := Lib.hid (Below.refl w13.heap.size w13)
            all_goals
              have HS3 := Lib.hid (HR13.out.1.scanT hq2 (by omega) (HST.out.below HB14.out))
              refine HS3.out.mono ?_
              rintro e' w15 ⟨u3, rfl, ho3, hb15⟩
              have hb15' := HB14.out.trans (hb15.mono HB14.out.size)
              have hal := alike_any u2 u3 P9 P9 w15 (HA13.out.2.1.below hb15') (owns_readsP ho3) HLEN.out HLEN.out
              unfold AlikePost at hal
              rw [decide_eq_true rfl] at hal
              have HAL := Lib.hid hal
              have HB15 := Lib.hid hb15'
              clear ho3 hb15 hb15' hal HS3
              go_wp2_with fail
              refine HAL.out.mono ?_
              rintro e' w16 ⟨rfl, hb16⟩
              have hb16' := HB15.out.trans (hb16.mono HB15.out.size)
              have HB16 := Lib.hid hb16'
              have HU16 := Lib.hid (HUS.out _ hb16')
              have HQ16 := Lib.hid (HQU.out _ hb16')
              clear hb16 hb16' HAL HUS HQU
              go_wp2_with fail
              refine HU16.out.mono ?_
              rintro e' w17 ⟨rfl, rfl⟩
              clear HU16
              go_wp2_with fail
              refine HQ16.out.mono ?_
              rintro e' w18 ⟨rfl, rfl⟩
              clear HQ16
              go_wp2_with fail
              go_roundw
              case rel => exact ⟨k + 1, _, _, _, _, _, _, by omega, by omega, by simp, (HR13.out.1.below HB16.out).more (by omega) (by omega), HR13.out.2.1⟩
              case measure => simp [intOf]; omega
        · subst hkd
          have hcp := HR5.out.compact hq2 (by omega) (by omega) H0.out.2.2.1
          have HCP := Lib.hid hcp
          clear hcp
          go_wp2_with fail
          refine HCP.out.mono ?_
          rintro e' w9 ⟨S10, L9, c, x10, P9, rfl, hends, hkin, hst9, hs9⟩
          obtain ⟨⟨gs9, cs9, hR9⟩, hP9, hP0⟩ := EndPost.on HR5.out hends HL5.out hst9 hs9
          have hPP : P9 = P := by
            by_cases hc : c = 0
            · exact hP0 hc
            · exact hP9 hc
          have HT := Lib.hid (And.intro hR9 (And.intro (hkin.left HL5.out) (And.intro (HA5.out.step hs9) hPP)))
          have HPE := Lib.hid hPP
          clear hends hkin hst9 hs9 hR9 hP9 hP0 hPP HCP HA5 HR5
          have HSC := Lib.hid (HT.out.1.scan hq2 (by omega))
          go_wp2_with fail
          refine HSC.out.mono ?_
          rintro e' w11 ⟨u2, rfl, hou, hb11⟩
          have hR11 := HT.out.1.below hb11
          have HA11 := Lib.hid (And.intro (HT.out.2.2.1.below hb11) (Aside.of HT.out.1.st hou))
          have HQU := Lib.hid hR11.quota
          have HR11 := Lib.hid (And.intro hR11 (And.intro HT.out.2.1 HT.out.2.2.2))
          have HOP := Lib.hid (hR11.open_ hq2)
          clear hou hb11 hR11 HT HSC
          go_wp2_with fail
          refine HQU.out.mono ?_
          rintro e' w12 ⟨rfl, rfl⟩
          clear HQU
          go_wp2_with fail
          refine HOP.out.mono ?_
          rintro e' w13 ⟨t, rfl, hst13, htd, hb13, hown13, hps13⟩
          have HR13 := Lib.hid (And.intro (HR11.out.1.below hb13) HR11.out.2)
          have HA13 := Lib.hid (And.intro (HA11.out.1.below hb13) (HA11.out.2.below hb13))
          have HST := Lib.hid hst13
          have HQU := Lib.hid (fun (W : World) (hb : Below w13.heap.size w13 W) => (HR13.out.1.below hb).quota)
          have HUS := Lib.hid (fun (W : World) (hb : Below w13.heap.size w13 W) => (HR13.out.1.below hb).used)
          clear hst13 htd hb13 hown13 hps13 HR11 HA11 HOP
          go_wp2_with fail
          have hfr := HR13.out.1.inv.fairP hq2 (by omega)
          have HLEN := Lib.hid hfr.1
          have hused := HR13.out.1.inv.usd
          clear hfr
          have hal := alike_any u2 u P9 P w13 HA13.out.2.1 HA13.out.1.1 HLEN.out (HPE.out ▸ HLEN.out)
          unfold AlikePost at hal
          rw [decide_eq_true HPE.out] at hal
          have HAL := Lib.hid hal
          clear hal
          refine HAL.out.mono ?_
          rintro e' w14 ⟨rfl, hb14⟩
          have HB14 := Lib.hid hb14
          clear hb14 HAL HPE
          go_wp2_with fail
          have HS3 := Lib.hid (HR13.out.1.scanT hq2 (by omega) (HST.out.below HB14.out))
          refine HS3.out.mono ?_
          rintro e' w15 ⟨u3, rfl, ho3, hb15⟩
          have hb15' := HB14.out.trans (hb15.mono HB14.out.size)
          have hal := alike_any u2 u3 P9 P9 w15 (HA13.out.2.1.below hb15') (owns_readsP ho3) HLEN.out HLEN.out
          unfold AlikePost at hal
          rw [decide_eq_true rfl] at hal
          have HAL := Lib.hid hal
          have HB15 := Lib.hid hb15'
          clear ho3 hb15 hb15' hal HS3
          go_wp2_with fail
          refine HAL.out.mono ?_
          rintro e' w16 ⟨rfl, hb16⟩
          have hb16' := HB15.out.trans (hb16.mono HB15.out.size)
          have HB16 := Lib.hid hb16'
          have HU16 := Lib.hid (HUS.out _ hb16')
          have HQ16 := Lib.hid (HQU.out _ hb16')
          clear hb16 hb16' HAL HUS HQU
          go_wp2_with fail
          refine HU16.out.mono ?_
          rintro e' w17 ⟨rfl, rfl⟩
          clear HU16
          go_wp2_with fail
          refine HQ16.out.mono ?_
          rintro e' w18 ⟨rfl, rfl⟩
          clear HQ16
          go_wp2_with fail
          go_roundw
          case rel => exact ⟨k + 1, _, _, _, _, _, _, by omega, by omega, by simp, (HR13.out.1.below HB16.out).more (by omega) (by omega), HR13.out.2.1⟩
          case measure => simp [intOf]; omega
        · have hk0 : (kd == 0) = false := by simpa using hkd0
          have hk1 : (kd == 1) = false := by simpa using hkd1
          have hRP := HR5.out.more (m' := 12 * k + 12) (n' := 3 + 168 * k + 168) (by omega) (by omega)
          obtain ⟨P9, hPP⟩ : ∃ P9, P9 = P := ⟨_, rfl⟩
          rw [← hPP] at hRP
          have HT := Lib.hid (And.intro hRP (And.intro HL5.out (And.intro HA5.out hPP)))
          have HPE := Lib.hid hPP
          clear hRP hPP HA5 HR5
          have HSC := Lib.hid (HT.out.1.scan hq2 (by omega))
          go_wp2_with fail
          refine HSC.out.mono ?_
          rintro e' w11 ⟨u2, rfl, hou, hb11⟩
          have hR11 := HT.out.1.below hb11
          have HA11 := Lib.hid (And.intro (HT.out.2.2.1.below hb11) (Aside.of HT.out.1.st hou))
          have HQU := Lib.hid hR11.quota
          have HR11 := Lib.hid (And.intro hR11 (And.intro HT.out.2.1 HT.out.2.2.2))
          have HOP := Lib.hid (hR11.open_ hq2)
          clear hou hb11 hR11 HT HSC
          go_wp2_with fail
          refine HQU.out.mono ?_
          rintro e' w12 ⟨rfl, rfl⟩
          clear HQU
          go_wp2_with fail
          refine HOP.out.mono ?_
          rintro e' w13 ⟨t, rfl, hst13, htd, hb13, hown13, hps13⟩
          have HR13 := Lib.hid (And.intro (HR11.out.1.below hb13) HR11.out.2)
          have HA13 := Lib.hid (And.intro (HA11.out.1.below hb13) (HA11.out.2.below hb13))
          have HST := Lib.hid hst13
          have HQU := Lib.hid (fun (W : World) (hb : Below w13.heap.size w13 W) => (HR13.out.1.below hb).quota)
          have HUS := Lib.hid (fun (W : World) (hb : Below w13.heap.size w13 W) => (HR13.out.1.below hb).used)
          clear hst13 htd hb13 hown13 hps13 HR11 HA11 HOP
          go_wp2_with fail
          have hfr := HR13.out.1.inv.fairP hq2 (by omega)
          have HLEN := Lib.hid hfr.1
          have hused := HR13.out.1.inv.usd
          clear hfr
          have hal := alike_any u2 u P9 P w13 HA13.out.2.1 HA13.out.1.1 HLEN.out (HPE.out ▸ HLEN.out)
          unfold AlikePost at hal
          rw [decide_eq_true HPE.out] at hal
          have HAL := Lib.hid hal
          clear hal
          refine HAL.out.mono ?_
          rintro e' w14 ⟨rfl, hb14⟩
          have HB14 := Lib.hid hb14
          clear hb14 HAL HPE
          go_wp2_with fail
          have HS3 := Lib.hid (HR13.out.1.scanT hq2 (by omega) (HST.out.below HB14.out))
          refine HS3.out.mono ?_
          rintro e' w15 ⟨u3, rfl, ho3, hb15⟩
          have hb15' := HB14.out.trans (hb15.mono HB14.out.size)
          have hal := alike_any u2 u3 P9 P9 w15 (HA13.out.2.1.below hb15') (owns_readsP ho3) HLEN.out HLEN.out
          unfold AlikePost at hal
          rw [decide_eq_true rfl] at hal
          have HAL := Lib.hid hal
          have HB15 := Lib.hid hb15'
          clear ho3 hb15 hb15' hal HS3
          go_wp2_with fail
          refine HAL.out.mono ?_
          rintro e' w16 ⟨rfl, hb16⟩
          have hb16' := HB15.out.trans (hb16.mono HB15.out.size)
          have HB16 := Lib.hid hb16'
          have HU16 := Lib.hid (HUS.out _ hb16')
          have HQ16 := Lib.hid (HQU.out _ hb16')
          clear hb16 hb16' HAL HUS HQU
          go_wp2_with fail
          refine HU16.out.mono ?_
          rintro e' w17 ⟨rfl, rfl⟩
          clear HU16
          go_wp2_with fail
          refine HQ16.out.mono ?_
          rintro e' w18 ⟨rfl, rfl⟩
          clear HQ16
          go_wp2_with fail
          go_roundw
          case rel => exact ⟨k + 1, _, _, _, _, _, _, by omega, by omega, by simp, (HR13.out.1.below HB16.out).more (by omega) (by omega), HR13.out.2.1⟩
          case measure => simp [intOf]; omega
      · have hend : ¬ k < es.length ∨ ¬ k < 30 := by omega
        have HF := Lib.hid (H0.out.2.2.2.1.trans (hR.old.mono H0.out.2.2.2.1.size))
        clear hR hleft hlt
        by_cases h40 : k < es.length
        · have h41 : ¬ k < 30 := by omega
          go_wp2_with fail
          go_ret
          exact ⟨rfl, HF.out⟩
        · go_wp2_with fail
          go_ret
          exact ⟨rfl, HF.out⟩
end Go.Proofs.YtdabjhgnmeemiaaGreatDoor.Kv
