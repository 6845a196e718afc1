/-
  Walk of the law KvCrash.
-/
import Derived.Test.YtdabjhgnmeemiaaGreatDoorKgRun
import Derived.Test.YtdabjhgnmeemiaaGreatDoorKgShared
import Derived.Test.YtdabjhgnmeemiaaGreatDoorKgStays

/-
  The law KvCrash, walked.
-/
namespace Go.Proofs.YtdabjhgnmeemiaaGreatDoor.Kv
open Go Go.RowKit
open Go.Proofs.YtdabjhgnmeemiaaGreatDoor.Disk (St Dk Is own Fr Lies newS fillS cutS crashS ReadsK)
open Go.Proofs.YtdabjhgnmeemiaaGreatDoor.Wal (Wl Wk Log ownW StepW Done Grp Has Kin Either SyncO ResetO framesS fmtS fmt_has Grd)
open Go.Proofs.YtdabjhgnmeemiaaGreatDoor.Batch (less Rising at? Chg ptr Mem Bt Fine)
open Go.Proofs.YtdabjhgnmeemiaaGreatDoor.Nets (Tab Reads Small)

section
variable {w0 w w' : World} {ps pb : Nat} {x : Sk} {S : St} {L : Wl} {gs : List Grp} {cs : List Chg} {q m n : Nat} {P T : List Pr}
def CrashPost (w0 w : World) (ps pb : Nat) (x : Sk) (S : St) (L : Wl) (q : Nat) (P : List Pr) (e : Ending) (w' : World) : Prop :=
  e = .returned (.tuple #[]) ∧ ∃ x', Held w0 w' ps pb x' S L q P ∧ StepS w x w' x'
theorem Held.crash (h : Held w0 w ps pb x S L q P) {kv : Value} {ks : List Bool} {torn : Int} (hk : ReadsK w kv ks) (hkl : ks.length ≤ 9223372036854775807) :
    Calls Tryz.prog 28 #[ptr pb, kv, .int .i64 torn] w (CrashPost w0 w ps pb x (crashS S ks torn) L q P) := by
  have := Disk.crash_any h.st.log.disk kv ks torn hk hkl
  rw [h.pb] at this
  refine this.mono fun e w' hh => ?_
  obtain ⟨rfl, hL⟩ := hh
  obtain ⟨cv', hl', hs⟩ := h.st.log.left hL
  obtain ⟨k', hst, hs2⟩ := h.st.logged (S' := crashS S ks torn) (L' := L) ⟨_, hl', hs⟩
  exact ⟨rfl, _, h.step hst hs2, hs2⟩
theorem Held.quota (h : Held w0 w ps pb x S L q P) : Calls Tryz.prog 17 #[ptr ps] w fun e w' => e = .returned (.int .i64 q) ∧ w' = w := by
  have := quotaS h.st
  rwa [h.ps] at this
theorem Held.opens (h : Held w0 w ps pb x S L q P) {hf : Nat} (hh : Has S hf gs) (hb : Bears gs cs T) (ht : Tame T) (hq : q < 2000) : Calls Tryz.prog 26 #[ptr pb, .int .i64 q] w (OpenPost w x.k.d S hf gs q T) := by
  have hfl := has_flat hh
  have hl : cs.length ≤ 100000 := by
    have e := congrArg List.length hb.txt
    rw [List.length_map] at e
    omega
  have := openS h.st.log.disk hf gs hh cs hb.txt hb.told (fun c hc => by
    have : texB c ∈ gs.flatten := by rw [hb.txt]; exact List.mem_map_of_mem hc
    have := hfl.2 _ this
    omega) hl q (by omega) (by rw [hb.is]; have := ht.used; omega)
  rwa [hb.is, h.pb] at this
theorem scan_tame {t : Sk} (hst : Store w t S L q T) (ht : Tame T) : Calls Tryz.prog 12 #[ptr t.ps, .string ⟨#[]⟩] w (ListPost w T) := by
  have := scanS hst ht.fits.rise (by have := ht.few; omega) ⟨#[]⟩ (by decide) (fun y hy => by have := (ht.fits.size hy).2.1; omega)
  rwa [scan_all] at this
def CutPost (w0 w : World) (ps pb : Nat) (x : Sk) (S : St) (L : Wl) (gs : List Grp) (cs : List Chg) (q m n : Nat) (P : List Pr) (a : Int) (e : Ending) (w' : World) : Prop :=
  e = .returned (.tuple #[]) ∧ ∃ x', Runs w0 w' ps pb x' (cutS S a) L gs cs q m n P ∧ StepS w x w' x'
theorem Runs.cut (h : Runs w0 w ps pb x S L gs cs q m n P) (a : Int) (h1 : -9223372036854775808 ≤ a) (h2 : a ≤ 9223372036854775807) : Calls Tryz.prog 24 #[ptr pb, .int .i64 a] w (CutPost w0 w ps pb x S L gs cs q m n P a) := by
  have := Wal.cutW h.st.log a h1 h2
  rw [h.pb] at this
  refine this.mono fun e w' hh => ?_
  obtain ⟨rfl, hd⟩ := hh
  obtain ⟨k', hst, hs⟩ := h.st.logged hd
  exact ⟨rfl, _, h.step hst hs (h.inv.cut a), hs⟩
end
set_option maxRecDepth 100000 in
set_option maxHeartbeats 4000000 in
theorem kvCrash_any (g0 g1 g2 : Int) (v : Value) (es : List Ak) (cr : CrashArg) (w : World) (h : ReadsA w v es) (ho : ∀ e ∈ es, OkA w e) (hm : es.length ≤ 9223372036854775807) (ht : Tab w) (hcr : OkX w cr)
    (hg0 : -9223372036854775808 ≤ g0 ∧ g0 ≤ 9223372036854775807) (hg1 : -9223372036854775808 ≤ g1 ∧ g1 ≤ 9223372036854775807) (hg2 : -9223372036854775808 ≤ g2 ∧ g2 ≤ 9223372036854775807) :
    Calls Tryz.prog 5 #[.agg #[.int .i64 g0, .int .i64 g1, .int .i64 g2], v, .agg #[.int .i64 cr.at_, cr.kv, .int .i64 cr.torn]] w fun e w' => e = .returned (.bool true) ∧ Below w.heap.size w w' := by
  obtain ⟨va, cap, rfl, hsh⟩ := h.shape
  obtain ⟨cat, kv, ks, torn⟩ := cr
  obtain ⟨ka, kc, hkv0, -⟩ := hcr.reads.shape
  have hkv : kv = .slice ka ks.length kc := hkv0
  clear hkv0
  subst hkv
  dsimp only
  have hbx : Below w.heap.size w ((w.alloc (.cells #[.int .i64 g0, .int .i64 g1, .int .i64 g2] geoT)).alloc (.cells #[.int .i64 cat, .slice ka ks.length kc, .int .i64 torn] crT)) := ((Below.refl _ _).alloc (Nat.le_refl _) _).alloc (by simp) _
  have hcb : Lies ((w.alloc (.cells #[.int .i64 g0, .int .i64 g1, .int .i64 g2] geoT)).alloc (.cells #[.int .i64 cat, .slice ka ks.length kc, .int .i64 torn] crT)) (w.heap.size + 1) #[.int .i64 cat, .slice ka ks.length kc, .int .i64 torn] crT := Disk.new_at (by simp)
  have hgb : Lies ((w.alloc (.cells #[.int .i64 g0, .int .i64 g1, .int .i64 g2] geoT)).alloc (.cells #[.int .i64 cat, .slice ka ks.length kc, .int .i64 torn] crT)) w.heap.size #[.int .i64 g0, .int .i64 g1, .int .i64 g2] geoT := (Lies.new w _ _).same (Below.heap_alloc _ _ _ (by simp))
  have H0 := Lib.hid (And.intro (h.below hbx) (And.intro (fun e he => (ho e he).below hbx) (And.intro (ht.below hbx) (And.intro hbx (And.intro hgb (And.intro hcb (hcr.below hbx)))))))
  have HW := Lib.hid (works_any _ (ht.below hbx))
  have HMD := Lib.hid (fun W => madeK_any g0 g1 g2 W hg0.1 hg0.2 hg1.1 hg1.2 hg2.1 hg2.2)
  clear h ho ht hbx hgb hcb hcr hg0 hg1 hg2 hsh
  go_enter Tryz.func5, Tryz.ntmps5
  go_wp2_with fail
  generalize (w.alloc (.cells #[.int .i64 g0, .int .i64 g1, .int .i64 g2] geoT)).alloc (.cells #[.int .i64 cat, .slice ka ks.length kc, .int .i64 torn] crT) = W0 at *
  refine HW.out.mono ?_
  rintro e w1 ⟨rfl, hb1⟩
  have hg := H0.out.2.2.2.2.1.same (hb1.block _ H0.out.2.2.2.2.1.lt)
  have c0 : w1.cell? ⟨w.heap.size, 0, none⟩ = some (.int .i64 g0) := hg.cell 0
  have c1 : w1.cell? ⟨w.heap.size, 1, none⟩ = some (.int .i64 g1) := hg.cell 1
  have c2 : w1.cell? ⟨w.heap.size, 2, none⟩ = some (.int .i64 g2) := hg.cell 2
  have H1 := Lib.hid hb1
  have HMD1 := Lib.hid (HMD.out w1)
  clear hb1 hg HMD HW
  go_wp2_with fail
  refine HMD1.out.mono ?_
  rintro e w2 ⟨x, n, z, m, q, rfl, hmm, h1, h2, h3, h4, hq, hst, hB, hb2⟩
  have hq2 : q < 2000 := by omega
  have hR := MadeK.runs H1.out hst h1 h2 h3 h4 hB hb2
  have hbx : Below w2.heap.size w2 (w2.alloc (.cells (rsC (m : Int) 0 ⟨#[]⟩ (.slice none 0 0) (.slice none 0 0) false q (.slice none 0 0)) r11T)) := (Below.refl _ _).alloc (Nat.le_refl _) _
  have hR2 := hR.below hbx
  have hli := lights_any (.slice va es.length cap) es _ (H0.out.1.below hR2.old) (fun e he => (H0.out.2.1 e he).below hR2.old) hm
  have HLI := Lib.hid hli
  have HR := Lib.hid hR2
  clear hmm h1 h2 h3 h4 hq hst hB hb2 hR hbx hR2 hli HMD1 c0 c1 c2
  go_wp2_with fail
  generalize w2.alloc (.cells (rsC (m : Int) 0 ⟨#[]⟩ (.slice none 0 0) (.slice none 0 0) false q (.slice none 0 0)) r11T) = W2 at *
  refine HLI.out.mono ?_
  rintro e w3 ⟨b, rfl, hls, rfl⟩
  have HLS := Lib.hid hls
  clear HLI hls
  generalize x.ps = ps at *
  generalize x.k.d.pb = pb at *
  cases b
  · go_wp2_with fail
    go_ret
    exact ⟨rfl, H0.out.2.2.2.1.trans (HR.out.old.mono H0.out.2.2.2.1.size)⟩
  · have HBC := Lib.hid (fun (W : World) (hW : Below W0.heap.size W0 W) => H0.out.2.2.2.2.2.1.same (hW.block _ H0.out.2.2.2.2.2.1.lt))
    have HOX := Lib.hid H0.out.2.2.2.2.2.2
    have HCU := Lib.hid (HR.out.cut cat HOX.out.at1 HOX.out.at2)
    have b0 := (HBC.out _ HR.out.old).cell 0
    go_wp2_with fail
    refine HCU.out.mono ?_
    rintro e w4 ⟨rfl, x4, hR4, hs4⟩
    have HRN := Lib.hid (run_any (.slice va es.length cap) es W0 w4 H0.out.1 H0.out.2.1 hm (HLS.out (by simp)) H0.out.2.2.1 ps pb x4 _ _ q hq2 hR4)
    clear hR4 hs4 HCU b0
    go_wp2_with fail
    refine HRN.out.mono ?_
    rintro e w5 ⟨tv, ov, x5, S5, L5, P0, P, Q, rfl, hh5, hA1, hA2, tP, tQ, hsv⟩
    obtain ⟨hf, gs, cs, T, hhas, hbe, hT⟩ := hsv ks torn
    have HCR := Lib.hid (hh5.crash (torn := torn) (HOX.out.reads.below hh5.old) HOX.out.len)
    have HTT := Lib.hid (And.intro hhas (And.intro hbe (And.intro hT (And.intro tP tQ))))
    have b1 := (HBC.out _ hh5.old).cell 1
    have b2 := (HBC.out _ hh5.old).cell 2
    have HA5 := Lib.hid (And.intro hA1 hA2)
    clear hh5 hA1 hA2 tP tQ hsv hhas hbe hT HRN
    go_wp2_with fail
    refine HCR.out.mono ?_
    rintro e w6 ⟨rfl, x6, hh6, hs6⟩
    have HA6 := Lib.hid (And.intro (HA5.out.1.step hs6) (HA5.out.2.step hs6))
    generalize crashS S5 ks torn = S6 at *
    have htT : Tame T := by
      rcases HTT.out.2.2.1 with e | e
      · rw [e]; exact HTT.out.2.2.2.1
      · rw [e]; exact HTT.out.2.2.2.2
    have HQ6 := Lib.hid hh6.quota
    have HOP := Lib.hid (hh6.opens HTT.out.1 HTT.out.2.1 htT hq2)
    have HH6 := Lib.hid hh6
    have HTM := Lib.hid htT
    clear hh6 hs6 htT HCR HA5 b1 b2
    go_wp2_with fail
    refine HQ6.out.mono ?_
    rintro e w7 ⟨rfl, rfl⟩
    clear HQ6
    go_wp2_with fail
    refine HOP.out.mono ?_
    rintro e w8 ⟨t, rfl, hst8, htd, hb8, hown8, hps8⟩
    have HS8 := Lib.hid (scan_tame hst8 HTM.out)
    have HH8 := Lib.hid (HH6.out.below hb8)
    have HA8 := Lib.hid (And.intro (HA6.out.1.below hb8) (HA6.out.2.below hb8))
    clear hst8 htd hb8 hown8 hps8 HOP HH6 HA6
    go_wp2_with fail
    refine HS8.out.mono ?_
    rintro e w9 ⟨u, rfl, hou, hb9⟩
    have HU9 := Lib.hid (Aside.of HH8.out.st hou)
    have HH9 := Lib.hid (HH8.out.below hb9)
    have HA9 := Lib.hid (And.intro (HA8.out.1.below hb9) (HA8.out.2.below hb9))
    clear hou hb9 HS8 HH8 HA8
    have hfew := HTM.out.few
    have hfP := HTT.out.2.2.2.1.few
    have hfQ := HTT.out.2.2.2.2.few
    have hal1 := alike_any u tv T P w9 HU9.out.1 HA9.out.1.1 (by omega) (by omega)
    unfold AlikePost at hal1
    clear hfew hfP hfQ
    by_cases hTP : T = P
    · rw [decide_eq_true hTP] at hal1
      have HAL1 := Lib.hid hal1
      clear hal1 hTP
      go_wp2_with fail
      refine HAL1.out.mono ?_
      rintro e w12 ⟨rfl, hb12⟩
      have HBN := Lib.hid hb12
      clear hb12 HAL1
      have HH12 := Lib.hid (HH9.out.below HBN.out)
      have HU12 := Lib.hid (HU9.out.below HBN.out)
      have b1 := (HBC.out _ HH12.out.old).cell 1
      have b2 := (HBC.out _ HH12.out.old).cell 2
      have HCR := Lib.hid (HH12.out.crash (torn := torn) (HOX.out.reads.below HH12.out.old) HOX.out.len)
      clear HH9 HU9 HA9 HBN
      go_wp2_with fail
      refine HCR.out.mono ?_
      rintro e w13 ⟨rfl, x13, hh13, hs13⟩
      have hhas13 := HTT.out.1.crash ks torn
      have HU13 := Lib.hid (HU12.out.step hs13)
      generalize crashS S6 ks torn = S13 at *
      have HQ13 := Lib.hid hh13.quota
      have HOP := Lib.hid (hh13.opens hhas13 HTT.out.2.1 HTM.out hq2)
      have HH13 := Lib.hid hh13
      clear hh13 hs13 hhas13 HCR HH12 HU12 b1 b2
      go_wp2_with fail
      refine HQ13.out.mono ?_
      rintro e w14 ⟨rfl, rfl⟩
      clear HQ13
      go_wp2_with fail
      refine HOP.out.mono ?_
      rintro e w15 ⟨t2, rfl, hst15, htd, hb15, hown15, hps15⟩
      have HS15 := Lib.hid (scan_tame hst15 HTM.out)
      have HH15 := Lib.hid (HH13.out.below hb15)
      have HU15 := Lib.hid (HU13.out.below hb15)
      clear hst15 htd hb15 hown15 hps15 HOP HH13 HU13
      go_wp2_with fail
      refine HS15.out.mono ?_
      rintro e w16 ⟨u2, rfl, hou, hb16⟩
      have hfew := HTM.out.few
      have hal := alike_any u2 u T T w16 (owns_readsP hou) (HU15.out.1.below hb16) (by omega) (by omega)
      unfold AlikePost at hal
      rw [decide_eq_true rfl] at hal
      have HAL := Lib.hid hal
      have HH16 := Lib.hid (HH15.out.below hb16)
      clear hou hb16 hal hfew HS15 HH15 HU15
      go_wp2_with fail
      refine HAL.out.mono ?_
      rintro e w17 ⟨rfl, hb17⟩
      have HF := Lib.hid (HH16.out.old.trans (hb17.mono HH16.out.old.size))
      clear hb17 HAL HH16
      go_wp2_with fail
      go_ret
      exact ⟨rfl, H0.out.2.2.2.1.trans (HF.out.mono H0.out.2.2.2.1.size)⟩
    · rw [decide_eq_false hTP] at hal1
      have hTQ : T = Q := by
        rcases HTT.out.2.2.1 with e | e
        · exact absurd e hTP
        · exact e
      have HAL1 := Lib.hid hal1
      have HTQ := Lib.hid hTQ
      clear hal1 hTP hTQ
      go_wp2_with fail
      refine HAL1.out.mono ?_
      rintro e w11 ⟨rfl, hb11⟩
      have hfew := HTM.out.few
      have hfQ := HTT.out.2.2.2.2.few
      have hal2 := alike_any u ov T Q w11 (HU9.out.1.below hb11) (HA9.out.2.1.below hb11) (by omega) (by omega)
      unfold AlikePost at hal2
      rw [decide_eq_true HTQ.out] at hal2
      have HAL2 := Lib.hid hal2
      have HB11 := Lib.hid hb11
      clear hal2 hb11 HAL1 hfew hfQ
      go_wp2_with fail
      refine HAL2.out.mono ?_
      rintro e w12 ⟨rfl, hb12⟩
      have HBN := Lib.hid (HB11.out.trans (hb12.mono HB11.out.size))
      clear hb12 HAL2 HB11
      have HH12 := Lib.hid (HH9.out.below HBN.out)
      have HU12 := Lib.hid (HU9.out.below HBN.out)
      have b1 := (HBC.out _ HH12.out.old).cell 1
      have b2 := (HBC.out _ HH12.out.old).cell 2
      have HCR := Lib.hid (HH12.out.crash (torn := torn) (HOX.out.reads.below HH12.out.old) HOX.out.len)
      clear HH9 HU9 HA9 HBN
      go_wp2_with fail
      refine HCR.out.mono ?_
      rintro e w13 ⟨rfl, x13, hh13, hs13⟩
      have hhas13 := HTT.out.1.crash ks torn
      have HU13 := Lib.hid (HU12.out.step hs13)
      generalize crashS S6 ks torn = S13 at *
      have HQ13 := Lib.hid hh13.quota
      have HOP := Lib.hid (hh13.opens hhas13 HTT.out.2.1 HTM.out hq2)
      have HH13 := Lib.hid hh13
      clear hh13 hs13 hhas13 HCR HH12 HU12 b1 b2
      go_wp2_with fail
      refine HQ13.out.mono ?_
      rintro e w14 ⟨rfl, rfl⟩
      clear HQ13
      go_wp2_with fail
      refine HOP.out.mono ?_
      rintro e w15 ⟨t2, rfl, hst15, htd, hb15, hown15, hps15⟩
      have HS15 := Lib.hid (scan_tame hst15 HTM.out)
      have HH15 := Lib.hid (HH13.out.below hb15)
      have HU15 := Lib.hid (HU13.out.below hb15)
      clear hst15 htd hb15 hown15 hps15 HOP HH13 HU13
      go_wp2_with fail
      refine HS15.out.mono ?_
      rintro e w16 ⟨u2, rfl, hou, hb16⟩
      have hfew := HTM.out.few
      have hal := alike_any u2 u T T w16 (owns_readsP hou) (HU15.out.1.below hb16) (by omega) (by omega)
      unfold AlikePost at hal
      rw [decide_eq_true rfl] at hal
      have HAL := Lib.hid hal
      have HH16 := Lib.hid (HH15.out.below hb16)
      clear hou hb16 hal hfew HS15 HH15 HU15
      go_wp2_with fail
      refine HAL.out.mono ?_
      rintro e w17 ⟨rfl, hb17⟩
      have HF := Lib.hid (HH16.out.old.trans (hb17.mono HH16.out.old.size))
      clear hb17 HAL HH16
      go_wp2_with fail
      go_ret
      exact ⟨rfl, H0.out.2.2.2.1.trans (HF.out.mono H0.out.2.2.2.1.size)⟩
end Go.Proofs.YtdabjhgnmeemiaaGreatDoor.Kv
