/-
  Walk of the law KvRefused.
-/
import Derived.Test.YtdabjhgnmeemiaaGreatDoorKgShared

/-
  The law of what is refused: a quota below 0, a disk without power.
-/
namespace Go.Proofs.YtdabjhgnmeemiaaGreatDoor.Kv
open Go Go.RowKit
open Go.Proofs.YtdabjhgnmeemiaaGreatDoor.Disk (St Dk Is own Fr Lies newS new_at cutS opS putS put_cut sizeIs readS readIs_any cutIs_any write_any zs zs_size)
open Go.Proofs.YtdabjhgnmeemiaaGreatDoor.Wal (Wl Wk Log ownW StepW Done Grp Has framesS fmtS fmt_has fS repeatW firstW walT)
open Go.Proofs.YtdabjhgnmeemiaaGreatDoor.Batch (ptr)
open Go.Proofs.YtdabjhgnmeemiaaGreatDoor.Nets (Tab)

/-- A new disk whose power fails at its first operation; and that disk behind it. -/
theorem put_one {n z : Nat} (h : 8 ≤ n) : putS (cutS (newS n z) 1) ((1 : Nat) : Int) (zs z) = (⟨z, List.replicate n (zs z), [⟨1, zs z⟩], 0, false, true, 1⟩, 80) := by
  have h1 : (cutS (newS n z) 1).dur.length = n := List.length_replicate
  refine (put_cut ?_ rfl rfl).trans ?_
  · rw [h1, zs_size]
    show ¬ (_ ∨ _ ∨ z ≠ z)
    omega
  · rfl
theorem read_off {S : St} (ho : S.off = true) (h : 0 < S.dur.length) : readS S ((0 : Nat) : Int) = (⟨#[]⟩, 80) := by
  unfold readS
  rw [if_neg (by omega), if_pos ho]
section
variable {w : World} {d : Dk}
def OffPost (w : World) (d : Dk) (e : Ending) (w' : World) : Prop :=
  ∃ d' S', e = .returned (.tuple #[.pointer none, .int .i64 80]) ∧ Is w' d' S' ∧ d'.pb = d.pb ∧ S'.off = true ∧ 0 < S'.dur.length ∧ Below d.B w w'
set_option maxRecDepth 100000 in
set_option maxHeartbeats 1000000 in
theorem formatOff {n z : Nat} (h : Is w d (cutS (newS n z) 1)) (h1 : 8 ≤ n) (h4 : z ≤ 64) :
    Calls Tryz.prog 47 #[ptr d.pb] w (OffPost w d) := by
  have hm := Wal.Log.made h 0
  have hB : Hid (d.B ≤ w.heap.size) := by
    have h1 := (h.own_lt (k := d.pb) (.inl rfl)).1
    have h2 := (h.own_lt (k := d.pb) (.inl rfl)).2
    show _ ≤ _
    omega
  have hal : Below w.heap.size w (w.alloc (.cells #[ptr d.pb, .int .i64 (0 : Nat), .int .i64 0, .slice none 0 0] walT)) := (Below.refl _ _).alloc (Nat.le_refl _) _
  have HM := Lib.hid (And.intro hm hal)
  have HZ := Lib.hid (sizeIs hm.disk)
  have HR := Lib.hid (fun W => repeatW W z (by omega))
  have HF := Lib.hid (fun W k' S' L' (hl : Log W k' S' L') => (by have := firstW hl 0 (by omega); rw [Nat.zero_mul, Nat.add_zero] at this; exact this : Calls Tryz.prog 80 #[ptr k'.pw, .int .i64 (0 : Nat)] W fun e w' => e = .returned (.int .i64 (1 : Nat)) ∧ w' = W))
  have HP0 := Lib.hid (put_one (z := z) h1)
  have hzs : (zs z).size = z := zs_size z
  clear h hm hal
  go_enter Tryz.func47, Tryz.ntmps47
  go_wp2_with fail
  refine HZ.out.mono ?_
  rintro e w1 ⟨rfl, rfl⟩
  clear HZ
  go_wp2_with fail
  refine (HR.out _).mono ?_
  rintro e w2 ⟨rfl, hb2⟩
  have hL2 := HM.out.1.below hb2
  have HB2 := Lib.hid (HM.out.2.trans (hb2.mono HM.out.2.size))
  have HF2 := Lib.hid (HF.out w2 _ _ _ hL2)
  have HL2 := Lib.hid hL2
  clear hL2 hb2 HF HR
  go_wp2_with fail
  refine HF2.out.mono ?_
  rintro e w3 ⟨rfl, rfl⟩
  go_wp2_with fail
  have hb3 : Below w3.heap.size w3 (w3.alloc (.cells #[.int .i64 1, .int .i64 0] 3)) := (Below.refl _ _).alloc (Nat.le_refl _) _
  have HW := Lib.hid (And.intro (HL2.out.below hb3) (And.intro (HB2.out.trans (hb3.mono HB2.out.size)) (Lies.new w3 #[.int .i64 1, .int .i64 0] 3)))
  clear hb3 HL2 HB2 HM HF2
  generalize w3.alloc (.cells #[.int .i64 1, .int .i64 0] 3) = W at *
  generalize w3.heap.size = sb at *
  go_loopw [7, 8, 20] (fun _ _ i wr => i = .int .i64 (0 : Nat) ∧ wr = W) (fun _ _ _ _ => 1)
  case atStart => exact ⟨rfl, rfl⟩
  case round =>
    obtain ⟨rfl, rfl⟩ := hrel
    have hs0 := HW.out.2.2.cell 0
    have hw := write_any HW.out.1.disk ((1 : Nat) : Int) (zs z) (by show 0 < 1000000; omega)
    rw [HP0.out] at hw
    have HWR := Lib.hid hw
    clear hw
    simp at hs0
    go_wp2_with fail
    refine HWR.out.mono ?_
    rintro e w' ⟨rfl, cv', hI, hS⟩
    have hbw := (HW.out.2.1.mono hB.out).trans (hS.fr.below (by have := HW.out.2.1.size; have := hB.out; omega) fun b hb => (HW.out.1.disk.own_lt hb).2)
    have HQ := Lib.hid (And.intro hI hbw)
    clear hI hS hbw
    go_wp2_with fail
    go_ret2
    exact ⟨_, _, rfl, HQ.out.1, rfl, rfl, by show 0 < (List.replicate n (zs z)).length; rw [List.length_replicate]; omega, HQ.out.2⟩
set_option maxRecDepth 100000 in
theorem openOff {S : St} (h : Is w d S) (ho : S.off = true) (hn : 0 < S.dur.length) : Calls Tryz.prog 48 #[ptr d.pb] w fun e w' => e = .returned (.tuple #[.pointer none, .slice none 0 0, .int .i64 80]) ∧ w' = w := by
  have hr := readIs_any h ((0 : Nat) : Int)
  rw [read_off ho hn] at hr
  have HR := Lib.hid hr
  clear h hr
  go_enter Tryz.func48, Tryz.ntmps48
  go_wp2_with fail
  refine HR.out.mono ?_
  rintro e w1 ⟨rfl, rfl⟩
  go_wp2_with fail
  go_ret3
  exact ⟨rfl, rfl⟩
theorem formatOffS {n z q : Nat} (h : Is w d (cutS (newS n z) 1)) (h1 : 8 ≤ n) (h4 : z ≤ 64) (_hq : q ≤ 9223372036854775807) :
    Calls Tryz.prog 25 #[ptr d.pb, .int .i64 q] w (OffPost w d) := by
  have HF := Lib.hid (formatOff h h1 h4)
  have hd : decide ((q : Int) < 0) = false := decide_eq_false (by omega)
  clear h
  go_enter Tryz.func25, Tryz.ntmps25
  go_wp2_with fail
  refine HF.out.mono ?_
  rintro e w1 ⟨d', S', rfl, hI, hpb, ho, hn, hbl⟩
  have HH := Lib.hid (And.intro hI (And.intro hpb (And.intro ho (And.intro hn hbl))))
  clear hI hpb ho hn hbl
  go_wp2_with fail
  go_ret2
  exact ⟨d', S', rfl, HH.out.1, HH.out.2.1, HH.out.2.2.1, HH.out.2.2.2.1, HH.out.2.2.2.2⟩
theorem openOffS {S : St} {q : Nat} (h : Is w d S) (ho : S.off = true) (hn : 0 < S.dur.length) (_hq : q ≤ 9223372036854775807) : Calls Tryz.prog 26 #[ptr d.pb, .int .i64 q] w fun e w' => e = .returned (.tuple #[.pointer none, .int .i64 80]) ∧ w' = w := by
  have HO := Lib.hid (openOff h ho hn)
  have hd : decide ((q : Int) < 0) = false := decide_eq_false (by omega)
  clear h
  go_enter Tryz.func26, Tryz.ntmps26
  go_wp2_with fail
  refine HO.out.mono ?_
  rintro e w1 ⟨rfl, rfl⟩
  go_wp2_with fail
  go_ret2
  exact ⟨rfl, rfl⟩
end
end Go.Proofs.YtdabjhgnmeemiaaGreatDoor.Kv

/-
  The law KvRefused, walked.
-/
namespace Go.Proofs.YtdabjhgnmeemiaaGreatDoor.Kv
open Go Go.RowKit
open Go.Proofs.YtdabjhgnmeemiaaGreatDoor.Disk (St Dk Is own Fr Lies newS new_at cutS cutIs_any)
open Go.Proofs.YtdabjhgnmeemiaaGreatDoor.Wal (Wl Wk Log ownW StepW Done Grp Has framesS fmtS fmt_has)
open Go.Proofs.YtdabjhgnmeemiaaGreatDoor.Batch (ptr)
open Go.Proofs.YtdabjhgnmeemiaaGreatDoor.Nets (Tab)

set_option maxRecDepth 100000 in
set_option maxHeartbeats 2000000 in
theorem kvRefused_any (q : Int) (off : Bool) (w : World) (h1 : -9223372036854775808 ≤ q) (h2 : q ≤ 9223372036854775807) (ht : Tab w) :
    Calls Tryz.prog 4 #[.int .i64 q, .bool off] w fun e w' => e = .returned (.bool true) ∧ Below w.heap.size w w' := by
  have HT := Lib.hid ht
  have HN := Lib.hid (Disk.new_any w 8 16 (by omega) (by omega) (by omega) (by omega))
  have e8 : ((8 : Nat) : Int) = 8 := rfl
  have e16 : ((16 : Nat) : Int) = 16 := rfl
  rw [e8, e16] at HN
  clear e8 e16
  rcases Int.lt_or_le q 0 with hq | hq
  · have hd : decide (q < 0) = true := decide_eq_true hq
    have HRF := Lib.hid (fun (W : World) d => range_neg (w := W) d q hq h1)
    have HRO := Lib.hid (fun (W : World) d => range_open (w := W) d q hq h1)
    clear h1 h2 hq ht
    go_enter Tryz.func4, Tryz.ntmps4
    go_wp2_with fail
    refine HN.out.mono ?_
    rintro e w1 ⟨d, rfl, hI, hB, hb⟩
    have H1 := Lib.hid (And.intro hI (And.intro hB hb))
    have HCU := Lib.hid (cutIs_any hI 1 (by omega) (by omega))
    clear hI hB hb HN
    cases off
    · go_wp2_with fail
      refine (HRF.out _ _).mono ?_
      rintro e w2 ⟨rfl, rfl⟩
      go_wp2_with fail
      refine (HRO.out _ _).mono ?_
      rintro e w3 ⟨rfl, rfl⟩
      go_wp2_with fail
      refine (works_any _ (HT.out.below H1.out.2.2)).mono ?_
      rintro e w4 ⟨rfl, hb4⟩
      have HF := Lib.hid (H1.out.2.2.trans (hb4.mono H1.out.2.2.size))
      clear hb4
      go_wp2_with fail
      go_ret
      exact ⟨rfl, HF.out⟩
    · go_wp2_with fail
      refine HCU.out.mono ?_
      rintro e w2 ⟨rfl, cv', hI2, hS2⟩
      have hb2 : Below w.heap.size w w2 := H1.out.2.2.trans (hS2.fr.below H1.out.2.2.size fun b hb => by have := (H1.out.1.own_lt hb).2; have := H1.out.2.1; omega)
      have HB2 := Lib.hid hb2
      clear hI2 hS2 hb2
      go_wp2_with fail
      refine (HRF.out _ _).mono ?_
      rintro e w3 ⟨rfl, rfl⟩
      go_wp2_with fail
      refine (HRO.out _ _).mono ?_
      rintro e w4 ⟨rfl, rfl⟩
      go_wp2_with fail
      refine (works_any _ (HT.out.below HB2.out)).mono ?_
      rintro e w5 ⟨rfl, hb5⟩
      have HF := Lib.hid (HB2.out.trans (hb5.mono HB2.out.size))
      clear hb5
      go_wp2_with fail
      go_ret
      exact ⟨rfl, HF.out⟩
  · obtain ⟨p, rfl⟩ := Int.eq_ofNat_of_zero_le hq
    have hp : p ≤ 9223372036854775807 := by omega
    have hd : decide ((p : Int) < 0) = false := decide_eq_false (by omega)
    clear h1 h2 hq ht
    go_enter Tryz.func4, Tryz.ntmps4
    go_wp2_with fail
    refine HN.out.mono ?_
    rintro e w1 ⟨d, rfl, hI, hB, hb⟩
    have H1 := Lib.hid (And.intro hI (And.intro hB hb))
    clear HN
    cases off
    · have HF1 := Lib.hid (formatS (q := p) hI (by omega) (by omega) (by omega) (by omega) hp)
      clear hI hB hb
      go_wp2_with fail
      refine HF1.out.mono ?_
      rintro e w2 ⟨x, rfl, hst, hxB, hxpb, hb2, hpv⟩
      have hop := openS hst.log.disk 0 [] (fmt_has (by omega) (by omega) (by omega) (by omega)) [] rfl (by simp) (by simp) (by simp) p hp (by rw [show done [] [] = [] from rfl]; decide)
      rw [hxpb] at hop
      have HOP := Lib.hid hop
      have hbw2 : Below w.heap.size w w2 := H1.out.2.2.trans (hb2.mono (Nat.le_of_eq H1.out.2.1.symm))
      have H2 := Lib.hid hbw2
      clear hst hxB hxpb hb2 hpv hop hbw2 HF1
      go_wp2_with fail
      refine HOP.out.mono ?_
      rintro e w3 ⟨t, rfl, hst3, htd, hb3, hown3, hps3⟩
      have HL := Lib.hid (lenS hst3)
      have HQ := Lib.hid (quotaS hst3)
      have H3 := Lib.hid (H2.out.trans (hb3.mono H2.out.size))
      rw [show ((done [] []).length : Int) = 0 from rfl] at HL
      clear hst3 htd hb3 hown3 hps3 HOP
      go_wp2_with fail
      refine HL.out.mono ?_
      rintro e w4 ⟨rfl, rfl⟩
      go_wp2_with fail
      refine HQ.out.mono ?_
      rintro e w5 ⟨rfl, rfl⟩
      go_wp2_with fail
      refine (works_any _ (HT.out.below H3.out)).mono ?_
      rintro e w6 ⟨rfl, hb6⟩
      have HF := Lib.hid (H3.out.trans (hb6.mono H3.out.size))
      clear hb6
      go_wp2_with fail
      go_ret
      exact ⟨rfl, HF.out⟩
    · have HCU := Lib.hid (cutIs_any hI 1 (by omega) (by omega))
      clear hI hB hb
      go_wp2_with fail
      refine HCU.out.mono ?_
      rintro e w2 ⟨rfl, cv', hI2, hS2⟩
      have hb2 : Below w.heap.size w w2 := H1.out.2.2.trans (hS2.fr.below H1.out.2.2.size fun b hb => by have := (H1.out.1.own_lt hb).2; have := H1.out.2.1; omega)
      have hfo : Calls Tryz.prog 25 #[ptr d.pb, .int .i64 p] w2 (OffPost w2 { d with cv := cv' }) := formatOffS (d := { d with cv := cv' }) (n := 8) (z := 16) hI2 (by omega) (by omega) hp
      have HFO := Lib.hid hfo
      have HB2 := Lib.hid hb2
      clear hI2 hS2 hb2 hfo
      go_wp2_with fail
      refine HFO.out.mono ?_
      rintro e w3 ⟨d', S', rfl, hI3, hpb3, ho3, hn3, hb3⟩
      have hop := openOffS (q := p) hI3 ho3 hn3 hp
      rw [hpb3] at hop
      have HOP := Lib.hid hop
      have hbw3 : Below w.heap.size w w3 := HB2.out.trans (hb3.mono (Nat.le_of_eq H1.out.2.1.symm))
      have HB3 := Lib.hid hbw3
      clear hI3 hpb3 ho3 hn3 hb3 hop hbw3
      go_wp2_with fail
      refine HOP.out.mono ?_
      rintro e w4 ⟨rfl, rfl⟩
      go_wp2_with fail
      refine (works_any _ (HT.out.below HB3.out)).mono ?_
      rintro e w5 ⟨rfl, hb5⟩
      have HF := Lib.hid (HB3.out.trans (hb5.mono HB3.out.size))
      clear hb5
      go_wp2_with fail
      go_ret
      exact ⟨rfl, HF.out⟩
end Go.Proofs.YtdabjhgnmeemiaaGreatDoor.Kv
