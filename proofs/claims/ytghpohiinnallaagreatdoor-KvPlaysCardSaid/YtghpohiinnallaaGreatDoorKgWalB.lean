/-
  Walks of the log: Sync, Reset; a disk beneath a log.
-/
import Derived.Test.YtghpohiinnallaaGreatDoorKgNets
import Derived.Test.YtghpohiinnallaaGreatDoorKgLog
import Derived.Test.YtghpohiinnallaaGreatDoorKgWal
import Derived.Laws.ResultCell

/-
  What the laws of the log share, second part: lists held beside a log; a disk cut, filled, crashed beneath a log.
-/
namespace Go.Proofs.YtghpohiinnallaaGreatDoor.Wal
open Go Go.RowKit
open Go.Proofs.YtghpohiinnallaaGreatDoor.Disk
open Go.Proofs.YtghpohiinnallaaGreatDoor.Nets (Reads Tab Small bl ba)

/-- A list that reads so, in a block that is none of these. -/
def Rd (F : Nat → Prop) (w : World) (v : Value) (ss : List ByteArray) : Prop := Reads w v ss ∧ (0 < ss.length → ∀ b, v.ownBlock = some b → b < w.heap.size ∧ ¬ F b)
theorem Rd.nil {F : Nat → Prop} {w : World} : Rd F w (.slice none 0 0) [] := ⟨.inl ⟨none, 0, rfl, rfl⟩, fun h => by simp at h⟩
theorem Rd.frame {F F' G : Nat → Prop} {w w' : World} {v : Value} {ss : List ByteArray} (h : Rd F w v ss) (hf : Fr G w w') (hG : ∀ b, G b → F b) (hF : ∀ b, F' b → F b ∨ w.heap.size ≤ b) : Rd F' w' v ss := by
  obtain ⟨h1, h2⟩ := h
  rcases h1 with ⟨a, cap, rfl, rfl⟩ | ⟨h0, b, off, cap, rfl, k1, k2, k3, k4⟩
  · exact ⟨.inl ⟨a, cap, rfl, rfl⟩, fun h => by simp at h⟩
  · obtain ⟨e1, e2⟩ := h2 h0 b rfl
    refine ⟨.inr ⟨h0, b, off, cap, rfl, k1, k2, Nat.lt_of_lt_of_le k3 hf.size, fun i hi => ?_⟩, fun _ b' hb => ?_⟩
    · rw [World.cell?_of_block (w := w) (hf.block b k3 fun e => e2 (hG b e))]
      exact k4 i hi
    · obtain rfl : b = b' := by simpa [Value.ownBlock] using hb
      refine ⟨Nat.lt_of_lt_of_le k3 hf.size, fun e => ?_⟩
      rcases hF b e with e | e
      · exact e2 e
      · omega
theorem Rd.below {F : Nat → Prop} {w w' : World} {v : Value} {ss : List ByteArray} (h : Rd F w v ss) (hb : Below w.heap.size w w') (_hF : ∀ b, F b → b < w.heap.size ∨ True) : Rd F w' v ss :=
  ⟨h.1.below hb, fun h0 b e => ⟨Nat.lt_of_lt_of_le (h.2 h0 b e).1 hb.size, (h.2 h0 b e).2⟩⟩
theorem Rd.mono {F F' : Nat → Prop} {w : World} {v : Value} {ss : List ByteArray} (h : Rd F w v ss) (hF : ∀ b, b < w.heap.size → F' b → F b) : Rd F' w v ss :=
  ⟨h.1, fun h0 b e => ⟨(h.2 h0 b e).1, fun e2 => (h.2 h0 b e).2 (hF b (h.2 h0 b e).1 e2)⟩⟩
/-- A list of its own. -/
theorem Rd.owns {F : Nat → Prop} {w : World} {B : Nat} {v : Value} {ss : List ByteArray} (h : w.ownsRow B strT 1 v ss.length (ss.map Value.string)) (hF : ∀ b, v.ownBlock = some b → ¬ F b) : Rd F w v ss :=
  ⟨Nets.reads_owns h, fun _ b e => ⟨(h.lt b e).2, hF b e⟩⟩
/-- A list that was there before the log. -/
theorem Rd.old {F : Nat → Prop} {w : World} {B : Nat} {v : Value} {ss : List ByteArray} (h : Reads w v ss) (hv : ∀ b, v.ownBlock = some b → 0 < ss.length → b < B) (hB : B ≤ w.heap.size) (hF : ∀ b, F b → B ≤ b) : Rd F w v ss :=
  ⟨h, fun h0 b e => ⟨Nat.lt_of_lt_of_le (hv b e h0) hB, fun e2 => by have := hF b e2; have := hv b e h0; omega⟩⟩
theorem reads_lt {w : World} {v : Value} {ss : List ByteArray} (h : Reads w v ss) : ∀ b, v.ownBlock = some b → 0 < ss.length → b < w.heap.size := by
  rcases h with ⟨a, cap, rfl, rfl⟩ | ⟨h0, b, off, cap, rfl, k1, k2, k3, k4⟩
  · intro b _ h; simp at h
  · intro b' hb _
    obtain rfl : b = b' := by simpa [Value.ownBlock] using hb
    exact k3

/-! A list copied: 'append([]string{}, l...)'. -/
theorem append_empty (w : World) (b cap : Nat) : (Builtin.append_ #[28, 28] 28 #[.slice (some ⟨b, 0, none⟩) 0 0, .slice none 0 cap]).run Tryz.prog w = .ok (.slice (some ⟨b, 0, none⟩) 0 0) w := by kernel_rfl
theorem append_made (w : World) (v : Value) (ss : List ByteArray) (hr : Reads w v ss) (hl : ss.length ≤ 1000000) :
    ∃ v' w', (Builtin.append_ #[28, 28] 28 #[.slice (some ⟨w.heap.size, 0, none⟩) 0 0, v]).run Tryz.prog (w.alloc (.cells #[] strT)) = .ok v' w' ∧ w'.ownsRow w.heap.size strT 1 v' ss.length (ss.map Value.string) ∧ Below w.heap.size w w' := by
  have h0 : (w.alloc (.cells #[] strT)).ownsRow w.heap.size strT 1 (.slice (some ⟨w.heap.size, 0, none⟩) 0 0) ([] : List ByteArray).length (([] : List ByteArray).map Value.string) :=
    ⟨by simp, .inr ⟨w.heap.size, 0, #[], rfl, Nat.le_refl _, heap_alloc_new _ _, Nat.le_refl _, by decide, by simp, by simp⟩⟩
  have hb : Below w.heap.size w (w.alloc (.cells #[] strT)) := (Below.refl _ _).alloc (Nat.le_refl _) _
  have hs : w.heap.size ≤ (w.alloc (.cells #[] strT)).heap.size := by simp
  have hr' := hr.below hb
  obtain ⟨v', w', h1, h2, h3, h4⟩ := append_texts (w.alloc (.cells #[] strT)) w.heap.size _ v [] ss h0 hr' (by simp) hl hs
  exact ⟨v', w', h1, by simpa using h2, hb.grown h3 hs (fun k hk => (h0.lt k hk).1)⟩

/-! The disk beneath a log. -/
section
variable {w : World} {k : Wk} {S : St} {L : Wl} {h : Nat} {gs : List Grp}
theorem Has.cut (hh : Has S h gs) (x : Int) : Has (cutS S x) h gs := ⟨⟨hh.clean.cache, hh.clean.off⟩, hh.lg⟩
theorem Has.fill (hh : Has S h gs) (x : Bool) : Has (fillS S x) h gs := ⟨⟨hh.clean.cache, hh.clean.off⟩, hh.lg⟩
theorem Has.crash (hh : Has S h gs) (ks : List Bool) (torn : Int) : Has (crashS S ks torn) h gs := by
  refine ⟨crash_clean _ _ _, ?_⟩
  rw [crash_len, hh.clean.crash]
  exact hh.lg
theorem Either.crash {a b : List Grp} (hh : Either S a b) (ks : List Bool) (torn : Int) : ∃ h gs, Has (crashS S ks torn) h gs ∧ (gs = a ∨ gs = b) := by
  obtain ⟨h, gs, hl, he⟩ := hh.lg ks torn
  exact ⟨h, gs, ⟨crash_clean _ _ _, by rw [crash_len]; exact hl⟩, he⟩
theorem cutW (hl : Log w k S L) (x : Int) (h1 : -9223372036854775808 ≤ x) (h2 : x ≤ 9223372036854775807) :
    Calls Tryz.prog 24 #[ptr k.d.pb, .int .i64 x] w fun e w' => e = .returned (.tuple #[]) ∧ Done w k (cutS S x) L w' := by
  refine (cutIs_any hl.disk x h1 h2).mono fun e w' hh => ?_
  obtain ⟨rfl, hL⟩ := hh
  obtain ⟨cv', hl', hs⟩ := hl.left hL
  exact ⟨rfl, _, hl', hs⟩
theorem fillW (hl : Log w k S L) (x : Bool) :
    Calls Tryz.prog 32 #[ptr k.d.pb, .bool x] w fun e w' => e = .returned (.tuple #[]) ∧ Done w k (fillS S x) L w' := by
  refine (fillIs_any hl.disk x).mono fun e w' hh => ?_
  obtain ⟨rfl, hL⟩ := hh
  obtain ⟨cv', hl', hs⟩ := hl.left hL
  exact ⟨rfl, _, hl', hs⟩
end
end Go.Proofs.YtghpohiinnallaaGreatDoor.Wal

/-
  Walks of the program's log, eighth part: Sync.
-/
namespace Go.Proofs.YtghpohiinnallaaGreatDoor.Wal
open Go Go.RowKit
open Go.Proofs.YtghpohiinnallaaGreatDoor.Disk
open Go.Proofs.YtghpohiinnallaaGreatDoor.Nets (Reads Tab Small bl ba)
open Go.Proofs.YtghpohiinnallaaGreatDoor.Sha (Kept wp_region_kept wp_region_kept_tail wp_region_drawn_tail)

theorem pay_small {g : Grp} (hs : Small g) : (payS g).length ≤ 100011000 := by
  have := Nets.rowK_len g g.length hs
  rw [Nets.rowK_all] at this
  exact this
theorem bl_snoc {F : ByteArray} {l : List UInt8} (c : UInt8) (h : bl F = l) : bl (F ++ ⟨#[c]⟩) = l ++ [c] := by
  rw [← h]
  show (F ++ ⟨#[c]⟩).data.toList = _
  rw [ByteArray.data_append, Array.toList_append]
/-- The library's table lies below a log. -/
def Grd (k : Wk) : Prop := 1 < k.d.B
theorem tab_fr {w w' : World} {k : Wk} {S : St} {L : Wl} (h : Log w k S L) (hg : Grd k) (ht : Tab w) (hf : Fr (ownW k) w w') : Tab w' := by
  have hlt := h.own_lt (b := k.pw) (.inr (.inl rfl))
  have hb : Below k.d.B w w' := hf.below (by omega) fun b hb => (h.own_lt hb).2
  exact ⟨var?_below hb Nets.gPow hg ht.1, by have := ht.2; have := hf.size; omega⟩
theorem Done.trans {w w1 w2 : World} {k k1 : Wk} {S2 : St} {L2 : Wl} (hs : StepW w k w1 k1) (h : Done w1 k1 S2 L2 w2) : Done w k S2 L2 w2 := by
  obtain ⟨k2, h2, hs2⟩ := h
  exact ⟨k2, h2, hs.trans hs2⟩
section
variable {w : World} {k : Wk} {S : St} {L : Wl}
/-- The texts that wait, taken out. -/
theorem Log.take (h : Log w k S L) : Log (w.setCell ⟨k.pw, 3, none⟩ (.slice none 0 0)) { k with wv := .slice none 0 0 } S { L with wait := [] } ∧ StepW w k (w.setCell ⟨k.pw, 3, none⟩ (.slice none 0 0)) { k with wv := .slice none 0 0 } ∧
    Reads (w.setCell ⟨k.pw, 3, none⟩ (.slice none 0 0)) k.wv L.wait := by
  have hn := h.setNone
  refine ⟨hn.1, ⟨hn.2, rfl, rfl, rfl, fun b hb => ?_⟩, Nets.reads_owns (Fr.owns h.wait (Fr.one w k.pw 3 _) fun b hb e => (h.wv b hb).1 e)⟩
  rcases hb with hb | hb | hb
  · exact .inl (.inl hb)
  · exact .inl (.inr (.inl hb))
  · cases hb
set_option maxRecDepth 100000 in
set_option maxHeartbeats 4000000 in
theorem syncW (h : Log w k S L) (gs : List Grp) (hh : Has S L.half gs) (ha : L.at_ = (framesS gs).length) (hs : Small L.wait) (ht : Tab w) (hg : Grd k) (hops : S.ops + 100 < 1000000) :
    Calls Tryz.prog 98 #[ptr k.pw] w fun e w' => ∃ S' L' x, e = .returned (.int .i64 x) ∧ SyncO S L gs S' L' x ∧ Kin S S' 84 ∧ Done w k S' L' w' := by
  obtain ⟨c0, c1, c2, c3⟩ := h.cells
  have f3 := h.free 3
  obtain ⟨hT1, hT2, hT3⟩ := h.take
  have HT := Lib.hid (And.intro hT1 (And.intro hT2 (And.intro hT3 (tab_fr h hg ht h.setNone.2))))
  obtain ⟨a, n, e⟩ := h.shape
  rw [e] at c3 HT
  by_cases hw : L.wait = []
  · have hl : L.wait.length = 0 := by rw [hw]; rfl
    rw [hl] at c3
    have HR : Hid (SyncO S L gs S { L with wait := [] } 0) := Lib.hid (.none hw rfl rfl)
    clear h hh ha hs ht hops hT1 hT2 hT3 e hl hw
    go_enter Tryz.func98, Tryz.ntmps98
    go_wp2_with fail
    go_ret
    exact ⟨S, _, 0, rfl, HR.out, Kin.refl _ _, _, HT.out.1, HT.out.2.1⟩
  · have hl0 : ((L.wait.length : Int) == 0) = false := by
      have : L.wait.length ≠ 0 := fun e => hw (List.length_eq_zero_iff.1 e)
      simp
      exact hw
    have hlz := hs.1
    have HK : Hid (Has S L.half gs ∧ L.at_ = (framesS gs).length ∧ Small L.wait ∧ L.wait ≠ [] ∧ Ok S ∧ Grd k) := Lib.hid ⟨hh, ha, hs, hw, h.ok, hg⟩
    have hn := hh.lg.n2
    have hz := hh.lg.z2
    have hroom := hh.lg.room
    have hszb : sec S.dur.length * S.z ≤ 19 * 64 := Nat.mul_le_mul (by unfold sec; omega) hz
    have hat : L.at_ ≤ 2000 := by omega
    clear h hh hs ht hT1 hT2 hT3 e hg ha
    go_enter Tryz.func98, Tryz.ntmps98
    go_wp2_with fail
    generalize (w.setCell ⟨k.pw, 3, none⟩ (.slice none 0 0)) = w1 at HT ⊢
    refine (needW HT.out.2.2.1 HK.out.2.2.1 HT.out.2.2.2).mono ?_
    rintro e w2 ⟨rfl, hb2⟩
    have HR2 := Lib.hid (roomW (HT.out.1.below hb2) (show L.at_ ≤ 1000000 by omega))
    have HRM : Hid (roomS S { L with wait := [] } = sec S.dur.length * S.z - (framesS gs).length - 1) := by
      show sec S.dur.length * S.z - L.at_ - 1 = _
      rw [HK.out.2.1]
    have hrb : roomS S { L with wait := [] } ≤ 2000 := by
      rw [HRM.out]
      omega
    generalize roomS S { L with wait := [] } = rm at *
    have HB2 := Lib.hid hb2
    clear hb2
    generalize hpl : (payS L.wait).length = pl at *
    have hpb : pl ≤ 100011000 := by rw [← hpl]; exact pay_small HK.out.2.2.1
    go_wp2_with fail
    refine HR2.out.mono ?_
    rintro e w3 ⟨rfl, hd3⟩
    have HB3 := Lib.hid (HB2.out.trans ((below_of_drew hd3).mono HB2.out.size))
    clear hd3 HB2 HR2
    by_cases hr : rm < 9 + pl
    · have HO : Hid (SyncO S L gs S { L with wait := [] } 8) := Lib.hid (.room HK.out.2.2.2.1 (by rw [← HRM.out, hpl]; exact hr) rfl rfl)
      go_wp2_with fail
      go_ret
      exact ⟨S, _, 8, rfl, HO.out, Kin.refl _ _, Done.trans HT.out.2.1 (Done.of_below HT.out.1 HB3.out)⟩
    · have HF := Lib.hid (frameW 0 (HT.out.2.2.1.below HB3.out) HK.out.2.2.1 (HT.out.2.2.2.below HB3.out) (by omega))
      go_wp2_with fail
      refine HF.out.mono ?_
      rintro e w4 ⟨F, rfl, hF, hb4⟩
      have hb4 := HB3.out.trans (hb4.mono HB3.out.size)
      have HL4 := Lib.hid (HT.out.1.below hb4)
      have HB4 := Lib.hid hb4
      have HF0 := Lib.hid hF
      have hFs : F.size = 9 + pl := by rw [← bl_len, hF, frame_len, hpl]
      clear hF hb4 HF HB3
      obtain ⟨c0, c1, c2, c3⟩ := HL4.out.cells
      have HFR : Hid (L.at_ + (frameS 0 L.wait).length + 1 ≤ sec S.dur.length * S.z ∧ (framesS gs).length + (frameS 0 L.wait).length + 1 ≤ sec S.dur.length * S.z ∧ 9 + (payS L.wait).length ≤ sec S.dur.length * S.z - (framesS gs).length - 1 ∧ (F ++ ⟨#[0]⟩ : ByteArray).size = (frameS 0 L.wait).length + 1 ∧ bl (F ++ ⟨#[0]⟩) = frameS 0 L.wait ++ [0]) := by
        have h1 := HRM.out
        have h2 := HK.out.2.1
        have h3 := frame_len 0 L.wait
        refine ⟨by omega, by omega, by omega, ?_, bl_snoc 0 HF0.out⟩
        rw [ByteArray.size_append, hFs, h3, hpl]
        rfl
      go_wp2_with fail
      refine wp_region_drawn_tail 11 (by kernel_rfl) (by kernel_rfl) ?_
      simp only [List.take_succ_cons, List.take_zero, List.drop_succ_cons, List.drop_zero]
      repeat (go_big_quiet_step (fail))
      refine wpQuiet_nil ?_
      rintro _ ⟨nq, rfl⟩
      go_wp2_with fail
      have hL5 := HL4.out.below (below_of_drew (w' := w4.drewN nq) ⟨nq, rfl⟩)
      have HB5 := Lib.hid (HB4.out.trans ((below_of_drew (w' := w4.drewN nq) ⟨nq, rfl⟩).mono HB4.out.size))
      generalize w4.drewN nq = w5 at *
      have hs1 : 1 ≤ (F ++ ⟨#[0]⟩ : ByteArray).size := by rw [HFR.out.2.2.2.1]; omega
      have hs2 : L.at_ + (F ++ ⟨#[0]⟩ : ByteArray).size ≤ sec S.dur.length * S.z := by rw [HFR.out.2.2.2.1]; have := HFR.out.1; omega
      have hly := layW hL5 HK.out.1.clean hz HK.out.1.lg.n1 hn L.half HK.out.1.lg.half L.at_ (F ++ ⟨#[0]⟩) hs1 hs2 (by omega)
      have HLY := Lib.hid hly
      clear hly hs1 hs2
      refine HLY.out.mono ?_
      rintro e w6 ⟨S1, x1, rfl, hlaid, hkin, k2, hL6, hst6⟩
      rw [HFR.out.2.2.2.2, HK.out.2.1] at hlaid
      have H0 := HK.out.1.lay0 hlaid hkin hL6.ok HFR.out.2.1
      have HQ := Lib.hid (And.intro hkin (And.intro hL6 ((HT.out.2.1.trans (StepW.of_below _ HB5.out)).trans hst6)))
      clear hlaid hkin hL6 hst6 hL5
      rcases H0 with ⟨rfl, hfu, hH⟩ | ⟨rfl, hlf, hE⟩ | ⟨rfl, hfu, hH, hbytes⟩
      · have HO : Hid (SyncO S L gs S1 { L with wait := [] } 81) := Lib.hid (.full HK.out.2.2.2.1 HFR.out.2.2.1 hfu hH rfl)
        clear hfu hH
        go_wp2_with fail
        go_ret
        exact ⟨S1, _, 81, rfl, HO.out, HQ.out.1.mono (by omega), _, HQ.out.2.1, HQ.out.2.2⟩
      · have HO : Hid (SyncO S L gs S1 { L with wait := [] } 80) := Lib.hid (.power hlf hE)
        clear hlf hE
        go_wp2_with fail
        go_ret
        exact ⟨S1, _, 80, rfl, HO.out, HQ.out.1.mono (by omega), _, HQ.out.2.1, HQ.out.2.2⟩
      · have HH := Lib.hid (And.intro hfu (And.intro hH hbytes))
        clear hfu hH hbytes c0 c1 c2 c3
        obtain ⟨c0, c1, c2, c3⟩ := HQ.out.2.1.cells
        have hpw : k2.pw = k.pw := HQ.out.2.2.pw
        rw [hpw] at c0 c1 c2 c3
        have HPW := Lib.hid hpw
        clear hpw
        go_wp2_with fail
        refine wp_region_drawn_tail 9 (by kernel_rfl) (by kernel_rfl) ?_
        simp only [List.take_succ_cons, List.take_zero, List.drop_succ_cons, List.drop_zero]
        repeat (go_big_quiet_step (fail))
        refine wpQuiet_nil ?_
        rintro _ ⟨nq2, rfl⟩
        go_wp2_with fail
        have hL7 := HQ.out.2.1.below (below_of_drew (w' := w6.drewN nq2) ⟨nq2, rfl⟩)
        have HB7 := Lib.hid (below_of_drew (w := w6) (w' := w6.drewN nq2) ⟨nq2, rfl⟩)
        generalize w6.drewN nq2 = w7 at *
        have HG : Hid (S1.z = S.z ∧ S1.dur.length = S.dur.length ∧ S1.ops ≤ S.ops + 42) := Lib.hid ⟨HQ.out.1.z, HQ.out.1.len, HQ.out.1.ops⟩
        have hly := layW hL7 HH.out.2.1.clean (by rw [HG.out.1]; exact hz) HH.out.2.1.lg.n1 (by rw [HG.out.2.1]; exact hn) L.half HK.out.1.lg.half L.at_ ⟨#[1]⟩ (Nat.le_refl _) (by rw [HG.out.1, HG.out.2.1]; show L.at_ + 1 ≤ _; have := HFR.out.1; omega) (by have := HG.out.2.2; omega)
        rw [HPW.out] at hly
        have HLY2 := Lib.hid hly
        clear hly
        refine HLY2.out.mono ?_
        rintro e w8 ⟨S2, x2, rfl, hlaid, hkin, k3, hL8, hst8⟩
        have hlaid2 : Laid S1 (base S1.z S1.dur.length L.half + L.at_) [1] S2 x2 := hlaid
        rw [HK.out.2.1] at hlaid2
        have hfu1 : S1.full = false := by rw [HQ.out.1.full]; exact HH.out.1
        have H1 := HH.out.2.1.lay1 hfu1 hlaid2 hkin hL8.ok (by rw [HG.out.1, HG.out.2.1]; exact HFR.out.2.1) HH.out.2.2
        have HQ2 := Lib.hid (And.intro (HQ.out.1.trans hkin) (And.intro hL8 (HQ.out.2.2.trans ((StepW.of_below _ HB7.out).trans hst8))))
        clear hlaid hlaid2 hkin hL8 hst8 hL7 hfu1
        rcases H1 with ⟨rfl, hlf, hE⟩ | ⟨rfl, hH⟩
        · have HO : Hid (SyncO S L gs S2 { L with wait := [] } 80) := Lib.hid (.power (fun e => hlf (HQ.out.1.left e)) hE)
          clear hlf hE
          go_wp2_with fail
          go_ret
          exact ⟨S2, _, 80, rfl, HO.out, HQ2.out.1, _, HQ2.out.2.1, HQ2.out.2.2⟩
        · have HO : Hid (SyncO S L gs S2 { half := L.half, at_ := (framesS (gs ++ [L.wait])).length, wait := [] } 0) := Lib.hid (.done HK.out.2.2.2.1 HFR.out.2.2.1 HH.out.1 hH rfl)
          have hat2 : (framesS (gs ++ [L.wait])).length = L.at_ + (9 + pl) := by
            rw [frames_snoc, List.length_append, frame_len, hpl, HK.out.2.1]
          rw [hat2] at HO
          clear hH c0 c1 c2 c3
          obtain ⟨c0, c1, c2, c3⟩ := HQ2.out.2.1.cells
          have f2 := HQ2.out.2.1.free 2
          have hset := HQ2.out.2.1.setAt (L.at_ + (9 + pl))
          have hpw3 : k3.pw = k.pw := HQ2.out.2.2.pw
          rw [hpw3] at c0 c1 c2 c3 f2 hset
          have hcast : ((L.at_ + (9 + pl) : Nat) : Int) = (L.at_ : Int) + (9 + (pl : Int)) := by omega
          rw [hcast] at hset
          have HST := Lib.hid (And.intro hset.1 (HQ2.out.2.2.trans ((StepW.refl w8 k3).put hset.2)))
          clear hset hpw3 hcast hat2
          have hFi : (F.size : Int) = 9 + (pl : Int) := by omega
          go_wp2_with fail
          go_ret
          exact ⟨S2, _, 0, rfl, HO.out, HQ2.out.1, _, HST.out.1, HST.out.2⟩
end
end Go.Proofs.YtghpohiinnallaaGreatDoor.Wal

/-
  Walks of the program's log, ninth part: Reset.
-/
namespace Go.Proofs.YtghpohiinnallaaGreatDoor.Wal
open Go Go.RowKit
open Go.Proofs.YtghpohiinnallaaGreatDoor.Disk
open Go.Proofs.YtghpohiinnallaaGreatDoor.Nets (Reads Tab Small bl ba)
open Go.Proofs.YtghpohiinnallaaGreatDoor.Sha (Kept wp_region_kept wp_region_kept_tail wp_region_drawn_tail)

section
variable {w : World} {k : Wk} {S : St} {L : Wl}
/-- Half and end of the frames stored. -/
theorem Log.move (h : Log w k S L) (x y : Nat) : Log ((w.setCell ⟨k.pw, 1, none⟩ (.int .i64 x)).setCell ⟨k.pw, 2, none⟩ (.int .i64 y)) k S { half := x, at_ := y, wait := L.wait } ∧ StepW w k ((w.setCell ⟨k.pw, 1, none⟩ (.int .i64 x)).setCell ⟨k.pw, 2, none⟩ (.int .i64 y)) k :=
  ⟨((h.setHalf x).1.setAt y).1, ((StepW.refl w k).put (h.setHalf x).2).put ((h.setHalf x).1.setAt y).2⟩
theorem newG_nil : framesS (newG []) = [] := rfl
theorem newG_one {l : List ByteArray} (h : l ≠ []) : framesS (newG l) = frameS 1 l := by
  unfold newG
  rw [if_neg h, frames_one]
theorem newG_len (l : List ByteArray) : (framesS (newG l)).length ≤ 9 + (payS l).length := by
  by_cases h : l = []
  · rw [h, newG_nil]; simp
  · rw [newG_one h, frame_len]; omega
set_option maxRecDepth 100000 in
set_option maxHeartbeats 4000000 in
theorem resetW (h : Log w k S L) (gs : List Grp) (hh : Has S L.half gs) {v : Value} {l : List ByteArray} (hr : Reads w v l) (hs : Small l) (ht : Tab w) (hops : S.ops + 100 < 1000000) :
    Calls Tryz.prog 64 #[ptr k.pw, v] w fun e w' => ∃ S' L' x, e = .returned (.int .i64 x) ∧ ResetO S L gs l S' L' x ∧ Kin S S' 84 ∧ Done w k S' L' w' := by
  obtain ⟨a, n, rfl⟩ := hr.form
  have HN := Lib.hid (needW hr hs ht)
  have HK : Hid (Has S L.half gs ∧ Reads w (.slice a l.length n) l ∧ Small l ∧ Tab w ∧ Log w k S L) := Lib.hid ⟨hh, hr, hs, ht, h⟩
  have HZ := Lib.hid (fun w1 (hb : Below w.heap.size w w1) => sizeW (h.below hb))
  have hz := hh.lg.z2
  have hn := hh.lg.n2
  have hhf := hh.lg.half
  have hszb : sec S.dur.length * S.z ≤ 19 * 64 := Nat.mul_le_mul (by unfold sec; omega) hz
  have hpb := pay_small hs
  have hll := hs.1
  have HGL := Lib.hid (newG_len l)
  have HSZ : Hid (∃ T, T = sec S.dur.length * S.z) := Lib.hid ⟨_, rfl⟩
  obtain ⟨T, hT⟩ := HSZ.out
  rw [← hT] at hszb
  have HT := Lib.hid hT
  have HPL : Hid (∃ p, p = (payS l).length) := Lib.hid ⟨_, rfl⟩
  obtain ⟨pl, hpl⟩ := HPL.out
  rw [← hpl] at hpb HN
  have HP := Lib.hid hpl
  have HZT := Lib.hid (fun w1 (hb : Below w.heap.size w w1) => (by have := HZ.out w1 hb; rw [← HT.out] at this; exact this : Calls Tryz.prog 101 #[ptr k.pw] w1 fun e w' => e = .returned (.int .i64 (T : Nat)) ∧ ∃ n, w' = w1.drewN n))
  clear hT hpl h hr ht hh hs HZ HSZ HPL
  go_enter Tryz.func64, Tryz.ntmps64
  go_wp2_with fail
  refine HN.out.mono ?_
  rintro e w1 ⟨rfl, hb1⟩
  have HB1 := Lib.hid hb1
  have HZ1 := Lib.hid (HZT.out w1 hb1)
  clear hb1
  go_wp2_with fail
  refine HZ1.out.mono ?_
  rintro e w2 ⟨rfl, hd⟩
  have HB2 := Lib.hid (HB1.out.trans ((below_of_drew hd).mono HB1.out.size))
  clear hd HZ1 HZT HN
  by_cases hrm : T < 9 + pl + 1
  · have HO : Hid (ResetO S L gs l S L 8) := Lib.hid (.room (by rw [← HT.out, ← HP.out]; exact hrm) rfl rfl)
    go_wp2_with fail
    go_ret
    exact ⟨S, _, 8, rfl, HO.out, Kin.refl _ _, Done.of_below HK.out.2.2.2.2 HB2.out⟩
  · have HF : l ≠ [] → Hid (Calls Tryz.prog 102 #[.string ⟨#[1]⟩, .slice a l.length n] w2 fun e w' => ∃ F : ByteArray, e = .returned (.string F) ∧ bl F = frameS 1 l ∧ Below w2.heap.size w2 w') := fun _ =>
      Lib.hid (frameW 1 (HK.out.2.1.below HB2.out) HK.out.2.2.1 (HK.out.2.2.2.1.below HB2.out) (by rw [← HP.out]; omega))
    go_upto_if 17 with (fail)
    go_cut [5] from 17 (fun x wx => ∃ F : ByteArray, x = .string F ∧ bl F = framesS (newG l) ∧ Below w.heap.size w wx)
    case first =>
      by_cases hl : l = []
      · subst hl
        go_wp2_with fail
        go_meet
        exact ⟨⟨#[]⟩, rfl, rfl, HB2.out⟩
      · have hpos : 0 < l.length := List.length_pos_iff.2 hl
        have HFl := HF hl
        clear HF
        go_wp2_with fail
        refine HFl.out.mono ?_
        rintro e w3 ⟨F, rfl, hF, hb3⟩
        go_wp2_with fail
        go_meet
        exact ⟨F, rfl, by rw [newG_one hl]; exact hF, HB2.out.trans (hb3.mono HB2.out.size)⟩
    case rest =>
      obtain ⟨F, rfl, hF, hbc⟩ := hcut
      have hLc := HK.out.2.2.2.2.below hbc
      have HBC := Lib.hid hbc
      obtain ⟨c0, c1, c2, c3⟩ := hLc.cells
      have hFs : F.size = (framesS (newG l)).length := by rw [← bl_len, hF]
      have hle : (framesS (newG l)).length ≤ 9 + pl := by rw [HP.out]; exact HGL.out
      have hFz : (F ++ ⟨#[0]⟩ : ByteArray).size = F.size + 1 := by rw [ByteArray.size_append]; rfl
      have HR : Hid ((framesS (newG l)).length + 1 ≤ sec S.dur.length * S.z ∧ 9 + (payS l).length + 1 ≤ sec S.dur.length * S.z) := by
        show _ ∧ _
        rw [← HT.out, ← HP.out]
        omega
      have hs1 : 1 ≤ (F ++ ⟨#[0]⟩ : ByteArray).size := by omega
      have hs2 : 0 + (F ++ ⟨#[0]⟩ : ByteArray).size ≤ sec S.dur.length * S.z := by have := HR.out.1; omega
      have hly := layW hLc HK.out.1.clean hz HK.out.1.lg.n1 hn (1 - L.half) (by omega) 0 (F ++ ⟨#[0]⟩) hs1 hs2 (by omega)
      have hO : ((1 - L.half : Nat) : Int) = 1 - (L.half : Int) := by omega
      rw [hO] at hly
      have HLY := Lib.hid hly
      have HF2 := Lib.hid (And.intro hF hFs)
      have hFb : F.size ≤ 2000 := by omega
      clear hly hs1 hs2 hF hFs hFz hbc HF hle hLc
      go_wp2_with fail
      refine HLY.out.mono ?_
      rintro e w6 ⟨S1, x1, rfl, hlaid, hkin, k2, hL6, hst6⟩
      rw [bl_snoc 0 HF2.out.1] at hlaid
      have H0 := HK.out.1.layO hlaid hkin hL6.ok HR.out.1
      have HQ := Lib.hid (And.intro hkin (And.intro hL6 ((StepW.of_below k HBC.out).trans hst6)))
      clear hlaid hkin hL6 hst6 HLY
      rcases H0 with ⟨rfl, hfu, hH⟩ | ⟨rfl, hlf, hE⟩ | ⟨rfl, hfu, hH, hbytes⟩
      · have HO : Hid (ResetO S L gs l S1 L 81) := Lib.hid (.full HR.out.2 hfu hH rfl)
        clear hfu hH
        go_wp2_with fail
        go_ret
        exact ⟨S1, _, 81, rfl, HO.out, HQ.out.1.mono (by omega), _, HQ.out.2.1, HQ.out.2.2⟩
      · have HO : Hid (ResetO S L gs l S1 L 80) := Lib.hid (.power hlf hE)
        clear hlf hE
        go_wp2_with fail
        go_ret
        exact ⟨S1, _, 80, rfl, HO.out, HQ.out.1.mono (by omega), _, HQ.out.2.1, HQ.out.2.2⟩
      · have HH := Lib.hid (And.intro hfu (And.intro hH hbytes))
        clear hfu hH hbytes
        have hpw : k2.pw = k.pw := HQ.out.2.2.pw
        have HG : Hid (S1.z = S.z ∧ S1.dur.length = S.dur.length ∧ S1.ops ≤ S.ops + 42) := Lib.hid ⟨HQ.out.1.z, HQ.out.1.len, HQ.out.1.ops⟩
        have hch := chooseW HQ.out.2.1 HH.out.2.1.clean (by rw [HG.out.1]; exact hz) HH.out.2.1.lg.n1 (1 - L.half) (by omega) (by have := HG.out.2.2; omega)
        rw [hpw, hO] at hch
        have HCH := Lib.hid hch
        clear hch hpw
        go_wp2_with fail
        refine HCH.out.mono ?_
        rintro e w8 ⟨S2, x2, rfl, hlaid, hkin, k3, hL8, hst8⟩
        have hfu1 : S1.full = false := by rw [HQ.out.1.full]; exact HH.out.1
        have H1 := HH.out.2.1.turned hfu1 hlaid hkin hL8.ok (by rw [HG.out.1, HG.out.2.1]; exact HR.out.1) HH.out.2.2
        have HQ2 := Lib.hid (And.intro (HQ.out.1.trans hkin) (And.intro hL8 (HQ.out.2.2.trans hst8)))
        clear hlaid hkin hL8 hst8 hfu1 HCH
        rcases H1 with ⟨rfl, hlf, hE⟩ | ⟨rfl, hH⟩
        · have HO : Hid (ResetO S L gs l S2 L 80) := Lib.hid (.power (fun e => hlf (HQ.out.1.left e)) hE)
          clear hlf hE
          go_wp2_with fail
          go_ret
          exact ⟨S2, _, 80, rfl, HO.out, HQ2.out.1, _, HQ2.out.2.1, HQ2.out.2.2⟩
        · have HO : Hid (ResetO S L gs l S2 { half := 1 - L.half, at_ := F.size, wait := L.wait } 0) := Lib.hid (.done HR.out.2 HH.out.1 hH (by rw [HF2.out.2]))
          clear hH c0 c1 c2 c3
          obtain ⟨c0, c1, c2, c3⟩ := HQ2.out.2.1.cells
          have f1 := HQ2.out.2.1.free 1
          have f2 := HQ2.out.2.1.free 2
          have hmv := HQ2.out.2.1.move (1 - L.half) F.size
          have hpw3 : k3.pw = k.pw := HQ2.out.2.2.pw
          rw [hpw3] at c0 c1 c2 c3 f1 f2 hmv
          rw [hO] at hmv
          have HST := Lib.hid (And.intro hmv.1 (HQ2.out.2.2.trans hmv.2))
          clear hmv hpw3
          go_wp2_with fail
          go_ret
          exact ⟨S2, _, 0, rfl, HO.out, HQ2.out.1, _, HST.out.1, HST.out.2⟩
end
end Go.Proofs.YtghpohiinnallaaGreatDoor.Wal
