/-
  Walks: mailbox, group, part, list.
-/
import Derived.Test.YtklmhjoiffaniaaDoorMbxAdr
namespace Go.Proofs.YtklmhjoiffaniaaDoor.Mbx
open Go Go.RowKit
open Go.Proofs.YtklmhjoiffaniaaDoor.Lex

/-- What a step of the reader tells: a code; the pieces that are left and the boxes. -/
def RsP (w1 : World) (N : Nat) (R : Rs) (e : Ending) (w' : World) : Prop := e = .returned (.int .i64 R.1) ∧ Below w1.heap.size w1 w' ∧ (R.1 = 0 → ∃ T', T'.length ≤ N ∧ cutL T' = R.2.1 ∧ RdAt w1 w' T' R.2.2)
theorem RsP.no {w1 w' : World} {N : Nat} {R : Rs} {c : Nat} (h : R = Mbx.no c) (hc : c ≠ 0) (hb : Below w1.heap.size w1 w') : RsP w1 N R (.returned (.int .i64 c)) w' := by
  subst h
  exact ⟨rfl, hb, fun h => absurd h hc⟩
theorem RsP.yes {w1 w' : World} {N : Nat} {R : Rs} {T : List Tk} {ps : List Pc} {B : List Bx} (h : R = (0, ps, B)) (hN : T.length ≤ N) (hT : cutL T = ps) (hb : RdAt w1 w' T B) : RsP w1 N R (.returned (.int .i64 0)) w' := by
  subst h
  exact ⟨rfl, hb.below, fun _ => ⟨T, hN, hT, hb⟩⟩
theorem drop_le (T : List Tk) (k : Nat) : (T.drop k).length ≤ T.length := by rw [List.length_drop]; omega
theorem beg_take {c : UInt8} (hc : c ≠ 64 ∧ c ≠ 46) {T : List Tk} {ps : List Pc} (h : cutL T = ps) : begB c T = (takeP c ps).isSome ∧ (begB c T = true → takeP c ps = some (cutL (T.drop 1))) := by
  subst h
  rw [take_cut c hc]
  cases begB c T
  · exact ⟨rfl, fun h => by cases h⟩
  · exact ⟨rfl, fun _ => rfl⟩
theorem mbx_plain {p : Pc} {r : List Pc} {B : List Bx} (ha : angle p = false) : mbxP (p :: r) B = if (adrP [] p.l B).1 = 0 then (0, ⟨[], p.s⟩ :: r, (adrP [] p.l B).2) else no (adrP [] p.l B).1 := by
  rw [mbxP, ha, if_neg (by decide)]
theorem mbx_angle {p q : Pc} {r : List Pc} {B : List Bx} (ha : angle p = true) : mbxP (p :: q :: r) B = if (adrP (nameL p.l) q.l B).1 = 0 then (if sgB q.s 62 = true then (0, r, (adrP (nameL p.l) q.l B).2) else no 130) else no (adrP (nameL p.l) q.l B).1 := by
  rw [mbxP, if_pos ha]
  rfl
theorem int_ne {c : Nat} (h : c ≠ 0) : ((c : Int) != 0) = true := by rw [bne_iff_ne]; omega
set_option maxRecDepth 100000 in
set_option maxHeartbeats 8000000 in
theorem mailbox_any (w1 w0 : World) (T : List Tk) (B : List Bx) (h : RdAt w1 w0 T B) :
    Calls Tryd.prog 66 #[.pointer (some ⟨w1.heap.size, 0, none⟩)] w0 (RsP w1 T.length (mbxP (cutL T) B)) := by
  obtain ⟨a, n, cap, _, _, hn, hr, c0, _, f0, _, _⟩ := h.cells
  have hlt := h.lt
  obtain ⟨p, r, hp⟩ : ∃ p r, cutL T = p :: r := by
    cases hq : cutL T with
    | nil => exact absurd hq (cut_ne T)
    | cons p r => exact ⟨p, r, rfl⟩
  have hnl : n ≤ 100000 := by rw [hn]; exact len_le h.cost
  have hwn : wordsN T ≤ n := by rw [hn]; exact words_le T
  have hbw := words_cut 60 (by decide) hp
  have hag : (sgB p.s 60 && plain p.l) = angle p := rfl
  rw [hag] at hbw
  have HH := Lib.hid h
  have hrw := hr.below h.below
  have HCW := Lib.hid (countWords_any (.slice a n cap) T w0 hrw (by omega))
  obtain ⟨a1, m1, d1, hm1, hs1, hr1⟩ := from_any w1 hr (wordsN T) hwn
  have HBG := Lib.hid (begins_any (.slice a1 m1 d1) (T.drop (wordsN T)) 60 w0 ((hr1 w1 hr).below h.below) (by rw [List.length_drop]; omega))
  rw [hbw] at HBG
  have HP := Lib.hid hp
  cases hang : angle p
  · obtain ⟨g1, g2, g3, g4⟩ := seg_cut hp
    have HA := Lib.hid (address_any w1 w0 T B ⟨#[]⟩ h)
    rw [g2] at HA
    have HG := Lib.hid g3
    have HM := Lib.hid (mbx_plain (r := r) (B := B) hang)
    rw [hang] at HBG
    rw [HP.out]
    generalize wordsN T = k at *
    clear hr hrw hn hm1 hr1 g1 g2 g3 g4 hp hbw hag hang h
    go_enter Tryd.func66, Tryd.ntmps66
    go_wp2_with fail
    refine HCW.out.mono ?_
    rintro e w2 ⟨rfl, rfl⟩
    go_wp2_with fail
    refine HBG.out.mono ?_
    rintro e w2 ⟨rfl, rfl⟩
    go_wp2_with fail
    refine HA.out.mono ?_
    rintro e w3 ⟨rfl, hb, hy⟩
    have HY := Lib.hid (And.intro hb hy)
    clear hb hy
    go_wp2_with fail
    go_ret
    rw [HM.out]
    by_cases h0 : (adrP [] p.l B).1 = 0
    · rw [if_pos h0]
      have e0 : (adrP (bl ⟨#[]⟩) p.l B).1 = 0 := h0
      have := HY.out.2 e0
      refine ⟨by rw [show (adrP (bl ⟨#[]⟩) p.l B).1 = 0 from h0]; rfl, HY.out.1, fun _ => ⟨_, drop_le T _, HG.out, this⟩⟩
    · rw [if_neg h0]
      exact ⟨rfl, HY.out.1, fun h => absurd h h0⟩
  · have hs0 : bl p.s ≠ [] := by
      have : sgB p.s 60 = true := by
        rw [← hag, Bool.and_eq_true] at hang
        exact hang.1
      exact sg_ne this
    obtain ⟨g1, g2, g3, g4⟩ := words_take hp (angle_plain hang) hs0
    obtain ⟨q, r1, hq⟩ : ∃ q r1, r = q :: r1 := by
      cases hq : r with
      | nil => rw [hq] at g3; exact absurd g3 (cut_ne _)
      | cons q r1 => exact ⟨q, r1, rfl⟩
    subst hq
    obtain ⟨a2, m2, d2, hm2, hs2, hr2⟩ := to_any w1 hr (wordsN T) hwn
    obtain ⟨a3, m3, d3, hm3, hs3, hr3⟩ := from_any w1 hr (wordsN T + 1) (by omega)
    have HJ := Lib.hid (joinW_any (.slice a2 m2 d2) (T.take (wordsN T)) w0 ((hr2 w1 hr).below h.below) (Nat.le_trans (costT_le T _) (Nat.le_trans h.cost (by decide))))
    rw [g2] at HJ
    have HR3 := Lib.hid (hr3 w1 hr)
    obtain ⟨g5, g6, g7, g8⟩ := seg_cut g3
    have HG7 := Lib.hid g7
    have HG6 := Lib.hid g6
    have HM := Lib.hid (mbx_angle (r := r1) (B := B) (q := q) hang)
    have hsg := beg_take (c := 62) (by decide) g7
    have htk : takeP 62 (⟨[], q.s⟩ :: r1) = if sgB q.s 62 = true then some r1 else none := rfl
    rw [htk] at hsg
    have HSG := Lib.hid hsg
    rw [hang] at HBG
    rw [HP.out, HM.out]
    have HC := Lib.hid (fun W (hW : Below w0.heap.size w0 W) => old_cell c0 hlt hW)
    have HF := Lib.hid (fun W (hW : Below w0.heap.size w0 W) => old_frozen f0 hlt hW)
    have HADR : Hid (∀ W, RdAt w1 W (T.drop (wordsN T + 1)) B → Calls Tryd.prog 79 #[.pointer (some ⟨w1.heap.size, 0, none⟩), .string (ba (nameL p.l))] W (AdrR w1 (adrP (nameL p.l) q.l B) ((T.drop (wordsN T + 1)).drop (segN (T.drop (wordsN T + 1)))))) := Lib.hid (fun W hW => by
      have := address_any w1 W _ B (ba (nameL p.l)) hW
      rw [bl_ba, g6] at this
      exact this)
    have HL2 : Hid ((((T.drop (wordsN T + 1)).drop (segN (T.drop (wordsN T + 1)))).drop 1).length ≤ T.length) := Lib.hid (Nat.le_trans (drop_le _ _) (Nat.le_trans (drop_le _ _) (drop_le _ _)))
    generalize (T.drop (wordsN T + 1)).drop (segN (T.drop (wordsN T + 1))) = T2 at *
    obtain ⟨k, hk⟩ : ∃ k, k = wordsN T := ⟨_, rfl⟩
    rw [← hk] at hs1 hs2 hs3 HR3 HCW hwn HADR
    rw [show ((k + 1 : Nat) : Int) = (k : Int) + 1 by omega] at hs3
    generalize ba (nameL p.l) = nm at *
    generalize adrP (nameL p.l) q.l B = R at *
    clear hr hrw hn hm1 hr1 hm2 hr2 hm3 hr3 g1 g2 g3 g4 g5 g6 g7 g8 hp hbw hag hang h hs0 hsg htk hk
    by_cases h0 : R.1 = 0
    · have hq0 : ((R.1 : Int) != 0) = false := by rw [h0]; rfl
      cases hgt : sgB q.s 62
      · have HZ : Hid (begB 62 T2 = false) := Lib.hid (by rw [HSG.out.1, hgt]; rfl)
        rw [if_pos h0, if_neg (by decide)]
        clear hgt
        go_enter Tryd.func66, Tryd.ntmps66
        go_wp2_with fail
        refine HCW.out.mono ?_
        rintro e w2 ⟨rfl, rfl⟩
        go_wp2_with fail
        refine HBG.out.mono ?_
        rintro e w2 ⟨rfl, rfl⟩
        go_wp2_with fail
        refine HJ.out.mono ?_
        rintro e w2 ⟨rfl, hb⟩
        have HB2 := Lib.hid hb
        have x0 := HC.out _ hb
        have x1 := HF.out _ hb
        clear hb
        go_wp2_with fail
        refine (HADR.out _ (((HH.out.on HB2.out).drop (k + 1) HR3.out))).mono ?_
        rintro e w4 ⟨rfl, hb4, hy4⟩
        have HT := Lib.hid (take_any w1 w4 T2 R.2 62 (hy4 h0))
        rw [HZ.out] at HT
        clear hb4 hy4
        go_wp2_with fail
        refine HT.out.mono ?_
        rintro e w5 ⟨rfl, h5⟩
        have HX := Lib.hid h5.below
        clear h5
        go_wp2_with fail
        go_ret
        exact RsP.no rfl (by decide) HX.out
      · have HZ : Hid (begB 62 T2 = true) := Lib.hid (by rw [HSG.out.1, hgt]; rfl)
        have HW : Hid (cutL (T2.drop 1) = r1) := Lib.hid (by
          have := HSG.out.2 HZ.out
          rw [hgt, if_pos rfl] at this
          exact (Option.some.inj this).symm)
        rw [if_pos h0, if_pos rfl]
        clear hgt
        go_enter Tryd.func66, Tryd.ntmps66
        go_wp2_with fail
        refine HCW.out.mono ?_
        rintro e w2 ⟨rfl, rfl⟩
        go_wp2_with fail
        refine HBG.out.mono ?_
        rintro e w2 ⟨rfl, rfl⟩
        go_wp2_with fail
        refine HJ.out.mono ?_
        rintro e w2 ⟨rfl, hb⟩
        have HB2 := Lib.hid hb
        have x0 := HC.out _ hb
        have x1 := HF.out _ hb
        clear hb
        go_wp2_with fail
        refine (HADR.out _ (((HH.out.on HB2.out).drop (k + 1) HR3.out))).mono ?_
        rintro e w4 ⟨rfl, hb4, hy4⟩
        have HT := Lib.hid (take_any w1 w4 T2 R.2 62 (hy4 h0))
        rw [HZ.out, if_pos rfl] at HT
        clear hb4 hy4
        go_wp2_with fail
        refine HT.out.mono ?_
        rintro e w5 ⟨rfl, h5⟩
        have HX := Lib.hid h5
        clear h5
        go_wp2_with fail
        go_ret
        exact RsP.yes rfl HL2.out HW.out HX.out
    · have hq0 := int_ne h0
      rw [if_neg h0]
      go_enter Tryd.func66, Tryd.ntmps66
      go_wp2_with fail
      refine HCW.out.mono ?_
      rintro e w2 ⟨rfl, rfl⟩
      go_wp2_with fail
      refine HBG.out.mono ?_
      rintro e w2 ⟨rfl, rfl⟩
      go_wp2_with fail
      refine HJ.out.mono ?_
      rintro e w2 ⟨rfl, hb⟩
      have HB2 := Lib.hid hb
      have x0 := HC.out _ hb
      have x1 := HF.out _ hb
      clear hb
      go_wp2_with fail
      refine (HADR.out _ (((HH.out.on HB2.out).drop (k + 1) HR3.out))).mono ?_
      rintro e w4 ⟨rfl, hb4, hy4⟩
      have HX := Lib.hid hb4
      clear hb4 hy4
      go_wp2_with fail
      go_ret
      exact RsP.no rfl h0 HX.out

/-! What is left, told by the memory. -/
def restN (b : Nat) (w : World) : Nat := match w.cell? ⟨b, 0, none⟩ with
  | some (.slice _ n _) => n
  | _ => 0
theorem RdAt.restN {w1 wr : World} {T : List Tk} {B : List Bx} (h : RdAt w1 wr T B) : Mbx.restN w1.heap.size wr = T.length := by
  obtain ⟨a, n, cap, _, _, hn, hr, c0, _⟩ := h.cells
  unfold Mbx.restN
  rw [c0]
  exact hn
theorem beg_len {c : UInt8} {T : List Tk} (h : begB c T = true) : (T.drop 1).length < T.length := by
  cases T with
  | nil => cases h
  | cons t T => simp
theorem grp_step {m : Nat} {ps : List Pc} {B : List Bx} : grp (m + 1) ps B = if (mbxP ps B).1 = 0 then (match takeP 59 (mbxP ps B).2.1 with
      | some r => (0, r, (mbxP ps B).2.2)
      | none => match takeP 44 (mbxP ps B).2.1 with
        | some r => grp m r (mbxP ps B).2.2
        | none => no 130) else no (mbxP ps B).1 := rfl
theorem take_len {c : UInt8} {ps r : List Pc} (h : takeP c ps = some r) : r.length < ps.length := by
  obtain ⟨u, rfl, _⟩ := take_some h
  simp
theorem mbx_len {ps : List Pc} {B : List Bx} (h : (mbxP ps B).1 = 0) : (mbxP ps B).2.1.length ≤ ps.length := by
  cases ps with
  | nil => cases h
  | cons p r =>
    rw [mbxP] at h ⊢
    split at h
    · rename_i h1
      rw [if_pos h1]
      cases r with
      | nil => cases h
      | cons q r1 =>
        rw [angP] at h ⊢
        split at h
        · rename_i h2
          rw [if_pos h2]
          split at h
          · rename_i h3
            rw [if_pos h3]
            simp only [List.length_cons]
            omega
          · cases h
        · rename_i h2
          exact absurd h h2
    · rename_i h1
      rw [if_neg h1]
      split at h
      · rename_i h2
        rw [if_pos h2]
        simp
      · rename_i h2
        exact absurd h h2
set_option maxRecDepth 100000 in
set_option maxHeartbeats 8000000 in
theorem group_any (w1 w0 : World) (T : List Tk) (B : List Bx) (N : Nat) (h : RdAt w1 w0 T B) (hN : (cutL T).length ≤ N) :
    Calls Tryd.prog 67 #[.pointer (some ⟨w1.heap.size, 0, none⟩)] w0 (RsP w1 T.length (grp0 N (cutL T) B)) := by
  obtain ⟨hb1, hb2⟩ := beg_take (c := 59) (by decide) (rfl : cutL T = cutL T)
  have HT0 := Lib.hid (take_any w1 w0 T B 59 h)
  unfold grp0
  cases hbg : begB 59 T
  · have htk : takeP 59 (cutL T) = none := by
      rw [hbg] at hb1
      cases hq : takeP 59 (cutL T) with
      | none => rfl
      | some r => rw [hq] at hb1; cases hb1
    rw [htk]
    rw [hbg, if_neg (by decide)] at HT0
    have HN := Lib.hid hN
    clear hb1 hb2 hbg htk h hN
    go_enter Tryd.func67, Tryd.ntmps67
    go_wp2_with fail
    refine HT0.out.mono ?_
    rintro e w2 ⟨rfl, h2⟩
    have H2 := Lib.hid h2
    clear h2
    go_wp2_with fail
    go_loopw [3] (fun _ wr => ∃ (m : Nat) (T' : List Tk) (B' : List Bx), Hid (RdAt w1 wr T' B') ∧ Hid ((cutL T').length ≤ m) ∧ Hid (T'.length ≤ T.length) ∧ Hid (grp m (cutL T') B' = grp N (cutL T) B)) (fun _ wr => Mbx.restN w1.heap.size wr)
    case atStart => exact ⟨N, T, B, H2, HN, Lib.hid (Nat.le_refl _), Lib.hid rfl⟩
    case round =>
      obtain ⟨m, T', B', hR, hm, hl, hg⟩ := hrel
      have HRN := Lib.hid hR.out.restN
      obtain ⟨m', rfl⟩ : ∃ m', m = m' + 1 := by
        cases m with
        | zero =>
          have := hm.out
          have h0 := List.length_eq_zero_iff.1 (Nat.le_zero.1 this)
          exact absurd h0 (cut_ne T')
        | succ m' => exact ⟨m', rfl⟩
      have HM := Lib.hid (mailbox_any w1 wr T' B' hR.out)
      have hst := hg.out
      rw [grp_step] at hst
      have HML := Lib.hid (fun h => mbx_len (ps := cutL T') (B := B') h)
      generalize mbxP (cutL T') B' = M at *
      by_cases h0 : M.1 = 0
      · rw [if_pos h0] at hst
        have hq0 : ((M.1 : Int) != 0) = false := by rw [h0]; rfl
        have HST := Lib.hid hst
        have HM0 := Lib.hid h0
        clear hst h0 hg
        go_wp2_with fail
        refine HM.out.mono ?_
        rintro e w3 ⟨rfl, hb3, h3⟩
        obtain ⟨T2, hl2, hc2, hr2⟩ := h3 HM0.out
        obtain ⟨e1, e2⟩ := beg_take (c := 59) (by decide) hc2
        obtain ⟨e3, e4⟩ := beg_take (c := 44) (by decide) hc2
        have HT1 := Lib.hid (take_any w1 w3 T2 M.2.2 59 hr2)
        have HL2 := Lib.hid hl2
        have HC2 := Lib.hid hc2
        clear hb3 h3 hr2 hl2 hc2
        cases hs : begB 59 T2
        · have hn59 : takeP 59 M.2.1 = none := by
            rw [hs] at e1
            cases hq : takeP 59 M.2.1 with
            | none => rfl
            | some r => rw [hq] at e1; cases e1
          rw [hn59] at HST
          rw [hs, if_neg (by decide)] at HT1
          clear e1 e2 hs hn59
          cases hs : begB 44 T2
          · have hn44 : takeP 44 M.2.1 = none := by
              rw [hs] at e3
              cases hq : takeP 44 M.2.1 with
              | none => rfl
              | some r => rw [hq] at e3; cases e3
            rw [hn44] at HST
            have HS := Lib.hid hs
            clear e3 e4 hs hn44
            go_wp2_with fail
            refine HT1.out.mono ?_
            rintro e w4 ⟨rfl, h4⟩
            have HT2 := Lib.hid (take_any w1 w4 T2 M.2.2 44 h4)
            rw [HS.out, if_neg (by decide)] at HT2
            clear h4
            go_wp2_with fail
            refine HT2.out.mono ?_
            rintro e w5 ⟨rfl, h5⟩
            have H5 := Lib.hid h5
            clear h5
            go_wp2_with fail
            go_ret
            rw [← HST.out]
            exact RsP.no rfl (by decide) H5.out.below
          · have hn44 := e4 hs
            rw [hn44] at HST
            have HTL := Lib.hid (take_len hn44)
            have HS := Lib.hid hs
            clear e3 e4 hs hn44
            go_wp2_with fail
            refine HT1.out.mono ?_
            rintro e w4 ⟨rfl, h4⟩
            have HT2 := Lib.hid (take_any w1 w4 T2 M.2.2 44 h4)
            rw [HS.out, if_pos rfl] at HT2
            clear h4
            go_wp2_with fail
            refine HT2.out.mono ?_
            rintro e w5 ⟨rfl, h5⟩
            have H5 := Lib.hid h5
            clear h5
            go_wp2_with fail
            go_roundw
            case rel => exact ⟨m', T2.drop 1, M.2.2, H5, Lib.hid (by have h1 := HTL.out; have h2 := HML.out HM0.out; have h3 := hm.out; omega), Lib.hid (Nat.le_trans (drop_le _ _) (Nat.le_trans HL2.out hl.out)), HST⟩
            case measure =>
              rw [HRN.out, H5.out.restN]
              have h1 := beg_len HS.out
              have h2 := HL2.out
              omega
        · have hs59 := e2 hs
          rw [hs59] at HST
          rw [hs, if_pos rfl] at HT1
          clear e1 e2 e3 e4 hs hs59
          go_wp2_with fail
          refine HT1.out.mono ?_
          rintro e w4 ⟨rfl, h4⟩
          have H4 := Lib.hid h4
          clear h4
          go_wp2_with fail
          go_ret
          rw [← HST.out]
          exact RsP.yes rfl (Nat.le_trans (drop_le _ _) (Nat.le_trans HL2.out hl.out)) rfl H4.out
      · rw [if_neg h0] at hst
        have hq0 := int_ne h0
        have HST := Lib.hid hst
        clear hst hg
        go_wp2_with fail
        refine HM.out.mono ?_
        rintro e w3 ⟨rfl, hb3, _⟩
        have HX := Lib.hid hb3
        clear hb3
        go_wp2_with fail
        go_ret
        rw [← HST.out]
        exact RsP.no rfl h0 HX.out
  · have htk := hb2 hbg
    rw [htk]
    rw [hbg, if_pos rfl] at HT0
    clear hb1 hb2 hbg htk h hN
    go_enter Tryd.func67, Tryd.ntmps67
    go_wp2_with fail
    refine HT0.out.mono ?_
    rintro e w2 ⟨rfl, h2⟩
    have H2 := Lib.hid h2
    clear h2
    go_wp2_with fail
    go_ret
    exact RsP.yes rfl (drop_le _ _) rfl H2.out
end Go.Proofs.YtklmhjoiffaniaaDoor.Mbx
