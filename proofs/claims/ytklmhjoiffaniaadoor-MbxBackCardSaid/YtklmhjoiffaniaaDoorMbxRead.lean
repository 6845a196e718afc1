/-
  Walks: part, list, Read, One.
-/
import Derived.Test.YtklmhjoiffaniaaDoorMbxList
namespace Go.Proofs.YtklmhjoiffaniaaDoor.Mbx
open Go Go.RowKit
open Go.Proofs.YtklmhjoiffaniaaDoor.Lex
open Go.Proofs.YtklmhjoiffaniaaDoor.Addr (results_ad2)

theorem begS {T : List Tk} {p : Pc} {r : List Pc} (h : cutL T = p :: r) : colon p = (!(wordsN T == 0) && begB 58 (T.drop (wordsN T))) := by
  rw [words_cut 58 (by decide) h]
  unfold colon
  cases hs : sgB p.s 58
  · simp
  · cases hp : plain p.l
    · simp
    · have := words_zero h hp (sg_ne hs)
      simp only [Bool.true_and, Bool.and_true]
      congr 1
      rw [Bool.eq_iff_iff, List.isEmpty_iff, beq_iff_eq]
      exact this.symm
set_option maxRecDepth 100000 in
set_option maxHeartbeats 8000000 in
theorem part_any (w1 w0 : World) (T : List Tk) (B : List Bx) (N : Nat) (h : RdAt w1 w0 T B) (hN : (cutL T).length ≤ N + 1) :
    Calls Tryd.prog 44 #[.pointer (some ⟨w1.heap.size, 0, none⟩)] w0 (RsP w1 T.length (prt N (cutL T) B)) := by
  obtain ⟨a, n, cap, _, _, hn, hr, c0, _, f0, _, _⟩ := h.cells
  obtain ⟨p, r, hp⟩ : ∃ p r, cutL T = p :: r := by
    cases hq : cutL T with
    | nil => exact absurd hq (cut_ne T)
    | cons p r => exact ⟨p, r, rfl⟩
  have hnl : n ≤ 100000 := by rw [hn]; exact len_le h.cost
  have hwn : wordsN T ≤ n := by rw [hn]; exact words_le T
  have hcol := begS hp
  have HH := Lib.hid h
  have HCW := Lib.hid (countWords_any (.slice a n cap) T w0 (hr.below h.below) (by omega))
  have HP := Lib.hid hp
  have hprt : prt N (cutL T) B = if colon p = true then grp0 N r B else mbxP (cutL T) B := by rw [hp]; rfl
  rw [hprt]
  have HM := Lib.hid (mailbox_any w1 w0 T B h)
  by_cases hz : wordsN T = 0
  · have hc : colon p = false := by rw [hcol, hz]; rfl
    rw [hc, if_neg (by decide)]
    have hq0 : ((wordsN T : Int) == 0) = true := by rw [hz]; rfl
    generalize wordsN T = k at *
    clear h hr hn hp hcol hprt hc hz hwn
    go_enter Tryd.func44, Tryd.ntmps44
    go_wp2_with fail
    refine HCW.out.mono ?_
    rintro e w2 ⟨rfl, rfl⟩
    go_wp2_with fail
    refine HM.out.mono ?_
    rintro e w3 ⟨rfl, h3⟩
    have H3 := Lib.hid h3
    clear h3
    go_wp2_with fail
    go_ret
    exact ⟨rfl, H3.out⟩
  · have hq0 : ((wordsN T : Int) == 0) = false := by rw [beq_eq_false_iff_ne]; omega
    obtain ⟨a1, m1, d1, hm1, hs1, hr1⟩ := from_any w1 hr (wordsN T) hwn
    have HBG := Lib.hid (begins_any (.slice a1 m1 d1) (T.drop (wordsN T)) 58 w0 ((hr1 w1 hr).below h.below) (by rw [List.length_drop]; omega))
    have hcb : colon p = begB 58 (T.drop (wordsN T)) := by
      rw [hcol]
      have : (wordsN T == 0) = false := by rw [beq_eq_false_iff_ne]; exact hz
      rw [this]
      rfl
    rw [← hcb] at HBG
    cases hc : colon p
    · rw [hc] at HBG
      rw [if_neg (by decide)]
      generalize wordsN T = k at *
      clear h hr hn hp hcol hprt hc hz hwn hcb hr1 hm1
      go_enter Tryd.func44, Tryd.ntmps44
      go_wp2_with fail
      refine HCW.out.mono ?_
      rintro e w2 ⟨rfl, rfl⟩
      go_wp2_with fail
      refine HBG.out.mono ?_
      rintro e w2 ⟨rfl, rfl⟩
      go_wp2_with fail
      refine HM.out.mono ?_
      rintro e w3 ⟨rfl, h3⟩
      have H3 := Lib.hid h3
      clear h3
      go_wp2_with fail
      go_ret
      exact ⟨rfl, H3.out⟩
    · rw [hc] at HBG
      rw [if_pos rfl]
      have hcc := hc
      unfold colon at hcc
      simp only [Bool.and_eq_true] at hcc
      obtain ⟨g1, g2, g3, g4⟩ := words_take hp hcc.2.1 (sg_ne hcc.1)
      obtain ⟨a3, m3, d3, hm3, hs3, hr3⟩ := from_any w1 hr (wordsN T + 1) (by omega)
      have HR3 := Lib.hid (hr3 w1 hr)
      have HL := Lib.hid (drop_le T (wordsN T + 1))
      have HG : Hid (∀ W, RdAt w1 W (T.drop (wordsN T + 1)) B → Calls Tryd.prog 67 #[.pointer (some ⟨w1.heap.size, 0, none⟩)] W (RsP w1 (T.drop (wordsN T + 1)).length (grp0 N r B))) := Lib.hid (fun W hW => by
        have := group_any w1 W _ B N hW (by rw [g3]; rw [hp] at hN; simp at hN; omega)
        rw [g3] at this
        exact this)
      obtain ⟨k, hk⟩ : ∃ k, k = wordsN T := ⟨_, rfl⟩
      rw [← hk] at hs1 hs3 HR3 HCW hwn HG HL hq0
      rw [show ((k + 1 : Nat) : Int) = (k : Int) + 1 by omega] at hs3
      clear h hr hn hp hcol hprt hc hz hcb hr1 hm1 hr3 hm3 hcc g1 g2 g3 g4 hk hN
      go_enter Tryd.func44, Tryd.ntmps44
      go_wp2_with fail
      refine HCW.out.mono ?_
      rintro e w2 ⟨rfl, rfl⟩
      go_wp2_with fail
      refine HBG.out.mono ?_
      rintro e w2 ⟨rfl, rfl⟩
      go_wp2_with fail
      refine (HG.out _ (HH.out.drop (k + 1) HR3.out)).mono ?_
      rintro e w3 ⟨rfl, hb3, h3⟩
      have H3 := Lib.hid (And.intro hb3 h3)
      clear hb3 h3
      go_wp2_with fail
      go_ret
      refine ⟨rfl, H3.out.1, fun h0 => ?_⟩
      obtain ⟨T', e1, e2⟩ := H3.out.2 h0
      exact ⟨T', Nat.le_trans e1 HL.out, e2⟩

/-- What the list tells: a code, and the boxes. -/
def LiP (w1 : World) (R : Nat × List Bx) (e : Ending) (w' : World) : Prop := e = .returned (.int .i64 R.1) ∧ Below w1.heap.size w1 w' ∧ (R.1 = 0 → ∃ T', RdAt w1 w' T' R.2)
theorem LiP.no {w1 w' : World} {R : Nat × List Bx} {c : Nat} (h : R = (c, [])) (hc : c ≠ 0) (hb : Below w1.heap.size w1 w') : LiP w1 R (.returned (.int .i64 c)) w' := by
  subst h
  exact ⟨rfl, hb, fun h => absurd h hc⟩
theorem LiP.yes {w1 w' : World} {R : Nat × List Bx} {T : List Tk} {B : List Bx} (h : R = (0, B)) (hb : RdAt w1 w' T B) : LiP w1 R (.returned (.int .i64 0)) w' := by
  subst h
  exact ⟨rfl, hb.below, fun _ => ⟨T, hb⟩⟩
theorem lst_step {m : Nat} {ps : List Pc} {B : List Bx} : lst (m + 1) ps B = if (prt m ps B).1 = 0 then (if doneP (prt m ps B).2.1 = true then (0, (prt m ps B).2.2) else match takeP 44 (prt m ps B).2.1 with
    | some r => lst m r (prt m ps B).2.2
    | none => (130, []))
  else ((prt m ps B).1, []) := rfl
theorem grp_len : ∀ (n : Nat) (ps : List Pc) (B : List Bx), (grp n ps B).1 = 0 → (grp n ps B).2.1.length ≤ ps.length
  | 0, _, _, h => by cases h
  | n + 1, ps, B, h => by
    rw [grp_step] at h ⊢
    split at h
    · rename_i h1
      rw [if_pos h1]
      have hm := mbx_len h1
      cases h2 : takeP 59 (mbxP ps B).2.1 with
      | some r =>
        have := take_len h2
        simp only
        omega
      | none =>
        rw [h2] at h
        cases h3 : takeP 44 (mbxP ps B).2.1 with
        | some r =>
          rw [h3] at h
          have h4 := take_len h3
          have h5 := grp_len n r _ h
          simp only at *
          omega
        | none => rw [h3] at h; cases h
    · rename_i h1
      exact absurd h h1
theorem prt_len {n : Nat} {ps : List Pc} {B : List Bx} (h : (prt n ps B).1 = 0) : (prt n ps B).2.1.length ≤ ps.length := by
  cases ps with
  | nil => cases h
  | cons p r =>
    rw [prt] at h ⊢
    split at h
    · rename_i h1
      rw [if_pos h1]
      unfold grp0 at h ⊢
      cases h2 : takeP 59 r with
      | some r' =>
        have := take_len h2
        simp only [List.length_cons]
        omega
      | none =>
        rw [h2] at h
        have := grp_len n r B h
        simp only [List.length_cons] at *
        omega
    · rename_i h1
      rw [if_neg h1]
      exact mbx_len h
set_option maxRecDepth 100000 in
set_option maxHeartbeats 8000000 in
theorem list_any (w1 w0 : World) (T : List Tk) (B : List Bx) (N : Nat) (h : RdAt w1 w0 T B) (hN : (cutL T).length ≤ N) :
    Calls Tryd.prog 22 #[.pointer (some ⟨w1.heap.size, 0, none⟩)] w0 (LiP w1 (lst N (cutL T) B)) := by
  have H2 := Lib.hid h
  have HN := Lib.hid hN
  clear h hN
  go_enter Tryd.func22, Tryd.ntmps22
  go_wp2_with fail
  go_loopw [3] (fun _ wr => ∃ (m : Nat) (T' : List Tk) (B' : List Bx), Hid (RdAt w1 wr T' B') ∧ Hid ((cutL T').length ≤ m) ∧ Hid (lst m (cutL T') B' = lst N (cutL T) B)) (fun _ wr => Mbx.restN w1.heap.size wr)
  case atStart => exact ⟨N, T, B, H2, HN, Lib.hid rfl⟩
  case round =>
    obtain ⟨m, T', B', hR, hm, hg⟩ := hrel
    have HRN := Lib.hid hR.out.restN
    obtain ⟨m', rfl⟩ : ∃ m', m = m' + 1 := by
      cases m with
      | zero =>
        have := hm.out
        have h0 := List.length_eq_zero_iff.1 (Nat.le_zero.1 this)
        exact absurd h0 (cut_ne T')
      | succ m' => exact ⟨m', rfl⟩
    have HM := Lib.hid (part_any w1 wr T' B' m' hR.out hm.out)
    have hst := hg.out
    rw [lst_step] at hst
    have HML := Lib.hid (fun h => prt_len (n := m') (ps := cutL T') (B := B') h)
    generalize prt m' (cutL T') B' = M at *
    by_cases h0 : M.1 = 0
    · rw [if_pos h0] at hst
      have hq0 : ((M.1 : Int) != 0) = false := by rw [h0]; rfl
      have HST := Lib.hid hst
      have HM0 := Lib.hid h0
      clear hst h0 hg
      go_wp2_with fail
      refine HM.out.mono ?_
      rintro e w3 ⟨rfl, hb3, h3⟩
      obtain ⟨T2, hl2, hc2, hr2⟩ := h3 HM0.out
      obtain ⟨e3, e4⟩ := beg_take (c := 44) (by decide) hc2
      obtain ⟨a, n, cap, _, _, hn, _, c0, _⟩ := hr2.cells
      have hdn : doneP M.2.1 = T2.isEmpty := by rw [← hc2]; exact done_cut T2
      have HR2 := Lib.hid hr2
      have HL2 := Lib.hid hl2
      clear hb3 h3 hr2 hl2 hc2
      by_cases hn0 : n = 0
      · have hd : doneP M.2.1 = true := by
          rw [hdn, List.isEmpty_iff, ← List.length_eq_zero_iff, ← hn]
          exact hn0
        rw [hd, if_pos rfl] at HST
        have hq1 : ((n : Int) == 0) = true := by rw [hn0]; rfl
        clear e3 e4 hdn hd hn hn0
        go_wp2_with fail
        go_ret
        rw [← HST.out]
        exact LiP.yes rfl HR2.out
      · have hd : doneP M.2.1 = false := by
          rw [hdn, ← Bool.not_eq_true, List.isEmpty_iff, ← List.length_eq_zero_iff, ← hn]
          exact hn0
        rw [hd, if_neg (by decide)] at HST
        have hq1 : ((n : Int) == 0) = false := by rw [beq_eq_false_iff_ne]; omega
        have HT1 := Lib.hid (take_any w1 w3 T2 M.2.2 44 HR2.out)
        clear hdn hd hn hn0
        cases hs : begB 44 T2
        · have hn44 : takeP 44 M.2.1 = none := by
            rw [hs] at e3
            cases hq : takeP 44 M.2.1 with
            | none => rfl
            | some r => rw [hq] at e3; cases e3
          rw [hn44] at HST
          rw [hs, if_neg (by decide)] at HT1
          clear e3 e4 hs hn44
          go_wp2_with fail
          refine HT1.out.mono ?_
          rintro e w4 ⟨rfl, h4⟩
          have H4 := Lib.hid h4
          clear h4
          go_wp2_with fail
          go_ret
          rw [← HST.out]
          exact LiP.no rfl (by decide) H4.out.below
        · have hn44 := e4 hs
          rw [hn44] at HST
          have HTL := Lib.hid (take_len hn44)
          rw [hs, if_pos rfl] at HT1
          have HS := Lib.hid hs
          clear e3 e4 hs hn44
          go_wp2_with fail
          refine HT1.out.mono ?_
          rintro e w4 ⟨rfl, h4⟩
          have H4 := Lib.hid h4
          clear h4
          go_wp2_with fail
          go_roundw
          case rel => exact ⟨m', T2.drop 1, M.2.2, H4, Lib.hid (by have h1 := HTL.out; have h2 := HML.out HM0.out; have h3 := hm.out; omega), HST⟩
          case measure =>
            rw [HRN.out, H4.out.restN]
            have h1 := beg_len HS.out
            have h2 := HL2.out
            omega
    · rw [if_neg h0] at hst
      have hq0 := int_ne h0
      have HST := Lib.hid hst
      clear hst hg
      go_wp2_with fail
      refine HM.out.mono ?_
      rintro e w3 ⟨rfl, hb3, _⟩
      have HX := Lib.hid hb3
      clear hb3
      go_wp2_with fail
      go_ret
      rw [← HST.out]
      exact LiP.no rfl h0 HX.out

/-! Read. -/
def ReadP (R : Nat × List Bx) (w : World) (e : Ending) (w' : World) : Prop := ∃ v, e = .returned (.tuple #[v, .int .i64 R.1]) ∧ ReadsB w' v R.2 ∧ Below w.heap.size w w'
theorem ReadP.of {R : Nat × List Bx} {w w' : World} {v : Value} {c : Nat} {B : List Bx} (h : R = (c, B)) (hv : ReadsB w' v B) (hb : Below w.heap.size w w') : ReadP R w (.returned (.tuple #[v, .int .i64 c])) w' :=
  ⟨v, by rw [h], by rw [h]; exact hv, hb⟩
theorem rd_new (w1 : World) (v : Value) (T : List Tk) (hv : ReadsT w1 v T) (hok : ∀ t ∈ T, Ok t) (hc : Lex.cost T ≤ 100000) : RdAt w1 (w1.alloc (.cells #[v, .slice none 0 0] rdT)) T [] := by
  obtain ⟨a, cap, rfl⟩ := hv.shape
  exact ⟨⟨a, cap, .slice none 0 0, Lies.new _ _ _, hv, World.ownsRow_nil _ _ _ _⟩, (Below.refl _ _).alloc (Nat.le_refl _) _, hok, hc, by simp⟩
set_option maxRecDepth 100000 in
set_option maxHeartbeats 4000000 in
theorem read_any (s : ByteArray) (w : World) (hs : s.size ≤ 50000) :
    Calls Tryd.prog 9 #[.string s] w (ReadP (readL (bl s)) w) := by
  have HS := Lib.hid (fun W => scan_any s W (by omega))
  by_cases h0 : (scan (bl s)).1 = 0
  · obtain ⟨T, hT⟩ : ∃ T, scan (bl s) = (0, T) := ⟨(scan (bl s)).2, by rw [← h0]⟩
    obtain ⟨h1, h2⟩ := scan_ok hT
    rw [bl_len] at h2
    have hrl : readL (bl s) = lst (cutL T).length (cutL T) [] := by
      unfold readL
      rw [hT, if_pos rfl]
      rfl
    rw [hrl]
    have HS2 : Hid (∀ W, Calls Tryd.prog 21 #[.string s] W fun e W' => ∃ va vn vc, e = .returned (.tuple #[.slice va vn vc, .int .i64 0]) ∧ ReadsT W' (.slice va vn vc) T ∧ Below W.heap.size W W') := Lib.hid fun W => (HS.out W).mono fun e W' he => by
      obtain ⟨v, he, hr, hb⟩ := he
      rw [hT] at he hr
      obtain ⟨va, vc, rfl⟩ := hr.shape
      exact ⟨va, _, vc, he, hr, hb⟩
    have HRN : Hid ((lst (cutL T).length (cutL T) []).1 ≠ 0 → (lst (cutL T).length (cutL T) []).2 = []) := Lib.hid (lst_none _ _ _)
    have HN := Lib.hid (fun w1 v (hv : ReadsT w1 v T) => rd_new w1 v T hv h1 (by omega))
    have HL := Lib.hid (fun w1 W (h : RdAt w1 W T []) => list_any w1 W T [] _ h (Nat.le_refl _))
    generalize lst (cutL T).length (cutL T) [] = R at *
    clear h0 hT HS h1 h2 hrl
    by_cases hr0 : R.1 = 0
    · have hq : ((R.1 : Int) != 0) = false := by rw [hr0]; rfl
      have HR0 := Lib.hid hr0
      clear hr0
      go_enter Tryd.func9, Tryd.ntmps9
      go_wp2_with fail
      refine (HS2.out _).mono ?_
      rintro e w1 ⟨va, vn, vc, rfl, hr, hb⟩
      have HV := Lib.hid (HN.out w1 _ hr)
      have HB := Lib.hid hb
      clear hb hr
      go_wp2_with fail
      refine (HL.out w1 _ HV.out).mono ?_
      rintro e w2 ⟨rfl, hb2, h3⟩
      obtain ⟨T', h4⟩ := h3 HR0.out
      obtain ⟨_, _, _, ba0, bc0, _, _, _, c1, _, _, ho⟩ := h4.cells
      have HX : Hid (ReadsB w2 (.slice ba0 R.2.length bc0) R.2 ∧ Below w.heap.size w w2) := Lib.hid ⟨owns_readsB ho, HB.out.trans (hb2.mono HB.out.size)⟩
      clear hb2 h3 h4 ho
      go_wp2_with fail
      go_ret2
      exact ReadP.of (Prod.ext HR0.out rfl) HX.out.1 HX.out.2
    · have hq := int_ne hr0
      have HR0 := Lib.hid hr0
      clear hr0
      go_enter Tryd.func9, Tryd.ntmps9
      go_wp2_with fail
      refine (HS2.out _).mono ?_
      rintro e w1 ⟨va, vn, vc, rfl, hr, hb⟩
      have HV := Lib.hid (HN.out w1 _ hr)
      have HB := Lib.hid hb
      clear hb hr
      go_wp2_with fail
      refine (HL.out w1 _ HV.out).mono ?_
      rintro e w2 ⟨rfl, hb2, _⟩
      have HX := Lib.hid (HB.out.trans (hb2.mono HB.out.size))
      clear hb2
      go_wp2_with fail
      go_ret2
      exact ReadP.of (B := []) (Prod.ext rfl (HRN.out HR0.out)) (nil_readsB _) HX.out
  · have hX : readL (bl s) = ((scan (bl s)).1, []) := by
      unfold readL
      rw [if_neg h0]
    have HX := Lib.hid hX
    have hne := int_ne h0
    generalize hsc : scan (bl s) = R at *
    have HS2 : Hid (∀ W, Calls Tryd.prog 21 #[.string s] W fun e W' => ∃ v, e = .returned (.tuple #[v, .int .i64 R.1]) ∧ Below W.heap.size W W') := Lib.hid fun W => (HS.out W).mono fun e W' he => by
      obtain ⟨v, he, hr, hb⟩ := he
      rw [hsc] at he
      exact ⟨v, he, hb⟩
    clear HS hsc h0 hX
    go_enter Tryd.func9, Tryd.ntmps9
    go_wp2_with fail
    refine (HS2.out _).mono ?_
    rintro e w1 ⟨v, rfl, hb⟩
    have HB := Lib.hid hb
    clear hb
    go_wp2_with fail
    go_ret2
    exact ReadP.of HX.out (nil_readsB _) HB.out

/-! A box as a result: three cells. -/
abbrev fill3 (W : World) (b : Nat) (x : Bx) : World := ((W.setCell ⟨b, 0, none⟩ (.string x.n)).setCell ⟨b, 1, none⟩ (.string x.l)).setCell ⟨b, 2, none⟩ (.string x.d)
structure Res3 (w : World) (b : Nat) (t : TypeId) (W : World) : Prop where
  lies : ∃ x : Bx, Lies W b #[.string x.n, .string x.l, .string x.d] t
  low : w.heap.size ≤ b
  below : Below w.heap.size w W
theorem Res3.start (w : World) (t : TypeId) (x : Bx) : Res3 w w.heap.size t (w.alloc (boxB t x)) := ⟨⟨x, Lies.new w _ _⟩, Nat.le_refl _, (Below.refl _ _).alloc (Nat.le_refl _) _⟩
theorem Res3.on {w W W' : World} {b : Nat} {t : TypeId} (h : Res3 w b t W) (hb : Below W.heap.size W W') : Res3 w b t W' := by
  obtain ⟨x, hx⟩ := h.lies
  exact ⟨⟨x, hx.same (hb.block _ hx.lt)⟩, h.low, h.below.trans (hb.mono h.below.size)⟩
theorem Res3.fill {w W : World} {b : Nat} {t : TypeId} (h : Res3 w b t W) (y : Bx) : Lies (fill3 W b y) b #[.string y.n, .string y.l, .string y.d] t ∧ Below w.heap.size w (fill3 W b y) := by
  obtain ⟨x, hx⟩ := h.lies
  refine ⟨?_, ((h.below.setCell (p := ⟨b, 0, none⟩) h.low _).setCell (p := ⟨b, 1, none⟩) h.low _).setCell (p := ⟨b, 2, none⟩) h.low _⟩
  exact ((hx.set 0 _).set 1 _).set 2 _
theorem Res3.cells {w W : World} {b : Nat} {t : TypeId} (h : Res3 w b t W) : ∃ x : Bx, W.cell? ⟨b, 0, none⟩ = some (.string x.n) ∧ W.cell? ⟨b, 1, none⟩ = some (.string x.l) ∧ W.cell? ⟨b, 2, none⟩ = some (.string x.d) ∧ W.frozen? ⟨b, 0, none⟩ = false ∧ W.frozen? ⟨b, 1, none⟩ = false ∧ W.frozen? ⟨b, 2, none⟩ = false := by
  obtain ⟨x, hx⟩ := h.lies
  exact ⟨x, hx.cell 0, hx.cell 1, hx.cell 2, hx.free 0, hx.free 1, hx.free 2⟩
/-- What One tells. -/
def OneP (R : Bx × Nat) (w : World) (e : Ending) (w' : World) : Prop := e = .returned (.tuple #[bxV R.1, .int .i64 R.2]) ∧ Below w.heap.size w w'
theorem OneP.of {R : Bx × Nat} {w w' : World} {b : Bx} {c : Nat} (h : R = (b, c)) (hb : Below w.heap.size w w') : OneP R w (.returned (.tuple #[bxV b, .int .i64 c])) w' := by
  subst h
  exact ⟨rfl, hb⟩
theorem one_bad {s : List UInt8} (h : (readL s).1 ≠ 0) : oneL s = (noBx, (readL s).1) := by unfold oneL; rw [if_neg h]
theorem one_good {s : List UInt8} {b : Bx} (h : readL s = (0, [b])) : oneL s = (b, 0) := by unfold oneL; rw [h]; rfl
theorem one_many {s : List UInt8} {B : List Bx} (h : readL s = (0, B)) (hB : B.length ≠ 1) : oneL s = (noBx, 130) := by
  unfold oneL
  rw [h, if_pos rfl]
  match B, hB with
  | [], _ => rfl
  | [b], hB => exact absurd rfl hB
  | b :: c :: r, _ => rfl
set_option maxRecDepth 100000 in
set_option maxHeartbeats 4000000 in
theorem one_any (s : ByteArray) (w : World) (hs : s.size ≤ 50000) :
    Calls Tryd.prog 11 #[.string s] w (OneP (oneL (bl s)) w) := by
  have HRD := Lib.hid (fun W => read_any s W hs)
  have HR0 := Lib.hid (Res3.start w bxT noBx)
  by_cases h0 : (readL (bl s)).1 = 0
  · obtain ⟨B, hB⟩ : ∃ B, readL (bl s) = (0, B) := ⟨(readL (bl s)).2, by rw [← h0]⟩
    have HR2 : Hid (∀ W, Calls Tryd.prog 9 #[.string s] W fun e W' => ∃ va vn vc, e = .returned (.tuple #[.slice va vn vc, .int .i64 0]) ∧ vn = B.length ∧ ReadsB W' (.slice va vn vc) B ∧ Below W.heap.size W W') := Lib.hid fun W => (HRD.out W).mono fun e W' he => by
      obtain ⟨v, he, hr, hb⟩ := he
      rw [hB] at he hr
      obtain ⟨va, vc, rfl⟩ := hr.shape
      exact ⟨va, _, vc, he, rfl, hr, hb⟩
    by_cases h1 : B.length = 1
    · obtain ⟨b, rfl⟩ : ∃ b, B = [b] := List.length_eq_one_iff.1 h1
      have HX := Lib.hid (one_good hB)
      clear h0 hB HRD h1
      go_enter Tryd.func11, Tryd.ntmps11
      go_wp2_with fail
      refine (HR2.out _).mono ?_
      rintro e w1 ⟨va, vn, vc, rfl, hvn, hr, hb⟩
      obtain ⟨g, o, rfl, hg, hrow⟩ := hr.at_ 0 b rfl
      rw [Nat.zero_mul, Nat.add_zero] at hrow
      obtain ⟨d0, d1, d2⟩ := three hrow
      have HR1 := Lib.hid (HR0.out.on hb)
      obtain ⟨x, c0, c1, c2, f0, f1, f2⟩ := HR1.out.cells
      have hq : ((vn : Int) != 1) = false := by rw [hvn]; rfl
      have hv0 : 0 < vn := by rw [hvn]; simp
      clear hb hr hrow hvn
      go_wp2_with fail
      obtain ⟨hl2, hb2⟩ := HR1.out.fill b
      exact bodyPost_ret (v := .tuple #[bxV b, .int .i64 0]) (results_ad2 Tryd.results11 _ _ w.heap.size bxT _ (0, 0) _ rfl hl2 Tryd.underlying33 rfl sizeB) rfl (OneP.of HX.out hb2)
    · have HX := Lib.hid (one_many hB h1)
      clear h0 hB HRD
      go_enter Tryd.func11, Tryd.ntmps11
      go_wp2_with fail
      refine (HR2.out _).mono ?_
      rintro e w1 ⟨va, vn, vc, rfl, hvn, hr, hb⟩
      have HR1 := Lib.hid (HR0.out.on hb)
      obtain ⟨x, c0, c1, c2, f0, f1, f2⟩ := HR1.out.cells
      have hq : ((vn : Int) != 1) = true := by rw [bne_iff_ne, hvn]; omega
      clear hb hr hvn
      go_wp2_with fail
      obtain ⟨hl2, hb2⟩ := HR1.out.fill noBx
      exact bodyPost_ret (v := .tuple #[bxV noBx, .int .i64 130]) (results_ad2 Tryd.results11 _ _ w.heap.size bxT _ (0, 0) _ rfl hl2 Tryd.underlying33 rfl sizeB) rfl (OneP.of (c := 130) HX.out hb2)
  · have HX := Lib.hid (one_bad h0)
    have hne := int_ne h0
    generalize readL (bl s) = R at *
    have HR2 : Hid (∀ W, Calls Tryd.prog 9 #[.string s] W fun e W' => ∃ v, e = .returned (.tuple #[v, .int .i64 R.1]) ∧ Below W.heap.size W W') := Lib.hid fun W => (HRD.out W).mono fun e W' he => by
      obtain ⟨v, he, hr, hb⟩ := he
      exact ⟨v, he, hb⟩
    clear HRD h0
    go_enter Tryd.func11, Tryd.ntmps11
    go_wp2_with fail
    refine (HR2.out _).mono ?_
    rintro e w1 ⟨v, rfl, hb⟩
    have HR1 := Lib.hid (HR0.out.on hb)
    obtain ⟨x, c0, c1, c2, f0, f1, f2⟩ := HR1.out.cells
    clear hb
    go_wp2_with fail
    obtain ⟨hl2, hb2⟩ := HR1.out.fill noBx
    exact bodyPost_ret (v := .tuple #[bxV noBx, .int .i64 R.1]) (results_ad2 Tryd.results11 _ _ w.heap.size bxT _ (0, 0) _ rfl hl2 Tryd.underlying33 rfl sizeB) rfl (OneP.of HX.out hb2)
end Go.Proofs.YtklmhjoiffaniaaDoor.Mbx
