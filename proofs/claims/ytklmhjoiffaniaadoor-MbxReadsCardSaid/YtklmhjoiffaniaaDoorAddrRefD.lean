/-
  Walks of the document's Of, Parse, Strict.
-/
import Derived.Test.YtklmhjoiffaniaaDoorAddrRefC
namespace Go.Proofs.YtklmhjoiffaniaaDoor.Addr
open Go Go.RowKit
open Go.Proofs.YtklmhjoiffaniaaDoor.Lex
open Go.Proofs.YtklmhjoiffaniaaDoor.Glyph (fd foldL foldL_foldL fold_any)
open Go.Proofs.YtklmhjoiffaniaaDoor.Sha (Kept wp_region_kept wp_region_kept_tail quiet_load_row)

theorem of_start (w : World) (T : List Tk) (m : Nat) : OfAt w (w.heap.size + 1) T m 0 ⟨#[]⟩ ⟨#[]⟩ ((w.alloc (boxA arT ⟨#[]⟩ ⟨#[]⟩)).alloc (boxA arT ⟨#[]⟩ ⟨#[]⟩)) := by
  have hw1 : (w.alloc (boxA arT ⟨#[]⟩ ⟨#[]⟩)).heap.size = w.heap.size + 1 := by simp
  refine ⟨?_, (Lies.new w _ _).same (Below.heap_alloc _ _ _ (by simp)), by omega, ((Below.refl _ _).alloc (Nat.le_refl _) _).alloc (by rw [hw1]; omega) _, by simp [textsL], by simp [textsL], fun j t hj => by omega⟩
  have h := Lies.new (w.alloc (boxA arT ⟨#[]⟩ ⟨#[]⟩)) #[.string ⟨#[]⟩, .string ⟨#[]⟩] arT
  rwa [hw1] at h
def KindOk (T : List Tk) : Prop := ∀ t ∈ T, t.kind = 1 ∨ t.kind = 2 ∨ t.kind = 3
theorem word_ok {k : Int} (h : k = 1 ∨ k = 2 ∨ k = 3) (h3 : (k == 3) = false) : wordK k = true := by
  rw [beq_eq_false_iff_ne] at h3
  unfold wordK
  rcases h with rfl | rfl | rfl
  · rfl
  · rfl
  · exact absurd rfl h3
theorem word_no {k : Int} (h3 : (k == 3) = true) : wordK k = false := by
  rw [beq_iff_eq] at h3
  subst h3; rfl
theorem atom_ok {k : Int} (h : (k != 1) = false) : atomK k = true := by
  have : k = 1 := by simpa using h
  subst this; rfl
theorem atom_no {k : Int} (h : (k != 1) = true) : atomK k = false := by
  have : k ≠ 1 := by simpa using h
  unfold atomK
  simp [this]
theorem atom_no3 {k : Int} (h3 : (k == 3) = true) : atomK k = false := by
  rw [beq_iff_eq] at h3
  subst h3; rfl
set_option maxRecDepth 100000 in
set_option maxHeartbeats 8000000 in
theorem refOf_any (v : Value) (T : List Tk) (w : World) (hv : ReadsT w v T) (hl : T.length ≤ 10000) (hc : cost T ≤ 50000) (hkd : KindOk T) :
    Calls Tryd.prog 26 #[v] w (AdPost (ofL T) w) := by
  obtain ⟨va, vc, rfl⟩ := hv.shape
  obtain ⟨n, hn⟩ : ∃ n, n = T.length := ⟨_, rfl⟩
  rw [← hn] at hv hl ⊢
  have HV := Lib.hid (fun k a ha => hv.at_ k a ha)
  have HNN := Lib.hid hn
  have HKD := Lib.hid hkd
  have HR0 := Lib.hid (Res.start w arT)
  clear hv hn hkd
  go_enter Tryd.func26, Tryd.ntmps26
  go_wp2_with fail
  go_loopw [4, 5] (fun at_ i wr => ∃ k : Nat, k ≤ n ∧ i = .int .i64 k ∧ at_ = .int .i64 (atK T k) ∧ wr = w.alloc (boxA arT ⟨#[]⟩ ⟨#[]⟩)) (fun _ i _ => n - (intOf i).toNat)
  case atStart => exact ⟨0, Nat.zero_le _, rfl, rfl, rfl⟩
  case round =>
    obtain ⟨k, hk, rfl, rfl, rfl⟩ := hrel
    by_cases hlt : k < n
    · obtain ⟨t, ht⟩ : ∃ a, T[k]? = some a := ⟨T[k]'(by have := HNN.out; omega), List.getElem?_eq_getElem _⟩
      obtain ⟨b1, o1, rfl, hb1, r1⟩ := HV.out k t ht
      obtain ⟨c0, c1⟩ := two (range_below r1 hb1 HR0.out.below)
      have hab := atB_eq t
      cases q1 : (t.kind == 3)
      · have HS := Lib.hid (atK_same (at_ne ht (by rw [hab, q1]; rfl)))
        clear ht r1 hab
        generalize atK T k = av at *
        go_wp2_with fail
        go_roundw
        case rel => exact ⟨k + 1, by omega, by simp, by rw [HS.out], trivial⟩
        case measure => simp [intOf]; omega
      · cases q2 : (t.text.toList == [64])
        · have HS := Lib.hid (atK_same (at_ne ht (by rw [hab, q1, q2]; rfl)))
          clear ht r1 hab
          generalize atK T k = av at *
          go_wp2_with fail
          go_roundw
          case rel => exact ⟨k + 1, by omega, by simp, by rw [HS.out], trivial⟩
          case measure => simp [intOf]; omega
        · have hle := at_le ht (by rw [hab, q1, q2]; rfl)
          by_cases he : atN T = k
          · obtain ⟨e1, e2⟩ := atK_new he
            have HS := Lib.hid e1
            rw [e2]
            clear ht r1 hab hle he e1 e2
            go_wp2_with fail
            go_roundw
            case rel => exact ⟨k + 1, by omega, by simp, by rw [HS.out], trivial⟩
            case measure => simp [intOf]; omega
          · obtain ⟨e1, e2⟩ := atK_old (T := T) (k := k) (by omega)
            have HS := Lib.hid e1
            rw [e2]
            have h0 : decide (((atN T : Nat) : Int) < 0) = false := decide_eq_false (by omega)
            clear ht r1 hab hle he e1 e2
            generalize atN T = m at *
            go_wp2_with fail
            go_roundw
            case rel => exact ⟨k + 1, by omega, by simp, by rw [HS.out], trivial⟩
            case measure => simp [intOf]; omega
    · obtain rfl : k = n := by omega
      by_cases hat : atN T < k
      · have HM : Hid (atK T k = atN T) := Lib.hid (by unfold atK; rw [if_pos hat])
        rw [HM.out]
        have hatT : atN T < T.length := by rw [← HNN.out]; exact hat
        have HBAD := Lib.hid (fun i t (hi : T[i]? = some t) hc => form_bad hatT (i := i) (t := t) hi hc)
        have HFI := Lib.hid (form_iff hatT)
        have HOY := Lib.hid (fun h => of_yes (T := T) h)
        have HON := Lib.hid (fun h => of_no (T := T) h)
        have h0 : decide (((atN T : Nat) : Int) < 0) = false := decide_eq_false (by omega)
        clear HM hatT
        generalize hm : atN T = m at *
        clear hm
        have HST : Hid (OfAt w (w.heap.size + 1) T m 0 ⟨#[]⟩ ⟨#[]⟩ ((w.alloc (boxA arT ⟨#[]⟩ ⟨#[]⟩)).alloc (boxA arT ⟨#[]⟩ ⟨#[]⟩))) := Lib.hid (of_start w T m)
        go_wp2_with fail
        go_loopw [7] (fun i_ wr => ∃ (i : Nat) (L D : ByteArray), i ≤ k ∧ i_ = .int .i64 i ∧ Hid (OfAt w (w.heap.size + 1) T m i L D wr)) (fun i_ _ => k - (intOf i_).toNat)
        case atStart => exact ⟨0, _, _, Nat.zero_le _, rfl, HST⟩
        case round =>
          clear HST
          obtain ⟨i, L, D, hik, rfl, hI⟩ := hrel
          have hzL : L.size ≤ 50000 := by
            rw [← bl_len, hI.out.hl]
            exact Nat.le_trans (texts_le _) (Nat.le_trans (costT_le T _) hc)
          have hzD : D.size ≤ 50000 := by
            rw [← bl_len, hI.out.hd]
            exact Nat.le_trans (texts_le _) (Nat.le_trans (cost_drop _ _) (Nat.le_trans (costT_le T _) hc))
          by_cases hlt2 : i < k
          · obtain ⟨t, ht⟩ : ∃ a, T[i]? = some a := ⟨T[i]'(by have := HNN.out; omega), List.getElem?_eq_getElem _⟩
            have hzt : t.text.size ≤ 50000 := Nat.le_trans (mem_cost (List.mem_of_getElem? ht)) hc
            have hkd := HKD.out t (List.mem_of_getElem? ht)
            obtain ⟨b1, o1, rfl, hb1, r1⟩ := HV.out i t ht
            obtain ⟨d0, d1⟩ := two (range_below r1 hb1 hI.out.below)
            clear r1
            rcases (by omega : i = m ∨ i < m ∨ m < i) with hi | hi | hi
            · have HNX := Lib.hid (hI.out.skip ht hi (boxT rfT t))
              have t1 : ((i : Int) != m) = false := by rw [hi]; simp
              have t2 : decide ((m : Int) < (i : Int)) = false := decide_eq_false (by omega)
              have t2n : decide (m < i) = false := decide_eq_false (by omega)
              have t3 : decide ((i : Int) < (m : Int)) = false := decide_eq_false (by omega)
              have t3n : decide (i < m) = false := decide_eq_false (by omega)
              clear ht HBAD HFI HOY HON hI hi
              go_wp2_with fail
              go_roundw
              case rel => exact ⟨i + 1, _, _, by omega, by simp, HNX⟩
              case measure => simp [intOf]; omega
            · have t1 : ((i : Int) != m) = true := by rw [bne_iff_ne]; omega
              have t2 : decide ((m : Int) < (i : Int)) = false := decide_eq_false (by omega)
              have t2n : decide (m < i) = false := decide_eq_false (by omega)
              have t3 : decide ((i : Int) < (m : Int)) = true := decide_eq_true (by omega)
              have t3n : decide (i < m) = true := decide_eq_true (by omega)
              have hck : chk m i t = tokOk wordK i t := by unfold chk; rw [if_neg (by omega), if_pos hi]
              by_cases h2 : i % 2 = 1
              · have hm := rem_odd h2
                have hck2 : chk m i t = dotB t := by rw [hck]; unfold tokOk; rw [if_pos h2]
                rw [dotB_eq] at hck2
                clear h2 hck
                cases q1 : (t.kind == 3)
                · have q1n : (t.kind != 3) = true := by rw [bne, q1]; rfl
                  rw [q1] at hck2
                  have HX := Lib.hid (HBAD.out i t ht hck2)
                  have HRS := Lib.hid (hI.out.res.same (w' := wr.alloc (boxT rfT t)) (((Below.refl wr.heap.size wr).alloc (Nat.le_refl _) (boxT rfT t)).block _ hI.out.res.lt))
                  have HBL : Hid (Below w.heap.size w (wr.alloc (boxT rfT t))) := Lib.hid (hI.out.below.alloc hI.out.below.size _)
                  have c0 := HRS.out.cell 0
                  have c1 := HRS.out.cell 1
                  have f0 := HRS.out.free 0
                  have f1 := HRS.out.free 1
                  clear ht HBAD HFI HOY HON hI
                  go_wp2_with fail
                  have hl2 := lies_fill2 HRS.out (.string ⟨#[]⟩) (.string ⟨#[]⟩)
                  have hb2 := below_fill2 HBL.out (Nat.le_refl _) (.string ⟨#[]⟩) (.string ⟨#[]⟩)
                  exact bodyPost_ret (v := .tuple #[adB ⟨#[]⟩ ⟨#[]⟩, .int .i64 130]) (results_ad2 Tryd.results26 _ _ w.heap.size arT _ (0, 0) _ rfl hl2 Tryd.underlying38 rfl sizeAR) rfl (AdPost.no (c := 130) HX.out hb2)
                · have q1n : (t.kind != 3) = false := by rw [bne, q1]; rfl
                  cases q2 : (t.text.toList == [46])
                  · rw [q1, q2] at hck2
                    have HX := Lib.hid (HBAD.out i t ht hck2)
                    have HRS := Lib.hid (hI.out.res.same (w' := wr.alloc (boxT rfT t)) (((Below.refl wr.heap.size wr).alloc (Nat.le_refl _) (boxT rfT t)).block _ hI.out.res.lt))
                    have HBL : Hid (Below w.heap.size w (wr.alloc (boxT rfT t))) := Lib.hid (hI.out.below.alloc hI.out.below.size _)
                    have c0 := HRS.out.cell 0
                    have c1 := HRS.out.cell 1
                    have f0 := HRS.out.free 0
                    have f1 := HRS.out.free 1
                    clear ht HBAD HFI HOY HON hI
                    go_wp2_with fail
                    have hl2 := lies_fill2 HRS.out (.string ⟨#[]⟩) (.string ⟨#[]⟩)
                    have hb2 := below_fill2 HBL.out (Nat.le_refl _) (.string ⟨#[]⟩) (.string ⟨#[]⟩)
                    exact bodyPost_ret (v := .tuple #[adB ⟨#[]⟩ ⟨#[]⟩, .int .i64 130]) (results_ad2 Tryd.results26 _ _ w.heap.size arT _ (0, 0) _ rfl hl2 Tryd.underlying38 rfl sizeAR) rfl (AdPost.no (c := 130) HX.out hb2)
                  · rw [q1, q2] at hck2
                    have HNX := Lib.hid (hI.out.loc ht hi hck2 (boxT rfT t))
                    have HOW := Lib.hid (hI.out.own.same (w' := wr.alloc (boxT rfT t)) (((Below.refl wr.heap.size wr).alloc (Nat.le_refl _) (boxT rfT t)).block _ hI.out.own.lt))
                    have c0 := HOW.out.cell 0
                    have c1 := HOW.out.cell 1
                    have f0 := HOW.out.free 0
                    have f1 := HOW.out.free 1
                    have hzz : L.size + t.text.size ≤ 1000000 := by omega
                    clear ht HBAD HFI HOY HON hI
                    go_wp2_with fail
                    go_roundw
                    case rel => exact ⟨i + 1, _, _, by omega, by simp, HNX⟩
                    case measure => simp [intOf]; omega
              · have hm := rem_even h2
                have hck2 : chk m i t = wordK t.kind := by rw [hck]; unfold tokOk; rw [if_neg h2]
                clear h2 hck
                cases q1 : (t.kind == 3)
                · have hck3 : chk m i t = true := by rw [hck2]; exact word_ok hkd q1
                  have q1n : (t.kind != 3) = true := by rw [bne, q1]; rfl
                  have HNX := Lib.hid (hI.out.loc ht hi hck3 (boxT rfT t))
                  have HOW := Lib.hid (hI.out.own.same (w' := wr.alloc (boxT rfT t)) (((Below.refl wr.heap.size wr).alloc (Nat.le_refl _) (boxT rfT t)).block _ hI.out.own.lt))
                  have c0 := HOW.out.cell 0
                  have c1 := HOW.out.cell 1
                  have f0 := HOW.out.free 0
                  have f1 := HOW.out.free 1
                  have hzz : L.size + t.text.size ≤ 1000000 := by omega
                  clear ht HBAD HFI HOY HON hI
                  go_wp2_with fail
                  go_roundw
                  case rel => exact ⟨i + 1, _, _, by omega, by simp, HNX⟩
                  case measure => simp [intOf]; omega
                · have hck3 : chk m i t = false := by rw [hck2]; exact word_no q1
                  have q1n : (t.kind != 3) = false := by rw [bne, q1]; rfl
                  have HX := Lib.hid (HBAD.out i t ht hck3)
                  have HRS := Lib.hid (hI.out.res.same (w' := wr.alloc (boxT rfT t)) (((Below.refl wr.heap.size wr).alloc (Nat.le_refl _) (boxT rfT t)).block _ hI.out.res.lt))
                  have HBL : Hid (Below w.heap.size w (wr.alloc (boxT rfT t))) := Lib.hid (hI.out.below.alloc hI.out.below.size _)
                  have c0 := HRS.out.cell 0
                  have c1 := HRS.out.cell 1
                  have f0 := HRS.out.free 0
                  have f1 := HRS.out.free 1
                  clear ht HBAD HFI HOY HON hI
                  go_wp2_with fail
                  have hl2 := lies_fill2 HRS.out (.string ⟨#[]⟩) (.string ⟨#[]⟩)
                  have hb2 := below_fill2 HBL.out (Nat.le_refl _) (.string ⟨#[]⟩) (.string ⟨#[]⟩)
                  exact bodyPost_ret (v := .tuple #[adB ⟨#[]⟩ ⟨#[]⟩, .int .i64 130]) (results_ad2 Tryd.results26 _ _ w.heap.size arT _ (0, 0) _ rfl hl2 Tryd.underlying38 rfl sizeAR) rfl (AdPost.no (c := 130) HX.out hb2)
            · have t1 : ((i : Int) != m) = true := by rw [bne_iff_ne]; omega
              have t2 : decide ((m : Int) < (i : Int)) = true := decide_eq_true (by omega)
              have t2n : decide (m < i) = true := decide_eq_true (by omega)
              have t3 : decide ((i : Int) < (m : Int)) = false := decide_eq_false (by omega)
              have t3n : decide (i < m) = false := decide_eq_false (by omega)
              have hck : chk m i t = tokOk atomK (i - m - 1) t := by unfold chk; rw [if_neg (by omega), if_neg (by omega)]
              obtain ⟨j, hj⟩ : ∃ j, i = m + 1 + j := ⟨i - m - 1, by omega⟩
              rw [show i - m - 1 = j by omega] at hck
              have hjj : (i : Int) - (m : Int) - 1 = (j : Int) := by omega
              clear hj
              by_cases h2 : j % 2 = 1
              · have hm := rem_odd h2
                have hck2 : chk m i t = dotB t := by rw [hck]; unfold tokOk; rw [if_pos h2]
                rw [dotB_eq] at hck2
                clear h2 hck
                cases q1 : (t.kind == 3)
                · have q1n : (t.kind != 3) = true := by rw [bne, q1]; rfl
                  rw [q1] at hck2
                  have HX := Lib.hid (HBAD.out i t ht hck2)
                  have HRS := Lib.hid (hI.out.res.same (w' := wr.alloc (boxT rfT t)) (((Below.refl wr.heap.size wr).alloc (Nat.le_refl _) (boxT rfT t)).block _ hI.out.res.lt))
                  have HBL : Hid (Below w.heap.size w (wr.alloc (boxT rfT t))) := Lib.hid (hI.out.below.alloc hI.out.below.size _)
                  have c0 := HRS.out.cell 0
                  have c1 := HRS.out.cell 1
                  have f0 := HRS.out.free 0
                  have f1 := HRS.out.free 1
                  clear ht HBAD HFI HOY HON hI
                  go_wp2_with fail
                  have hl2 := lies_fill2 HRS.out (.string ⟨#[]⟩) (.string ⟨#[]⟩)
                  have hb2 := below_fill2 HBL.out (Nat.le_refl _) (.string ⟨#[]⟩) (.string ⟨#[]⟩)
                  exact bodyPost_ret (v := .tuple #[adB ⟨#[]⟩ ⟨#[]⟩, .int .i64 130]) (results_ad2 Tryd.results26 _ _ w.heap.size arT _ (0, 0) _ rfl hl2 Tryd.underlying38 rfl sizeAR) rfl (AdPost.no (c := 130) HX.out hb2)
                · have q1n : (t.kind != 3) = false := by rw [bne, q1]; rfl
                  cases q2 : (t.text.toList == [46])
                  · rw [q1, q2] at hck2
                    have HX := Lib.hid (HBAD.out i t ht hck2)
                    have HRS := Lib.hid (hI.out.res.same (w' := wr.alloc (boxT rfT t)) (((Below.refl wr.heap.size wr).alloc (Nat.le_refl _) (boxT rfT t)).block _ hI.out.res.lt))
                    have HBL : Hid (Below w.heap.size w (wr.alloc (boxT rfT t))) := Lib.hid (hI.out.below.alloc hI.out.below.size _)
                    have c0 := HRS.out.cell 0
                    have c1 := HRS.out.cell 1
                    have f0 := HRS.out.free 0
                    have f1 := HRS.out.free 1
                    clear ht HBAD HFI HOY HON hI
                    go_wp2_with fail
                    have hl2 := lies_fill2 HRS.out (.string ⟨#[]⟩) (.string ⟨#[]⟩)
                    have hb2 := below_fill2 HBL.out (Nat.le_refl _) (.string ⟨#[]⟩) (.string ⟨#[]⟩)
                    exact bodyPost_ret (v := .tuple #[adB ⟨#[]⟩ ⟨#[]⟩, .int .i64 130]) (results_ad2 Tryd.results26 _ _ w.heap.size arT _ (0, 0) _ rfl hl2 Tryd.underlying38 rfl sizeAR) rfl (AdPost.no (c := 130) HX.out hb2)
                  · rw [q1, q2] at hck2
                    have HNX := Lib.hid (hI.out.dom ht hi hck2 (boxT rfT t))
                    have HOW := Lib.hid (hI.out.own.same (w' := wr.alloc (boxT rfT t)) (((Below.refl wr.heap.size wr).alloc (Nat.le_refl _) (boxT rfT t)).block _ hI.out.own.lt))
                    have c0 := HOW.out.cell 0
                    have c1 := HOW.out.cell 1
                    have f0 := HOW.out.free 0
                    have f1 := HOW.out.free 1
                    have hzz : D.size + t.text.size ≤ 1000000 := by omega
                    clear ht HBAD HFI HOY HON hI
                    go_wp2_with fail
                    go_roundw
                    case rel => exact ⟨i + 1, _, _, by omega, by simp, HNX⟩
                    case measure => simp [intOf]; omega
              · have hm := rem_even h2
                have hck2 : chk m i t = atomK t.kind := by rw [hck]; unfold tokOk; rw [if_neg h2]
                clear h2 hck
                cases q1 : (t.kind == 3)
                · have q1n : (t.kind != 3) = true := by rw [bne, q1]; rfl
                  cases q3 : (t.kind != 1)
                  · have hck3 : chk m i t = true := by rw [hck2]; exact atom_ok q3
                    have HNX := Lib.hid (hI.out.dom ht hi hck3 (boxT rfT t))
                    have HOW := Lib.hid (hI.out.own.same (w' := wr.alloc (boxT rfT t)) (((Below.refl wr.heap.size wr).alloc (Nat.le_refl _) (boxT rfT t)).block _ hI.out.own.lt))
                    have c0 := HOW.out.cell 0
                    have c1 := HOW.out.cell 1
                    have f0 := HOW.out.free 0
                    have f1 := HOW.out.free 1
                    have hzz : D.size + t.text.size ≤ 1000000 := by omega
                    clear ht HBAD HFI HOY HON hI
                    go_wp2_with fail
                    go_roundw
                    case rel => exact ⟨i + 1, _, _, by omega, by simp, HNX⟩
                    case measure => simp [intOf]; omega
                  · have hck3 : chk m i t = false := by rw [hck2]; exact atom_no q3
                    have HX := Lib.hid (HBAD.out i t ht hck3)
                    have HRS := Lib.hid (hI.out.res.same (w' := wr.alloc (boxT rfT t)) (((Below.refl wr.heap.size wr).alloc (Nat.le_refl _) (boxT rfT t)).block _ hI.out.res.lt))
                    have HBL : Hid (Below w.heap.size w (wr.alloc (boxT rfT t))) := Lib.hid (hI.out.below.alloc hI.out.below.size _)
                    have c0 := HRS.out.cell 0
                    have c1 := HRS.out.cell 1
                    have f0 := HRS.out.free 0
                    have f1 := HRS.out.free 1
                    clear ht HBAD HFI HOY HON hI
                    go_wp2_with fail
                    have hl2 := lies_fill2 HRS.out (.string ⟨#[]⟩) (.string ⟨#[]⟩)
                    have hb2 := below_fill2 HBL.out (Nat.le_refl _) (.string ⟨#[]⟩) (.string ⟨#[]⟩)
                    exact bodyPost_ret (v := .tuple #[adB ⟨#[]⟩ ⟨#[]⟩, .int .i64 130]) (results_ad2 Tryd.results26 _ _ w.heap.size arT _ (0, 0) _ rfl hl2 Tryd.underlying38 rfl sizeAR) rfl (AdPost.no (c := 130) HX.out hb2)
                · have hck3 : chk m i t = false := by rw [hck2]; exact atom_no3 q1
                  have q1n : (t.kind != 3) = false := by rw [bne, q1]; rfl
                  have HX := Lib.hid (HBAD.out i t ht hck3)
                  have HRS := Lib.hid (hI.out.res.same (w' := wr.alloc (boxT rfT t)) (((Below.refl wr.heap.size wr).alloc (Nat.le_refl _) (boxT rfT t)).block _ hI.out.res.lt))
                  have HBL : Hid (Below w.heap.size w (wr.alloc (boxT rfT t))) := Lib.hid (hI.out.below.alloc hI.out.below.size _)
                  have c0 := HRS.out.cell 0
                  have c1 := HRS.out.cell 1
                  have f0 := HRS.out.free 0
                  have f1 := HRS.out.free 1
                  clear ht HBAD HFI HOY HON hI
                  go_wp2_with fail
                  have hl2 := lies_fill2 HRS.out (.string ⟨#[]⟩) (.string ⟨#[]⟩)
                  have hb2 := below_fill2 HBL.out (Nat.le_refl _) (.string ⟨#[]⟩) (.string ⟨#[]⟩)
                  exact bodyPost_ret (v := .tuple #[adB ⟨#[]⟩ ⟨#[]⟩, .int .i64 130]) (results_ad2 Tryd.results26 _ _ w.heap.size arT _ (0, 0) _ rfl hl2 Tryd.underlying38 rfl sizeAR) rfl (AdPost.no (c := 130) HX.out hb2)
          · obtain rfl : i = k := by omega
            have hTi : T.take i = T := List.take_of_length_le (by have := HNN.out; omega)
            have HLD : Hid (bl L = textsL (T.take m) ∧ bl D = textsL (T.drop (m + 1))) := Lib.hid ⟨by rw [hI.out.hl, show min i m = m by omega], by rw [hI.out.hd, hTi]⟩
            have HOK : Hid (∀ j t, T[j]? = some t → chk m j t = true) := Lib.hid (fun j t hj => hI.out.ok j t (by have := (List.getElem?_eq_some_iff.1 hj).1; have := HNN.out; omega) hj)
            have HFO : Hid (formT T = true ↔ (m % 2 = 1 ∧ (i - m - 1) % 2 = 1)) := Lib.hid (by
              rw [HFI.out, ← HNN.out]
              exact ⟨fun h => h.2, fun h => ⟨HOK.out, h⟩⟩)
            have HRS := Lib.hid (And.intro hI.out.res hI.out.below)
            have HOW := Lib.hid (And.intro hI.out.own (And.intro hI.out.low (And.intro hI.out.own.lt hI.out.below)))
            obtain ⟨j, hj⟩ : ∃ j, i - m - 1 = j := ⟨_, rfl⟩
            have hjj : (i : Int) - (m : Int) - 1 = (j : Int) := by omega
            rw [hj] at HFO
            clear hTi HOK HFI HBAD hI hj
            by_cases p1 : m % 2 = 1
            · have hm1 := rem_odd p1
              by_cases p2 : j % 2 = 1
              · have hm2 := rem_odd p2
                have HX : Hid (ofL T = buildL (bl L) (bl D)) := Lib.hid (by rw [HOY.out (HFO.out.2 ⟨p1, p2⟩), HLD.out.1, HLD.out.2])
                have HFD := Lib.hid (fun W => refFoldX_any D W (by omega))
                have hzd : (ba (foldL (bl D))).size ≤ 50000 := by rw [ba_size, foldL_len, bl_len]; exact hzD
                have HY := Lib.hid (fun W => refWhy_any L (ba (foldL (bl D))) W (by omega) (by omega))
                have HYE : Hid (whyC (bl L) (bl (ba (foldL (bl D)))) = whyC (bl L) (bl D)) := Lib.hid (by rw [bl_ba, why_fd2])
                have HRES : Hid (buildL (bl L) (bl D) = if whyC (bl L) (bl D) = 0 then (⟨bl L, foldL (bl D)⟩, 0) else (noAd, whyC (bl L) (bl D))) := Lib.hid rfl
                unfold WhyP at HY
                rw [HYE.out] at HY
                generalize hfd : ba (foldL (bl D)) = x at *
                have HXF : Hid (ba (foldL (bl D)) = x) := Lib.hid hfd
                generalize whyC (bl L) (bl D) = c at *
                clear p1 p2 HFO HOY HON HYE HLD hfd
                have c0 := HOW.out.1.cell 0
                have c1 := HOW.out.1.cell 1
                go_wp2_with fail
                refine (HFD.out _).mono ?_
                rintro e w2 ⟨rfl, hb⟩
                have HOW2 := Lib.hid (HOW.out.1.same (hb.block _ HOW.out.2.2.1))
                have HRS2 := Lib.hid (And.intro (HRS.out.1.same (hb.block _ HRS.out.1.lt)) (HRS.out.2.trans (hb.mono HRS.out.2.size)))
                have d0 := HOW2.out.cell 0
                have d1 := HOW2.out.cell 1
                have f0 := HOW2.out.free 0
                have f1 := HOW2.out.free 1
                have HOW3 := Lib.hid (HOW2.out.set 1 (.string x))
                have HRS3 : Hid (Lies (w2.setCell ⟨w.heap.size + 1, 1, none⟩ (.string x)) w.heap.size #[.string ⟨#[]⟩, .string ⟨#[]⟩] arT ∧ Below w.heap.size w (w2.setCell ⟨w.heap.size + 1, 1, none⟩ (.string x))) := Lib.hid ⟨HRS2.out.1.other _ (by omega), HRS2.out.2.setCell (Nat.le_succ _) _⟩
                clear hb c0 c1
                go_upto_region 28 with (fail)
                clear d0 d1 f0 f1
                generalize hW3 : w2.setCell ⟨w.heap.size + 1, 1, none⟩ (.string x) = w3 at *
                have e0 : w3.cell? ⟨w.heap.size + 1, 0, none⟩ = some (.string L) := HOW3.out.cell 0
                have e1 : w3.cell? ⟨w.heap.size + 1, 1, none⟩ = some (.string x) := HOW3.out.cell 1
                clear hW3
                go_wp2_with fail
                refine (HY.out _).mono ?_
                rintro e w4 ⟨rfl, hb⟩
                have HOW4 := Lib.hid (HOW3.out.same (hb.block _ HOW3.out.lt))
                have HRS4 := Lib.hid (And.intro (HRS3.out.1.same (hb.block _ HRS3.out.1.lt)) (HRS3.out.2.trans (hb.mono HRS3.out.2.size)))
                have c0 := HRS4.out.1.cell 0
                have c1 := HRS4.out.1.cell 1
                have f0 := HRS4.out.1.free 0
                have f1 := HRS4.out.1.free 1
                have d0 : w4.cell? ⟨w.heap.size + 1, 0, none⟩ = some (.string L) := HOW4.out.cell 0
                have d1 : w4.cell? ⟨w.heap.size + 1, 1, none⟩ = some (.string x) := HOW4.out.cell 1
                clear hb e0 e1
                by_cases hc0 : c = 0
                · subst hc0
                  have HR5 : Hid (ofL T = (⟨bl L, foldL (bl D)⟩, 0)) := Lib.hid (by rw [HX.out, HRES.out]; simp)
                  go_wp2_with fail
                  have hl2 := lies_fill2 HRS4.out.1 (.string L) (.string x)
                  have hb2 := below_fill2 HRS4.out.2 (Nat.le_refl _) (.string L) (.string x)
                  exact bodyPost_ret (v := .tuple #[adB L x, .int .i64 0]) (results_ad2 Tryd.results26 _ _ w.heap.size arT _ (0, 0) _ rfl hl2 Tryd.underlying38 rfl sizeAR) rfl (AdPost.of (c := 0) (by rw [HR5.out]) (by rw [HR5.out]; exact HXF.out) (by rw [HR5.out]) hb2)
                · have u1 : ((c : Int) != 0) = true := by rw [bne_iff_ne]; omega
                  have HC := Lib.hid hc0
                  clear hc0
                  go_wp2_with fail
                  have hl2 := lies_fill2 HRS4.out.1 (.string ⟨#[]⟩) (.string ⟨#[]⟩)
                  have hb2 := below_fill2 HRS4.out.2 (Nat.le_refl _) (.string ⟨#[]⟩) (.string ⟨#[]⟩)
                  exact bodyPost_ret (v := .tuple #[adB ⟨#[]⟩ ⟨#[]⟩, .int .i64 c]) (results_ad2 Tryd.results26 _ _ w.heap.size arT _ (0, 0) _ rfl hl2 Tryd.underlying38 rfl sizeAR) rfl (AdPost.no (c := c) (by rw [HX.out, HRES.out, if_neg HC.out]) hb2)
              · have hm2 := rem_even p2
                have HX : Hid (ofL T = (noAd, 130)) := Lib.hid (HON.out (by rw [← Bool.not_eq_true, HFO.out]; exact fun h => p2 h.2))
                clear p1 p2 HFO HOY HON HLD
                have c0 := HRS.out.1.cell 0
                have c1 := HRS.out.1.cell 1
                have f0 := HRS.out.1.free 0
                have f1 := HRS.out.1.free 1
                go_wp2_with fail
                have hl2 := lies_fill2 HRS.out.1 (.string ⟨#[]⟩) (.string ⟨#[]⟩)
                have hb2 := below_fill2 HRS.out.2 (Nat.le_refl _) (.string ⟨#[]⟩) (.string ⟨#[]⟩)
                exact bodyPost_ret (v := .tuple #[adB ⟨#[]⟩ ⟨#[]⟩, .int .i64 130]) (results_ad2 Tryd.results26 _ _ w.heap.size arT _ (0, 0) _ rfl hl2 Tryd.underlying38 rfl sizeAR) rfl (AdPost.no (c := 130) HX.out hb2)
            · have hm1 := rem_even p1
              have HX : Hid (ofL T = (noAd, 130)) := Lib.hid (HON.out (by rw [← Bool.not_eq_true, HFO.out]; exact fun h => p1 h.1))
              clear p1 HFO HOY HON HLD
              have c0 := HRS.out.1.cell 0
              have c1 := HRS.out.1.cell 1
              have f0 := HRS.out.1.free 0
              have f1 := HRS.out.1.free 1
              go_wp2_with fail
              have hl2 := lies_fill2 HRS.out.1 (.string ⟨#[]⟩) (.string ⟨#[]⟩)
              have hb2 := below_fill2 HRS.out.2 (Nat.le_refl _) (.string ⟨#[]⟩) (.string ⟨#[]⟩)
              exact bodyPost_ret (v := .tuple #[adB ⟨#[]⟩ ⟨#[]⟩, .int .i64 130]) (results_ad2 Tryd.results26 _ _ w.heap.size arT _ (0, 0) _ rfl hl2 Tryd.underlying38 rfl sizeAR) rfl (AdPost.no (c := 130) HX.out hb2)
      · have HM : Hid (atK T k = -1) := Lib.hid (by unfold atK; rw [if_neg hat])
        have HX := Lib.hid (of_no (T := T) (by unfold formT; rw [decide_eq_false (by rw [← HNN.out]; exact hat)]; rfl))
        rw [HM.out]
        go_wp2_with fail
        exact bodyPost_ret (v := .tuple #[adB ⟨#[]⟩ ⟨#[]⟩, .int .i64 130]) (results_ad2 Tryd.results26 _ _ w.heap.size arT _ (0, 0) _ rfl HR0.out.lies Tryd.underlying38 rfl sizeAR) rfl (AdPost.no (c := 130) HX.out HR0.out.below)
end Go.Proofs.YtklmhjoiffaniaaDoor.Addr
