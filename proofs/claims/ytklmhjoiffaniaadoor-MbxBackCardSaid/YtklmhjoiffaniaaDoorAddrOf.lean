/-
  Walks: Of, Parse, Strict.
-/
import Derived.Test.YtklmhjoiffaniaaDoorAddrWalkC
namespace Go.Proofs.YtklmhjoiffaniaaDoor.Addr
open Go Go.RowKit
open Go.Proofs.YtklmhjoiffaniaaDoor.Lex
open Go.Proofs.YtklmhjoiffaniaaDoor.Glyph (fd foldL foldL_foldL fold_any)
open Go.Proofs.YtklmhjoiffaniaaDoor.Sha (Kept wp_region_kept wp_region_kept_tail quiet_load_row)

theorem word_contains : ([1, 2] : List Int).contains = wordK := by
  funext k
  unfold wordK
  rw [Bool.eq_iff_iff, List.contains_iff_mem]
  simp
theorem atom_contains : ([1] : List Int).contains = atomK := by
  funext k
  unfold atomK
  rw [Bool.eq_iff_iff, List.contains_iff_mem]
  simp
theorem kinds2 (w : World) : KindsAt (w.alloc (.cells #[.int .i64 1, .int .i64 2] 3)) w.heap.size [1, 2] := by
  refine ⟨by simp, fun i k hi => ?_⟩
  have hb := heap_alloc_new w (.cells #[.int .i64 1, .int .i64 2] 3)
  simp only [World.cell?, hb]
  match i, hi with
  | 0, hi => obtain rfl : 1 = k := by simpa using hi
             rfl
  | 1, hi => obtain rfl : 2 = k := by simpa using hi
             rfl
  | i + 2, hi => simp at hi
theorem kinds1 (w : World) : KindsAt (w.alloc (.cells #[.int .i64 1] 3)) w.heap.size [1] := by
  refine ⟨by simp, fun i k hi => ?_⟩
  have hb := heap_alloc_new w (.cells #[.int .i64 1] 3)
  simp only [World.cell?, hb]
  match i, hi with
  | 0, hi => obtain rfl : 1 = k := by simpa using hi
             rfl
  | i + 1, hi => simp at hi
theorem front {w : World} {b off n cap : Nat} {T : List Tk} (h : ReadsT w (.slice (some ⟨b, off, none⟩) n cap) T) (k : Nat) (hk : k ≤ n) : ReadsT w (.slice (some ⟨b, off, none⟩) k cap) (T.take k) := by
  rcases h with ⟨a, c, he, rfl⟩ | ⟨b', o', c', he, h1, h2, h3, h4⟩
  · obtain ⟨rfl, rfl, rfl⟩ := Value.slice.inj he
    obtain rfl : k = 0 := by omega
    exact .inl ⟨_, _, rfl, by simp⟩
  · obtain ⟨hA, rfl, rfl⟩ := Value.slice.inj he
    obtain ⟨rfl, rfl⟩ : b = b' ∧ off = o' := by simpa using hA
    have hl : (T.take k).length = k := by rw [List.length_take]; omega
    refine .inr ⟨b, off, cap, by rw [hl], by omega, h2, h3, fun i e hi => h4 i e ?_⟩
    rw [List.getElem?_take] at hi
    split at hi
    · exact hi
    · cases hi
theorem back {w : World} {b off n cap : Nat} {T : List Tk} (h : ReadsT w (.slice (some ⟨b, off, none⟩) n cap) T) (j : Nat) (hj : j ≤ n) : ReadsT w (.slice (some ⟨b, off + j * 2, none⟩) (n - j) (cap - j)) (T.drop j) := by
  rcases h with ⟨a, c, he, rfl⟩ | ⟨b', o', c', he, h1, h2, h3, h4⟩
  · obtain ⟨rfl, rfl, rfl⟩ := Value.slice.inj he
    exact .inl ⟨_, _, by rw [Nat.zero_sub], by simp⟩
  · obtain ⟨hA, rfl, rfl⟩ := Value.slice.inj he
    obtain ⟨rfl, rfl⟩ : b = b' ∧ off = o' := by simpa using hA
    refine .inr ⟨b, off + j * 2, cap - j, by rw [List.length_drop], by rw [List.length_drop]; omega, by omega, h3, fun i e hi => ?_⟩
    rw [List.getElem?_drop] at hi
    have := h4 _ e hi
    rwa [show off + (j + i) * 2 = off + j * 2 + i * 2 by omega] at this
/-- All of a list taken off: where nothing is left the address stays. -/
theorem back_all {w : World} {b off n cap : Nat} {T : List Tk} (h : ReadsT w (.slice (some ⟨b, off, none⟩) n cap) T) (j : Nat) (hj : n ≤ j) : ReadsT w (.slice (some ⟨b, off, none⟩) (n - j) 0) (T.drop j) := by
  obtain ⟨a, c, he⟩ := h.shape
  obtain ⟨-, hn, -⟩ := Value.slice.inj he
  rw [show n - j = 0 by omega, List.drop_eq_nil_of_le (by omega)]
  exact .inl ⟨_, _, rfl, rfl⟩
theorem cost_drop (T : List Tk) (k : Nat) : cost (T.drop k) ≤ cost T := by
  have h : cost T = cost (T.take k) + cost (T.drop k) := by
    conv => lhs; rw [← List.take_append_drop k T]
    unfold cost
    rw [List.map_append, List.sum_append]
  omega
theorem of_no {T : List Tk} (h : formT T = false) : ofL T = (noAd, 130) := by
  unfold ofL
  rw [h, if_neg (by decide)]
theorem of_yes {T : List Tk} (h : formT T = true) : ofL T = buildL (textsL (T.take (atN T))) (textsL (T.drop (atN T + 1))) := by
  unfold ofL
  rw [if_pos h]
set_option maxRecDepth 100000 in
set_option maxHeartbeats 4000000 in
theorem of_any (v : Value) (T : List Tk) (w : World) (hv : ReadsT w v T) (hl : T.length ≤ 100000) (hc : cost T ≤ 100000) :
    Calls Tryd.prog 91 #[v] w (AdPost (ofL T) w) := by
  have HS := Lib.hid (fun W => special_any atS W)
  have HI := Lib.hid (fun W (h : ReadsT W v T) => indexT_any v T W h (by omega))
  have HR0 := Lib.hid (Res.start w adT)
  have HV := Lib.hid hv
  by_cases hat : atN T < T.length
  · have hi : atI T = atN T := by unfold atI; rw [if_pos hat]
    rw [hi] at HI
    have hF : formT T = (joined wordK 0 (T.take (atN T)) && joined atomK 0 (T.drop (atN T + 1))) := by unfold formT; rw [decide_eq_true hat]; rfl
    obtain ⟨k, hk⟩ : ∃ k, k = atN T := ⟨_, rfl⟩
    have HY := Lib.hid (fun h => of_yes (T := T) h)
    have HN := Lib.hid (fun h => of_no (T := T) h)
    rw [← hk] at hat hF HI HY
    have HF := Lib.hid hF
    have hsh : ∃ b off cap, v = .slice (some ⟨b, off, none⟩) T.length cap ∧ T.length ≤ cap ∧ cap ≤ 9223372036854775807 := by
      rcases hv with ⟨a, c, rfl, rfl⟩ | ⟨b, off, cap, rfl, h1, h2, _⟩
      · simp at hat
      · exact ⟨b, off, cap, rfl, h1, h2⟩
    obtain ⟨b, off, cap, rfl, hc1, hc2⟩ := hsh
    have HFR := Lib.hid (fun W (h : ReadsT W (.slice (some ⟨b, off, none⟩) T.length cap) T) => front h k (Nat.le_of_lt hat))
    have HBK : Hid (∃ o2 c2, (cap = k + 1 → o2 = off ∧ c2 = 0) ∧ (k + 1 < cap → o2 = off + (k + 1) * 2 ∧ c2 = cap - (k + 1)) ∧ ∀ W, ReadsT W (.slice (some ⟨b, off, none⟩) T.length cap) T → ReadsT W (.slice (some ⟨b, o2, none⟩) (T.length - (k + 1)) c2) (T.drop (k + 1))) := Lib.hid (by
      by_cases hcap : cap = k + 1
      · exact ⟨off, 0, fun _ => ⟨rfl, rfl⟩, fun h => by omega, fun W h => back_all h (k + 1) (by omega)⟩
      · exact ⟨off + (k + 1) * 2, cap - (k + 1), fun h => absurd h hcap, fun _ => ⟨rfl, rfl⟩, fun W h => back h (k + 1) hat⟩)
    have hkc : k + 1 ≤ cap := by omega
    have hlT : (T.take k).length ≤ 100000 := by rw [List.length_take]; omega
    have hlD : (T.drop (k + 1)).length ≤ 100000 := by rw [List.length_drop]; omega
    have HJ := Lib.hid (fun v b' W (h : ReadsT W v (T.take k)) (hk : KindsAt W b' [1, 2]) => joined_any v (T.take k) b' 2 [1, 2] W h hlT hk (by decide))
    have HJ1 := Lib.hid (fun v b' W (h : ReadsT W v (T.drop (k + 1))) (hk : KindsAt W b' [1]) => joined_any v (T.drop (k + 1)) b' 1 [1] W h hlD hk (by decide))
    rw [word_contains] at HJ
    rw [atom_contains] at HJ1
    obtain ⟨n, hn⟩ : ∃ n, n = T.length := ⟨_, rfl⟩
    rw [← hn] at hat hl hc1 HFR HBK HI HV ⊢
    clear hF hi hv hk hn
    cases hw : joined wordK 0 (T.take k)
    · rw [hw] at HJ HF
      have HX := Lib.hid (HN.out HF.out)
      clear hw
      go_enter Tryd.func91, Tryd.ntmps91
      go_wp2_with fail
      refine (HS.out _).mono ?_
      rintro e w1 ⟨rfl, hb⟩
      have HR1 := Lib.hid (HR0.out.on hb)
      clear hb
      go_wp2_with fail
      refine (HI.out _ (HV.out.below HR1.out.below)).mono ?_
      rintro e w2 ⟨rfl, hb⟩
      have HR2 := Lib.hid (HR1.out.on hb)
      clear hb
      go_wp2_with fail
      have HA3 := Lib.hid ((Below.refl w2.heap.size w2).alloc (Nat.le_refl _) (.cells #[.int .i64 1, .int .i64 2] 3))
      have HV2 := Lib.hid (HV.out.below HR2.out.below)
      refine (HJ.out _ _ _ (HFR.out _ (HV2.out.below HA3.out)) (kinds2 w2)).mono ?_
      rintro e w3 ⟨rfl, hb⟩
      have HB3 := Lib.hid (HA3.out.trans (hb.mono HA3.out.size))
      have HR3 := Lib.hid (HR2.out.on HB3.out)
      have HV3 := Lib.hid (HV2.out.below HB3.out)
      clear hb HA3
      obtain ⟨c0, c1, f0, f1⟩ := HR3.out.cells
      go_wp2_with fail
      obtain ⟨hl2, hb2⟩ := HR3.out.fill ⟨#[]⟩ ⟨#[]⟩
      exact bodyPost_ret (v := .tuple #[adB ⟨#[]⟩ ⟨#[]⟩, .int .i64 130]) (results_ad2 Tryd.results91 _ _ w.heap.size adT _ (0, 0) _ rfl hl2 Tryd.underlying31 rfl sizeA) rfl (AdPost.no (c := 130) HX.out hb2)
    · rw [hw] at HJ HF
      rcases Nat.lt_or_ge (k + 1) cap with hcap | hcap
      rotate_left
      · obtain rfl : cap = k + 1 := by omega
        have HBK2 : Hid (∀ W : World, ReadsT W (.slice (some ⟨b, off, none⟩) 0 0) (T.drop (k + 1))) := Lib.hid fun W => by
          obtain ⟨_, _, he⟩ := HV.out.shape
          have hnl := (Value.slice.inj he).2.1
          rw [List.drop_eq_nil_of_le (by omega)]
          exact .inl ⟨_, _, rfl, rfl⟩
        have hw1 : joined atomK 0 (T.drop (k + 1)) = false := by
          obtain ⟨_, _, he⟩ := HV.out.shape
          have hnl := (Value.slice.inj he).2.1
          rw [List.drop_eq_nil_of_le (by omega)]
          rfl
        clear HBK
        rw [hw1] at HJ1 HF
        have HX := Lib.hid (HN.out HF.out)
        clear hw hw1
        go_enter Tryd.func91, Tryd.ntmps91
        go_wp2_with fail
        refine (HS.out _).mono ?_
        rintro e w1 ⟨rfl, hb⟩
        have HR1 := Lib.hid (HR0.out.on hb)
        clear hb
        go_wp2_with fail
        refine (HI.out _ (HV.out.below HR1.out.below)).mono ?_
        rintro e w2 ⟨rfl, hb⟩
        have HR2 := Lib.hid (HR1.out.on hb)
        clear hb
        go_wp2_with fail
        have HA3 := Lib.hid ((Below.refl w2.heap.size w2).alloc (Nat.le_refl _) (.cells #[.int .i64 1, .int .i64 2] 3))
        have HV2 := Lib.hid (HV.out.below HR2.out.below)
        refine (HJ.out _ _ _ (HFR.out _ (HV2.out.below HA3.out)) (kinds2 w2)).mono ?_
        rintro e w3 ⟨rfl, hb⟩
        have HB3 := Lib.hid (HA3.out.trans (hb.mono HA3.out.size))
        have HR3 := Lib.hid (HR2.out.on HB3.out)
        have HV3 := Lib.hid (HV2.out.below HB3.out)
        clear hb HA3
        go_wp2_with fail
        have HA4 := Lib.hid ((Below.refl w3.heap.size w3).alloc (Nat.le_refl _) (.cells #[.int .i64 1] 3))
        refine (HJ1.out _ _ _ (HBK2.out _) (kinds1 w3)).mono ?_
        rintro e w4 ⟨rfl, hb⟩
        have HB4 := Lib.hid (HA4.out.trans (hb.mono HA4.out.size))
        have HR4 := Lib.hid (HR3.out.on HB4.out)
        have HV4 := Lib.hid (HV3.out.below HB4.out)
        clear hb HA4
        obtain ⟨c0, c1, f0, f1⟩ := HR4.out.cells
        go_wp2_with fail
        obtain ⟨hl2, hb2⟩ := HR4.out.fill ⟨#[]⟩ ⟨#[]⟩
        exact bodyPost_ret (v := .tuple #[adB ⟨#[]⟩ ⟨#[]⟩, .int .i64 130]) (results_ad2 Tryd.results91 _ _ w.heap.size adT _ (0, 0) _ rfl hl2 Tryd.underlying31 rfl sizeA) rfl (AdPost.no (c := 130) HX.out hb2)
      obtain ⟨o2, c2, ⟨rfl, rfl⟩, hbk⟩ : ∃ o2 c2, (o2 = off + (k + 1) * 2 ∧ c2 = cap - (k + 1)) ∧ ∀ W, ReadsT W (.slice (some ⟨b, off, none⟩) n cap) T → ReadsT W (.slice (some ⟨b, o2, none⟩) (n - (k + 1)) c2) (T.drop (k + 1)) := by
        obtain ⟨o2, c2, h1, h2, h3⟩ := HBK.out
        exact ⟨o2, c2, h2 hcap, h3⟩
      have HBK2 := Lib.hid hbk
      clear hbk HBK
      cases hw1 : joined atomK 0 (T.drop (k + 1))
      · rw [hw1] at HJ1 HF
        have HX := Lib.hid (HN.out HF.out)
        clear hw hw1
        go_enter Tryd.func91, Tryd.ntmps91
        go_wp2_with fail
        refine (HS.out _).mono ?_
        rintro e w1 ⟨rfl, hb⟩
        have HR1 := Lib.hid (HR0.out.on hb)
        clear hb
        go_wp2_with fail
        refine (HI.out _ (HV.out.below HR1.out.below)).mono ?_
        rintro e w2 ⟨rfl, hb⟩
        have HR2 := Lib.hid (HR1.out.on hb)
        clear hb
        go_wp2_with fail
        have HA3 := Lib.hid ((Below.refl w2.heap.size w2).alloc (Nat.le_refl _) (.cells #[.int .i64 1, .int .i64 2] 3))
        have HV2 := Lib.hid (HV.out.below HR2.out.below)
        refine (HJ.out _ _ _ (HFR.out _ (HV2.out.below HA3.out)) (kinds2 w2)).mono ?_
        rintro e w3 ⟨rfl, hb⟩
        have HB3 := Lib.hid (HA3.out.trans (hb.mono HA3.out.size))
        have HR3 := Lib.hid (HR2.out.on HB3.out)
        have HV3 := Lib.hid (HV2.out.below HB3.out)
        clear hb HA3
        go_wp2_with fail
        have HA4 := Lib.hid ((Below.refl w3.heap.size w3).alloc (Nat.le_refl _) (.cells #[.int .i64 1] 3))
        refine (HJ1.out _ _ _ (HBK2.out _ (HV3.out.below HA4.out)) (kinds1 w3)).mono ?_
        rintro e w4 ⟨rfl, hb⟩
        have HB4 := Lib.hid (HA4.out.trans (hb.mono HA4.out.size))
        have HR4 := Lib.hid (HR3.out.on HB4.out)
        have HV4 := Lib.hid (HV3.out.below HB4.out)
        clear hb HA4
        obtain ⟨c0, c1, f0, f1⟩ := HR4.out.cells
        go_wp2_with fail
        obtain ⟨hl2, hb2⟩ := HR4.out.fill ⟨#[]⟩ ⟨#[]⟩
        exact bodyPost_ret (v := .tuple #[adB ⟨#[]⟩ ⟨#[]⟩, .int .i64 130]) (results_ad2 Tryd.results91 _ _ w.heap.size adT _ (0, 0) _ rfl hl2 Tryd.underlying31 rfl sizeA) rfl (AdPost.no (c := 130) HX.out hb2)
      · rw [hw1] at HJ1 HF
        have HX := Lib.hid (HY.out HF.out)
        clear hw hw1
        go_enter Tryd.func91, Tryd.ntmps91
        go_wp2_with fail
        refine (HS.out _).mono ?_
        rintro e w1 ⟨rfl, hb⟩
        have HR1 := Lib.hid (HR0.out.on hb)
        clear hb
        go_wp2_with fail
        refine (HI.out _ (HV.out.below HR1.out.below)).mono ?_
        rintro e w2 ⟨rfl, hb⟩
        have HR2 := Lib.hid (HR1.out.on hb)
        clear hb
        go_wp2_with fail
        have HA3 := Lib.hid ((Below.refl w2.heap.size w2).alloc (Nat.le_refl _) (.cells #[.int .i64 1, .int .i64 2] 3))
        have HV2 := Lib.hid (HV.out.below HR2.out.below)
        refine (HJ.out _ _ _ (HFR.out _ (HV2.out.below HA3.out)) (kinds2 w2)).mono ?_
        rintro e w3 ⟨rfl, hb⟩
        have HB3 := Lib.hid (HA3.out.trans (hb.mono HA3.out.size))
        have HR3 := Lib.hid (HR2.out.on HB3.out)
        have HV3 := Lib.hid (HV2.out.below HB3.out)
        clear hb HA3
        go_wp2_with fail
        have HA4 := Lib.hid ((Below.refl w3.heap.size w3).alloc (Nat.le_refl _) (.cells #[.int .i64 1] 3))
        refine (HJ1.out _ _ _ (HBK2.out _ (HV3.out.below HA4.out)) (kinds1 w3)).mono ?_
        rintro e w4 ⟨rfl, hb⟩
        have HB4 := Lib.hid (HA4.out.trans (hb.mono HA4.out.size))
        have HR4 := Lib.hid (HR3.out.on HB4.out)
        have HV4 := Lib.hid (HV3.out.below HB4.out)
        clear hb HA4
        go_wp2_with fail
        have HV4B := Lib.hid (fun W (hW : Below w4.heap.size w4 W) => HV4.out.below hW)
        have HT1 : Hid (∀ W, Kept w4 W → Calls Tryd.prog 100 #[.slice (some ⟨b, off, none⟩) k cap] W fun e W' => e = .returned (.string (ba (textsL (T.take k)))) ∧ Kept w4 W') :=
          Lib.hid fun W hW => (texts_any _ (T.take k) W (HFR.out _ (HV4B.out W hW.below)) hlT (Nat.le_trans (costT_le T k) (by omega))).mono fun e W' he => ⟨he.1, hW.below.trans (he.2.mono hW.below.size)⟩
        have HT2 : Hid (∀ W, Kept w4 W → Calls Tryd.prog 100 #[.slice (some ⟨b, off + (k + 1) * 2, none⟩) (n - (k + 1)) (cap - (k + 1))] W fun e W' => e = .returned (.string (ba (textsL (T.drop (k + 1))))) ∧ Kept w4 W') :=
          Lib.hid fun W hW => (texts_any _ (T.drop (k + 1)) W (HBK2.out _ (HV4B.out W hW.below)) hlD (Nat.le_trans (cost_drop T (k + 1)) (by omega))).mono fun e W' he => ⟨he.1, hW.below.trans (he.2.mono hW.below.size)⟩
        have hz1 : (ba (textsL (T.take k))).size ≤ 100000 := by
          rw [ba_size]
          exact Nat.le_trans (texts_le _) (Nat.le_trans (costT_le T k) (by omega))
        have hz2 : (ba (textsL (T.drop (k + 1)))).size ≤ 100000 := by
          rw [ba_size]
          exact Nat.le_trans (texts_le _) (Nat.le_trans (cost_drop T (k + 1)) (by omega))
        have HBL : Hid (∀ W, Kept w4 W → Calls Tryd.prog 36 #[.string (ba (textsL (T.take k))), .string (ba (textsL (T.drop (k + 1))))] W fun e W' => e = .returned (.tuple #[adB (ba (ofL T).1.l) (ba (ofL T).1.d), .int .i64 (ofL T).2]) ∧ Kept w4 W') :=
          Lib.hid fun W hW => (build_any (ba (textsL (T.take k))) (ba (textsL (T.drop (k + 1)))) W hz1 hz2).mono fun e W' he => by
            obtain ⟨he, hb⟩ := he
            rw [bl_ba, bl_ba, ← HX.out] at he
            exact ⟨he, hW.below.trans (hb.mono hW.below.size)⟩
        generalize ba (textsL (T.take k)) = xl at *
        generalize ba (textsL (T.drop (k + 1))) = xd at *
        generalize hof : ofL T = R at *
        obtain ⟨⟨rl, rd⟩, rc⟩ := R
        simp only at HBL
        clear HX hz1 hz2
        refine wp_region_kept_tail 12 (by kernel_rfl) (by kernel_rfl) ?_
        simp only [List.take_succ_cons, List.take_zero, List.drop_succ_cons, List.drop_zero]
        repeat (go_big_quiet_step ((first | (exact fun _ => rfl) | (intro hk; go_at_call 100; (with_reducible exact (HT1.out _ hk))) | (intro hk; go_at_call 100; (with_reducible exact (HT2.out _ hk))) | (intro hk; go_at_call 36; (with_reducible exact (HBL.out _ hk))))))
        refine wpQuiet_nil ?_
        intro w5 hk5
        have HR5 := Lib.hid (HR4.out.on hk5.below)
        obtain ⟨c0, c1, f0, f1⟩ := HR5.out.cells
        clear hk5
        go_wp2_with fail
        obtain ⟨hl2, hb2⟩ := HR5.out.fill (ba rl) (ba rd)
        exact bodyPost_ret (v := .tuple #[adB (ba rl) (ba rd), .int .i64 rc]) (results_ad2 Tryd.results91 _ _ w.heap.size adT _ (0, 0) _ rfl hl2 Tryd.underlying31 rfl sizeA) rfl ⟨rfl, hb2⟩
  · have hi : atI T = -1 := by unfold atI; rw [if_neg hat]
    rw [hi] at HI
    have HX := Lib.hid (of_no (T := T) (by unfold formT; rw [decide_eq_false hat]; rfl))
    obtain ⟨va, vc, rfl⟩ := hv.shape
    clear hv hi hat
    go_enter Tryd.func91, Tryd.ntmps91
    go_wp2_with fail
    refine (HS.out _).mono ?_
    rintro e w1 ⟨rfl, hb⟩
    have HR1 := Lib.hid (HR0.out.on hb)
    clear hb
    go_wp2_with fail
    refine (HI.out _ (HV.out.below HR1.out.below)).mono ?_
    rintro e w2 ⟨rfl, hb⟩
    have HR2 := Lib.hid (HR1.out.on hb)
    obtain ⟨c0, c1, f0, f1⟩ := HR2.out.cells
    clear hb
    go_wp2_with fail
    obtain ⟨hl2, hb2⟩ := HR2.out.fill ⟨#[]⟩ ⟨#[]⟩
    exact bodyPost_ret (v := .tuple #[adB ⟨#[]⟩ ⟨#[]⟩, .int .i64 130]) (results_ad2 Tryd.results91 _ _ w.heap.size adT _ (0, 0) _ rfl hl2 Tryd.underlying31 rfl sizeA) rfl (AdPost.no (c := 130) HX.out hb2)
end Go.Proofs.YtklmhjoiffaniaaDoor.Addr
