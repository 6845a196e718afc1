/-
  Walks of the document's Parse, Strict.
-/
import Derived.Test.YtjnadahognmkhaaDoorAddrRefD
namespace Go.Proofs.YtjnadahognmkhaaDoor.Addr
open Go Go.RowKit
open Go.Proofs.YtjnadahognmkhaaDoor.Lex
open Go.Proofs.YtjnadahognmkhaaDoor.Glyph (fd foldL foldL_foldL fold_any)
open Go.Proofs.YtjnadahognmkhaaDoor.Sha (Kept wp_region_kept wp_region_kept_tail quiet_load_row)

theorem kinds_scan {l : List UInt8} {T : List Tk} (h : scan l = (0, T)) : KindOk T := fun t ht => by
  rcases (scan_ok h).1 t ht with ⟨h, _⟩ | ⟨h, _⟩ | ⟨h, _⟩
  · exact .inl h
  · exact .inr (.inl h)
  · exact .inr (.inr h)
set_option maxRecDepth 100000 in
set_option maxHeartbeats 2000000 in
theorem refParse_any (s : ByteArray) (w : World) (hs : s.size ≤ 5000) :
    Calls Tryd.prog 11 #[.string s] w (AdPost (parseL (bl s)) w) := by
  have HS := Lib.hid (fun W => refScan_any s W (by omega))
  have HR0 := Lib.hid (Res.start w arT)
  by_cases h0 : (scan (bl s)).1 = 0
  · obtain ⟨T, hT⟩ : ∃ T, scan (bl s) = (0, T) := ⟨(scan (bl s)).2, by rw [← h0]⟩
    obtain ⟨h1, h2⟩ := scan_small hT (by rw [bl_len]; exact hs)
    have HO := Lib.hid (fun v W (h : ReadsT W v T) => refOf_any v T W h h1 h2 (kinds_scan hT))
    have HE := Lib.hid (parse_good hT)
    rw [HE.out]
    have HS2 : Hid (∀ W, Calls Tryd.prog 28 #[.string s] W fun e W' => ∃ v, e = .returned (.tuple #[v, .int .i64 0]) ∧ ReadsT W' v T ∧ Below W.heap.size W W') := Lib.hid fun W => (HS.out W).mono fun e W' he => by
      obtain ⟨v, he, hr, hb⟩ := he
      rw [hT] at he hr
      exact ⟨v, he, hr, hb⟩
    generalize ofL T = R at *
    obtain ⟨⟨rl, rd⟩, rc⟩ := R
    clear h1 h2 h0 hT HS HE
    go_enter Tryd.func11, Tryd.ntmps11
    go_wp2_with fail
    refine (HS2.out _).mono ?_
    rintro e w1 ⟨v, rfl, hr, hb⟩
    have HR1 := Lib.hid (HR0.out.on hb)
    have HV := Lib.hid hr
    clear hb hr
    go_wp2_with fail
    refine (HO.out _ _ HV.out).mono ?_
    rintro e w2 ⟨rfl, hb⟩
    have HR2 := Lib.hid (HR1.out.on hb)
    obtain ⟨c0, c1, f0, f1⟩ := HR2.out.cells
    clear hb
    dsimp only
    go_wp2_with fail
    obtain ⟨hl2, hb2⟩ := HR2.out.fill (ba rl) (ba rd)
    exact bodyPost_ret (v := .tuple #[adB (ba rl) (ba rd), .int .i64 rc]) (results_ad2 Tryd.results11 _ _ w.heap.size arT _ (0, 0) _ rfl hl2 Tryd.underlying28 rfl sizeAR) rfl ⟨rfl, hb2⟩
  · have HX := Lib.hid (parse_bad h0)
    have hne : (((scan (bl s)).1 : Int) != 0) = true := by rw [bne_iff_ne]; omega
    generalize hsc : scan (bl s) = R at *
    have HS2 : Hid (∀ W, Calls Tryd.prog 28 #[.string s] W fun e W' => ∃ v, e = .returned (.tuple #[v, .int .i64 R.1]) ∧ Below W.heap.size W W') := Lib.hid fun W => (HS.out W).mono fun e W' he => by
      obtain ⟨v, he, hr, hb⟩ := he
      rw [hsc] at he
      exact ⟨v, he, hb⟩
    clear HS hsc h0
    go_enter Tryd.func11, Tryd.ntmps11
    go_wp2_with fail
    refine (HS2.out _).mono ?_
    rintro e w1 ⟨v, rfl, hb⟩
    have HR1 := Lib.hid (HR0.out.on hb)
    obtain ⟨c0, c1, f0, f1⟩ := HR1.out.cells
    clear hb
    go_wp2_with fail
    obtain ⟨hl2, hb2⟩ := HR1.out.fill ⟨#[]⟩ ⟨#[]⟩
    exact bodyPost_ret (v := .tuple #[adB ⟨#[]⟩ ⟨#[]⟩, .int .i64 130]) (results_ad2 Tryd.results11 _ _ w.heap.size arT _ (0, 0) _ rfl hl2 Tryd.underlying28 rfl sizeAR) rfl (AdPost.no (c := 130) HX.out hb2)
set_option maxRecDepth 100000 in
set_option maxHeartbeats 4000000 in
theorem refStrict_any (s : ByteArray) (w : World) (hs : s.size ≤ 5000) :
    Calls Tryd.prog 12 #[.string s] w (AdPost (strictL (bl s)) w) := by
  have HP := Lib.hid (fun W => refParse_any s W hs)
  have HR0 := Lib.hid (Res.start w arT)
  have HA := Lib.hid (fun W l d : _ => new_boxA W arT l d)
  rcases parse_way (bl s) with ⟨⟨al, ad⟩, hp, hr⟩ | ⟨c, hc, hp⟩
  · obtain ⟨l, rfl⟩ : ∃ l, al = bl l := ⟨ba al, (bl_ba al).symm⟩
    obtain ⟨d, rfl⟩ : ∃ d, ad = bl d := ⟨ba ad, (bl_ba ad).symm⟩
    obtain ⟨_, _, hz1, hz2, _⟩ := right_parts hr
    rw [bl_len] at hz1 hz2
    have HF := Lib.hid (fun W => refFoldX_any s W (by omega))
    have HK := Lib.hid (fun W => refKey_any l d W (by omega) (by omega))
    have HP2 : Hid (∀ W, Calls Tryd.prog 11 #[.string s] W fun e W' => e = .returned (.tuple #[adB l d, .int .i64 0]) ∧ Below W.heap.size W W') := Lib.hid fun W => by
      have h := HP.out W
      rw [hp] at h
      exact h
    have HE := Lib.hid (strict_good hp)
    have hd := str_eq (ba (foldL (bl s))) (ba (keyL ⟨bl l, bl d⟩))
    have he : decide (ba (foldL (bl s)) = ba (keyL ⟨bl l, bl d⟩)) = decide (foldL (bl s) = keyL ⟨bl l, bl d⟩) := decide_eq_decide.2 ba_inj
    rw [he] at hd
    clear he hz1 hz2 hp hr HP
    generalize ba (foldL (bl s)) = x at *
    generalize ba (keyL ⟨bl l, bl d⟩) = y at *
    by_cases hq : foldL (bl s) = keyL ⟨bl l, bl d⟩
    · rw [decide_eq_true hq] at hd
      rw [if_pos hq] at HE
      rw [HE.out]
      clear hq HE
      go_enter Tryd.func12, Tryd.ntmps12
      go_wp2_with fail
      refine (HP2.out _).mono ?_
      rintro e w1 ⟨rfl, hb⟩
      have HR1 := Lib.hid ((HR0.out.on hb).on ((Below.refl _ _).alloc (Nat.le_refl _) (boxA arT l d)))
      clear hb
      go_wp2_with fail
      refine wp_region_kept (by kernel_rfl) (by kernel_rfl) ?_
      repeat (first
        | (go_big_quiet_want
           first
             | refine quiet_load_row arT (.tmp 4) rfl w1.heap.size 0 rfl (cellsA l d) _ (fun w' hk => range_below (HA.out w1 l d) (by simp) hk) Tryd.underlying28 rfl sizeAR ?_
           go_simp
           go_big_quiet_on)
        | (go_big_quiet_step ((first | (exact fun _ => rfl) | (intro hk; go_at_call 30; exact hk.call (HF.out _)) | (intro hk; go_at_call 20; exact hk.call (HK.out _))))))
      refine wpQuiet_nil ?_
      intro W2 hk2
      have HR2 := Lib.hid (HR1.out.on hk2.below)
      have hn := range_below (HA.out w1 l d) (by simp) hk2.below
      obtain ⟨a0, a1⟩ := twoA hn
      obtain ⟨c0, c1, f0, f1⟩ := HR2.out.cells
      clear hk2 hn
      go_wp2_with fail
      obtain ⟨hl2, hb2⟩ := HR2.out.fill l d
      exact bodyPost_ret (v := .tuple #[adB l d, .int .i64 0]) (results_ad2 Tryd.results12 _ _ w.heap.size arT _ (0, 0) _ rfl hl2 Tryd.underlying28 rfl sizeAR) rfl ⟨rfl, hb2⟩
    · rw [decide_eq_false hq] at hd
      rw [if_neg hq] at HE
      clear hq
      go_enter Tryd.func12, Tryd.ntmps12
      go_wp2_with fail
      refine (HP2.out _).mono ?_
      rintro e w1 ⟨rfl, hb⟩
      have HR1 := Lib.hid ((HR0.out.on hb).on ((Below.refl _ _).alloc (Nat.le_refl _) (boxA arT l d)))
      clear hb
      go_wp2_with fail
      refine wp_region_kept (by kernel_rfl) (by kernel_rfl) ?_
      repeat (first
        | (go_big_quiet_want
           first
             | refine quiet_load_row arT (.tmp 4) rfl w1.heap.size 0 rfl (cellsA l d) _ (fun w' hk => range_below (HA.out w1 l d) (by simp) hk) Tryd.underlying28 rfl sizeAR ?_
           go_simp
           go_big_quiet_on)
        | (go_big_quiet_step ((first | (exact fun _ => rfl) | (intro hk; go_at_call 30; exact hk.call (HF.out _)) | (intro hk; go_at_call 20; exact hk.call (HK.out _))))))
      refine wpQuiet_nil ?_
      intro W2 hk2
      have HR2 := Lib.hid (HR1.out.on hk2.below)
      have hn := range_below (HA.out w1 l d) (by simp) hk2.below
      obtain ⟨a0, a1⟩ := twoA hn
      obtain ⟨c0, c1, f0, f1⟩ := HR2.out.cells
      clear hk2 hn
      go_wp2_with fail
      obtain ⟨hl2, hb2⟩ := HR2.out.fill ⟨#[]⟩ ⟨#[]⟩
      exact bodyPost_ret (v := .tuple #[adB ⟨#[]⟩ ⟨#[]⟩, .int .i64 130]) (results_ad2 Tryd.results12 _ _ w.heap.size arT _ (0, 0) _ rfl hl2 Tryd.underlying28 rfl sizeAR) rfl (AdPost.no (c := 130) HE.out hb2)
  · have HX := Lib.hid (strict_bad hp hc)
    have hne : ((c : Int) == 0) = false := by rw [beq_eq_false_iff_ne]; omega
    have HP2 : Hid (∀ W, Calls Tryd.prog 11 #[.string s] W fun e W' => e = .returned (.tuple #[adB ⟨#[]⟩ ⟨#[]⟩, .int .i64 c]) ∧ Below W.heap.size W W') := Lib.hid fun W => by
      have h := HP.out W
      rw [hp] at h
      exact h
    clear hp hc HP
    go_enter Tryd.func12, Tryd.ntmps12
    go_wp2_with fail
    refine (HP2.out _).mono ?_
    rintro e w1 ⟨rfl, hb⟩
    have HR1 := Lib.hid ((HR0.out.on hb).on ((Below.refl _ _).alloc (Nat.le_refl _) (boxA arT ⟨#[]⟩ ⟨#[]⟩)))
    clear hb
    go_wp2_with fail
    refine wp_region_kept (by kernel_rfl) (by kernel_rfl) ?_
    repeat (go_big_quiet_step ((exact fun _ => rfl)))
    refine wpQuiet_nil ?_
    intro W2 hk2
    have HR2 := Lib.hid (HR1.out.on hk2.below)
    have hn := range_below (HA.out w1 ⟨#[]⟩ ⟨#[]⟩) (by simp) hk2.below
    obtain ⟨a0, a1⟩ := twoA hn
    obtain ⟨c0, c1, f0, f1⟩ := HR2.out.cells
    clear hk2 hn
    go_wp2_with fail
    obtain ⟨hl2, hb2⟩ := HR2.out.fill ⟨#[]⟩ ⟨#[]⟩
    exact bodyPost_ret (v := .tuple #[adB ⟨#[]⟩ ⟨#[]⟩, .int .i64 c]) (results_ad2 Tryd.results12 _ _ w.heap.size arT _ (0, 0) _ rfl hl2 Tryd.underlying28 rfl sizeAR) rfl (AdPost.no HX.out hb2)
end Go.Proofs.YtjnadahognmkhaaDoor.Addr
