/-
  Walks: Parse, Strict.
-/
import Derived.Test.YtjnadahognmkhaaDoorAddrOf
namespace Go.Proofs.YtjnadahognmkhaaDoor.Addr
open Go Go.RowKit
open Go.Proofs.YtjnadahognmkhaaDoor.Lex
open Go.Proofs.YtjnadahognmkhaaDoor.Glyph (fd foldL foldL_foldL fold_any)
open Go.Proofs.YtjnadahognmkhaaDoor.Sha (Kept wp_region_kept wp_region_kept_tail quiet_load_row)

theorem foldX_any (s : ByteArray) (w : World) (hs : s.size ≤ 1000000) :
    Calls Tryd.prog 25 #[.string s] w fun e w' => e = .returned (.string (ba (foldL (bl s)))) ∧ Below w.heap.size w w' := fold_any s w hs
theorem scan_small {l : List UInt8} {T : List Tk} (h : scan l = (0, T)) (hl : l.length ≤ 5000) : T.length ≤ 10000 ∧ cost T ≤ 50000 := by
  have h1 := (scan_ok h).2
  have h2 := len_cost T
  omega
theorem parse_bad {l : List UInt8} (h : (scan l).1 ≠ 0) : parseL l = (noAd, 130) := by unfold parseL; rw [if_neg h]
theorem parse_good {l : List UInt8} {T : List Tk} (h : scan l = (0, T)) : parseL l = ofL T := by unfold parseL; rw [h]; rfl
set_option maxRecDepth 100000 in
set_option maxHeartbeats 2000000 in
theorem parse_any (s : ByteArray) (w : World) (hs : s.size ≤ 5000) :
    Calls Tryd.prog 9 #[.string s] w (AdPost (parseL (bl s)) w) := by
  have HS := Lib.hid (fun W => scan_any s W (by omega))
  have HR0 := Lib.hid (Res.start w adT)
  by_cases h0 : (scan (bl s)).1 = 0
  · obtain ⟨T, hT⟩ : ∃ T, scan (bl s) = (0, T) := ⟨(scan (bl s)).2, by rw [← h0]⟩
    obtain ⟨h1, h2⟩ := scan_small hT (by rw [bl_len]; exact hs)
    have HO := Lib.hid (fun v W (h : ReadsT W v T) => of_any v T W h h1 h2)
    have HE := Lib.hid (parse_good hT)
    rw [HE.out]
    have HS2 : Hid (∀ W, Calls Tryd.prog 26 #[.string s] W fun e W' => ∃ v, e = .returned (.tuple #[v, .int .i64 0]) ∧ ReadsT W' v T ∧ Below W.heap.size W W') := Lib.hid fun W => (HS.out W).mono fun e W' he => by
      obtain ⟨v, he, hr, hb⟩ := he
      rw [hT] at he hr
      exact ⟨v, he, hr, hb⟩
    generalize ofL T = R at *
    obtain ⟨⟨rl, rd⟩, rc⟩ := R
    clear h1 h2 h0 hT HS HE
    go_enter Tryd.func9, Tryd.ntmps9
    go_wp2_with fail
    refine (HS2.out _).mono ?_
    rintro e w1 ⟨v, rfl, hr, hb⟩
    have HR1 := Lib.hid (HR0.out.on hb)
    have HV := Lib.hid hr
    clear hb hr
    go_wp2_with fail
    refine (HO.out _ _ HV.out).mono ?_
    rintro e w2 ⟨rfl, hb⟩
    have HR2 := Lib.hid (HR1.out.on hb)
    obtain ⟨c0, c1, f0, f1⟩ := HR2.out.cells
    clear hb
    dsimp only
    go_wp2_with fail
    obtain ⟨hl2, hb2⟩ := HR2.out.fill (ba rl) (ba rd)
    exact bodyPost_ret (v := .tuple #[adB (ba rl) (ba rd), .int .i64 rc]) (results_ad2 Tryd.results9 _ _ w.heap.size adT _ (0, 0) _ rfl hl2 Tryd.underlying24 rfl sizeA) rfl ⟨rfl, hb2⟩
  · have HX := Lib.hid (parse_bad h0)
    have hne : (((scan (bl s)).1 : Int) != 0) = true := by rw [bne_iff_ne]; omega
    generalize hsc : scan (bl s) = R at *
    have HS2 : Hid (∀ W, Calls Tryd.prog 26 #[.string s] W fun e W' => ∃ v, e = .returned (.tuple #[v, .int .i64 R.1]) ∧ Below W.heap.size W W') := Lib.hid fun W => (HS.out W).mono fun e W' he => by
      obtain ⟨v, he, hr, hb⟩ := he
      rw [hsc] at he
      exact ⟨v, he, hb⟩
    clear HS hsc h0
    go_enter Tryd.func9, Tryd.ntmps9
    go_wp2_with fail
    refine (HS2.out _).mono ?_
    rintro e w1 ⟨v, rfl, hb⟩
    have HR1 := Lib.hid (HR0.out.on hb)
    obtain ⟨c0, c1, f0, f1⟩ := HR1.out.cells
    clear hb
    go_wp2_with fail
    obtain ⟨hl2, hb2⟩ := HR1.out.fill ⟨#[]⟩ ⟨#[]⟩
    exact bodyPost_ret (v := .tuple #[adB ⟨#[]⟩ ⟨#[]⟩, .int .i64 130]) (results_ad2 Tryd.results9 _ _ w.heap.size adT _ (0, 0) _ rfl hl2 Tryd.underlying24 rfl sizeA) rfl (AdPost.no (c := 130) HX.out hb2)
theorem strict_bad {l : List UInt8} {c : Nat} (h : parseL l = (noAd, c)) (hc : c ≠ 0) : strictL l = (noAd, c) := by
  unfold strictL
  rw [h, if_neg hc]
theorem strict_good {l : List UInt8} {a : Ad} (h : parseL l = (a, 0)) : strictL l = if foldL l = keyL a then (a, 0) else (noAd, 130) := by
  unfold strictL
  rw [h, if_pos rfl]
theorem parse_way (l : List UInt8) : (∃ a, parseL l = (a, 0) ∧ Right a) ∨ ∃ c, c ≠ 0 ∧ parseL l = (noAd, c) := by
  rcases parse_cases l with h | h | h
  · exact .inl h
  · exact .inr ⟨130, by decide, h⟩
  · exact .inr ⟨2, by decide, h⟩
set_option maxRecDepth 100000 in
set_option maxHeartbeats 2000000 in
theorem strict_any (s : ByteArray) (w : World) (hs : s.size ≤ 5000) :
    Calls Tryd.prog 10 #[.string s] w (AdPost (strictL (bl s)) w) := by
  have HP := Lib.hid (fun W => parse_any s W hs)
  have HR0 := Lib.hid (Res.start w adT)
  rcases parse_way (bl s) with ⟨⟨al, ad⟩, hp, hr⟩ | ⟨c, hc, hp⟩
  · obtain ⟨_, _, hz1, hz2, _⟩ := right_parts hr
    have hz3 : (ba al).size ≤ 64 := by rw [ba_size]; exact hz1
    have hz4 : (ba ad).size ≤ 253 := by rw [ba_size]; exact hz2
    have HF := Lib.hid (fun W => foldX_any s W (by omega))
    have HK := Lib.hid (fun W => key_any (ba al) (ba ad) W (by omega) (by omega))
    rw [bl_ba, bl_ba] at HK
    rw [hp] at HP
    have HE := Lib.hid (strict_good hp)
    have hd := str_eq (ba (foldL (bl s))) (ba (keyL ⟨al, ad⟩))
    have he : decide (ba (foldL (bl s)) = ba (keyL ⟨al, ad⟩)) = decide (foldL (bl s) = keyL ⟨al, ad⟩) := decide_eq_decide.2 ba_inj
    rw [he] at hd
    clear he hz1 hz2 hp hr
    have HA := Lib.hid (fun W : World => new_boxA W adT (ba al) (ba ad))
    generalize ba (foldL (bl s)) = x at *
    generalize ba (keyL ⟨al, ad⟩) = y at *
    by_cases hq : foldL (bl s) = keyL ⟨al, ad⟩
    · rw [decide_eq_true hq] at hd
      rw [if_pos hq] at HE
      rw [HE.out]
      clear hq HE
      go_enter Tryd.func10, Tryd.ntmps10
      go_wp2_with fail
      refine (HP.out _).mono ?_
      rintro e w1 ⟨rfl, hb⟩
      have HR1 := Lib.hid ((HR0.out.on hb).on ((Below.refl _ _).alloc (Nat.le_refl _) (boxA adT (ba al) (ba ad))))
      clear hb
      dsimp only
      go_wp2_with fail
      refine wp_region_kept (by kernel_rfl) (by kernel_rfl) ?_
      repeat (first
        | (go_big_quiet_want
           first
             | refine quiet_load_row adT (.tmp 4) rfl w1.heap.size 0 rfl (cellsA (ba al) (ba ad)) _ (fun w' hk => range_below (HA.out w1) (by simp) hk) Tryd.underlying24 rfl sizeA ?_
           go_simp
           go_big_quiet_on)
        | (go_big_quiet_step ((first | (exact fun _ => rfl) | (intro hk; go_at_call 25; exact hk.call (HF.out _)) | (intro hk; go_at_call 19; exact hk.call (HK.out _))))))
      refine wpQuiet_nil ?_
      intro W2 hk2
      have HR2 := Lib.hid (HR1.out.on hk2.below)
      have hn := range_below (HA.out w1) (by simp) hk2.below
      obtain ⟨a0, a1⟩ := twoA hn
      obtain ⟨c0, c1, f0, f1⟩ := HR2.out.cells
      clear hk2 hn
      go_wp2_with fail
      obtain ⟨hl2, hb2⟩ := HR2.out.fill (ba al) (ba ad)
      exact bodyPost_ret (v := .tuple #[adB (ba al) (ba ad), .int .i64 0]) (results_ad2 Tryd.results10 _ _ w.heap.size adT _ (0, 0) _ rfl hl2 Tryd.underlying24 rfl sizeA) rfl ⟨rfl, hb2⟩
    · rw [decide_eq_false hq] at hd
      rw [if_neg hq] at HE
      clear hq
      go_enter Tryd.func10, Tryd.ntmps10
      go_wp2_with fail
      refine (HP.out _).mono ?_
      rintro e w1 ⟨rfl, hb⟩
      have HR1 := Lib.hid ((HR0.out.on hb).on ((Below.refl _ _).alloc (Nat.le_refl _) (boxA adT (ba al) (ba ad))))
      clear hb
      dsimp only
      go_wp2_with fail
      refine wp_region_kept (by kernel_rfl) (by kernel_rfl) ?_
      repeat (first
        | (go_big_quiet_want
           first
             | refine quiet_load_row adT (.tmp 4) rfl w1.heap.size 0 rfl (cellsA (ba al) (ba ad)) _ (fun w' hk => range_below (HA.out w1) (by simp) hk) Tryd.underlying24 rfl sizeA ?_
           go_simp
           go_big_quiet_on)
        | (go_big_quiet_step ((first | (exact fun _ => rfl) | (intro hk; go_at_call 25; exact hk.call (HF.out _)) | (intro hk; go_at_call 19; exact hk.call (HK.out _))))))
      refine wpQuiet_nil ?_
      intro W2 hk2
      have HR2 := Lib.hid (HR1.out.on hk2.below)
      have hn := range_below (HA.out w1) (by simp) hk2.below
      obtain ⟨a0, a1⟩ := twoA hn
      obtain ⟨c0, c1, f0, f1⟩ := HR2.out.cells
      clear hk2 hn
      go_wp2_with fail
      obtain ⟨hl2, hb2⟩ := HR2.out.fill ⟨#[]⟩ ⟨#[]⟩
      exact bodyPost_ret (v := .tuple #[adB ⟨#[]⟩ ⟨#[]⟩, .int .i64 130]) (results_ad2 Tryd.results10 _ _ w.heap.size adT _ (0, 0) _ rfl hl2 Tryd.underlying24 rfl sizeA) rfl (AdPost.no (c := 130) HE.out hb2)
  · have HX := Lib.hid (strict_bad hp hc)
    have hne : ((c : Int) != 0) = true := by rw [bne_iff_ne]; omega
    rw [hp] at HP
    clear hp hc
    go_enter Tryd.func10, Tryd.ntmps10
    go_wp2_with fail
    refine (HP.out _).mono ?_
    rintro e w1 ⟨rfl, hb⟩
    have HR1 := Lib.hid ((HR0.out.on hb).on ((Below.refl _ _).alloc (Nat.le_refl _) (boxA adT (ba noAd.l) (ba noAd.d))))
    obtain ⟨c0, c1, f0, f1⟩ := HR1.out.cells
    clear hb
    dsimp only
    go_wp2_with fail
    obtain ⟨hl2, hb2⟩ := HR1.out.fill ⟨#[]⟩ ⟨#[]⟩
    exact bodyPost_ret (v := .tuple #[adB ⟨#[]⟩ ⟨#[]⟩, .int .i64 c]) (results_ad2 Tryd.results10 _ _ w.heap.size adT _ (0, 0) _ rfl hl2 Tryd.underlying24 rfl sizeA) rfl (AdPost.no HX.out hb2)
end Go.Proofs.YtjnadahognmkhaaDoor.Addr
