/-
  Walks: build, Right.
-/
import Derived.Test.YtklmhjoiffaniaaDoorAddrMem
namespace Go.Proofs.YtklmhjoiffaniaaDoor.Addr
open Go Go.RowKit
open Go.Proofs.YtklmhjoiffaniaaDoor.Lex
open Go.Proofs.YtklmhjoiffaniaaDoor.Glyph (fd foldL foldL_foldL fold_any)
open Go.Proofs.YtklmhjoiffaniaaDoor.Sha (Kept wp_region_kept wp_region_kept_tail quiet_load_row)

/-! Plain signs are plain bytes. -/
theorem plain_signs : ∀ l : List UInt8, (∀ n ∈ Glyph.signs l, 32 ≤ n ∧ n ≤ 126) → ∀ c ∈ l, pl c = true := by
  refine Glyph.by_signs (by intro _ c h; cases h) ?_
  intro l hl ih h c hc
  rw [Glyph.signs_cons l hl] at h
  have h0 := h (Glyph.sg l) (by simp)
  have hb : Glyph.sg l ≠ -1 := by omega
  have hd := Glyph.sg_of_good l hb
  obtain ⟨hw, hg⟩ := Glyph.low_piece l hl (by omega)
  cases l with
  | nil => exact absurd rfl hl
  | cons x t =>
    rw [hw] at h ih
    rcases List.mem_cons.1 hc with rfl | hc
    · have hx : c.toNat = (Glyph.dec (c :: t)).1 := hg
      unfold pl
      rw [decide_eq_true_eq]
      omega
    · exact ih (fun n hn => h n (List.mem_cons_of_mem _ hn)) c hc
theorem print_all (l : List UInt8) : Glyph.printB l = l.all pl := by
  unfold Glyph.printB
  rw [Bool.eq_iff_iff, decide_eq_true_eq, List.all_eq_true]
  constructor
  · exact plain_signs l
  · intro h
    refine Glyph.signs_plain l fun c hc => ?_
    have := h c hc
    unfold pl at this
    simpa using this
theorem plain_any (s : ByteArray) (w : World) :
    Calls Tryd.prog 60 #[.string s] w fun e w' => e = .returned (.bool ((bl s).all pl)) ∧ Below w.heap.size w w' := by
  have := Glyph.print_any s w
  rwa [print_all] at this
theorem empty_any (s : ByteArray) : s.toList.isEmpty = (bl s).isEmpty := by rw [Lib.toList_data]
/-- What a call that reads an address tells. -/
def AdPost (r : Ad × Nat) (w : World) (e : Ending) (w' : World) : Prop := e = .returned (.tuple #[adB (ba r.1.l) (ba r.1.d), .int .i64 r.2]) ∧ Below w.heap.size w w'
theorem AdPost.of {r : Ad × Nat} {l d : ByteArray} {c : Nat} {w w' : World} (h1 : ba r.1.l = l) (h2 : ba r.1.d = d) (h3 : r.2 = c) (hb : Below w.heap.size w w') : AdPost r w (.returned (.tuple #[adB l d, .int .i64 c])) w' := by
  subst h1 h2 h3
  exact ⟨rfl, hb⟩
theorem AdPost.no {r : Ad × Nat} {c : Nat} {w w' : World} (h : r = (noAd, c)) (hb : Below w.heap.size w w') : AdPost r w (.returned (.tuple #[adB ⟨#[]⟩ ⟨#[]⟩, .int .i64 c])) w' := by
  subst h
  exact ⟨rfl, hb⟩
/-- A result's box among what is new. -/
structure Res (w : World) (b : Nat) (t : TypeId) (W : World) : Prop where
  lies : Lies W b #[.string ⟨#[]⟩, .string ⟨#[]⟩] t
  low : w.heap.size ≤ b
  below : Below w.heap.size w W
theorem Res.start (w : World) (t : TypeId) : Res w w.heap.size t (w.alloc (boxA t ⟨#[]⟩ ⟨#[]⟩)) := ⟨Lies.new w _ _, Nat.le_refl _, (Below.refl _ _).alloc (Nat.le_refl _) _⟩
theorem Res.on {w W W' : World} {b : Nat} {t : TypeId} (h : Res w b t W) (hb : Below W.heap.size W W') : Res w b t W' :=
  ⟨h.lies.same (hb.block _ h.lies.lt), h.low, h.below.trans (hb.mono h.below.size)⟩
theorem Res.fill {w W : World} {b : Nat} {t : TypeId} (h : Res w b t W) (l d : ByteArray) : Lies (fill2 W b (.string l) (.string d)) b #[.string l, .string d] t ∧ Below w.heap.size w (fill2 W b (.string l) (.string d)) :=
  ⟨lies_fill2 h.lies _ _, below_fill2 h.below h.low _ _⟩
theorem Res.cells {w W : World} {b : Nat} {t : TypeId} (h : Res w b t W) : W.cell? ⟨b, 0, none⟩ = some (.string ⟨#[]⟩) ∧ W.cell? ⟨b, 1, none⟩ = some (.string ⟨#[]⟩) ∧ W.frozen? ⟨b, 0, none⟩ = false ∧ W.frozen? ⟨b, 1, none⟩ = false :=
  ⟨h.lies.cell 0, h.lies.cell 1, h.lies.free 0, h.lies.free 1⟩

theorem build_form {l d : List UInt8} (h : formB l d = true) : buildL l d = (noAd, 130) := by
  have : whyC l d = 130 := by unfold whyC; rw [if_pos h]
  unfold buildL
  rw [this]
  rfl
theorem build_big {l d : List UInt8} (h : formB l d = false) (h2 : bigB l d = true) : buildL l d = (noAd, 2) := by
  have : whyC l d = 2 := by unfold whyC; rw [h, if_neg (by decide), if_pos h2]
  unfold buildL
  rw [this]
  rfl
theorem build_good {l d : List UInt8} (h : formB l d = false) (h2 : bigB l d = false) : buildL l d = (⟨l, foldL d⟩, 0) := by
  have : whyC l d = 0 := by unfold whyC; rw [h, h2]; rfl
  unfold buildL
  rw [this]
  rfl
theorem dom_good {l : List UInt8} (h : domC l = 0) : domL l = foldL l := by unfold domL; rw [if_pos h]
theorem dom_bad {l : List UInt8} (h : domC l ≠ 0) : domL l = [] := by unfold domL; rw [if_neg h]
theorem domC_size {l : List UInt8} (h : domC l = 0) : l.length ≤ 253 := by
  unfold domC at h
  split at h
  · cases h
  · split at h
    · cases h
    · rename_i h8
      unfold longB at h8
      simp only [Bool.not_eq_true, Bool.or_eq_false_iff, decide_eq_false_iff_not] at h8
      omega
set_option maxRecDepth 100000 in
set_option maxHeartbeats 4000000 in
theorem build_any (l d : ByteArray) (w : World) (hl : l.size ≤ 100000) (hd : d.size ≤ 100000) :
    Calls Tryd.prog 36 #[.string l, .string d] w (AdPost (buildL (bl l) (bl d)) w) := by
  have HD := Lib.hid (fun W => domain_any d W (by omega))
  have HP := Lib.hid (fun W => plain_any l W)
  have HR0 := Lib.hid (Res.start w adT)
  have he := empty_any l
  have HF : Hid (formB (bl l) (bl d) = ((bl l).isEmpty || (!((bl l).all pl) || domC (bl d) == 130))) := Lib.hid rfl
  cases h1 : (bl l).isEmpty
  · rw [h1] at HF he
    cases h2 : (bl l).all pl
    · rw [h2] at HF HP
      have HX := Lib.hid (build_form (l := bl l) (d := bl d) (by rw [HF.out]; rfl))
      clear HF h1 h2
      go_enter Tryd.func36, Tryd.ntmps36
      go_wp2_with fail
      refine (HD.out _).mono ?_
      rintro e w1 ⟨rfl, hb⟩
      have HR1 := Lib.hid (HR0.out.on hb)
      generalize domL (bl d) = dl at *
      generalize domC (bl d) = dc at *
      clear hb
      go_wp2_with fail
      refine (HP.out _).mono ?_
      rintro e w2 ⟨rfl, hb⟩
      have HR2 := Lib.hid (HR1.out.on hb)
      obtain ⟨c0, c1, f0, f1⟩ := HR2.out.cells
      clear hb
      go_wp2_with fail
      obtain ⟨hl2, hb2⟩ := HR2.out.fill ⟨#[]⟩ ⟨#[]⟩
      exact bodyPost_ret (v := .tuple #[adB ⟨#[]⟩ ⟨#[]⟩, .int .i64 130]) (results_ad2 Tryd.results36 _ _ w.heap.size adT _ (0, 0) _ rfl hl2 Tryd.underlying31 rfl sizeA) rfl (AdPost.no (c := 130) HX.out hb2)
    · rw [h2] at HF HP
      rcases domC_cases (bl d) with h3 | h3 | h3
      · have HX := Lib.hid (build_form (l := bl l) (d := bl d) (by rw [HF.out, h3]; rfl))
        have HE := Lib.hid h3
        clear HF h1 h2 h3
        go_enter Tryd.func36, Tryd.ntmps36
        go_wp2_with fail
        refine (HD.out _).mono ?_
        rintro e w1 ⟨rfl, hb⟩
        have HR1 := Lib.hid (HR0.out.on hb)
        rw [HE.out]
        generalize domL (bl d) = dl at *
        clear hb
        go_wp2_with fail
        refine (HP.out _).mono ?_
        rintro e w2 ⟨rfl, hb⟩
        have HR2 := Lib.hid (HR1.out.on hb)
        obtain ⟨c0, c1, f0, f1⟩ := HR2.out.cells
        clear hb
        go_wp2_with fail
        obtain ⟨hl2, hb2⟩ := HR2.out.fill ⟨#[]⟩ ⟨#[]⟩
        exact bodyPost_ret (v := .tuple #[adB ⟨#[]⟩ ⟨#[]⟩, .int .i64 130]) (results_ad2 Tryd.results36 _ _ w.heap.size adT _ (0, 0) _ rfl hl2 Tryd.underlying31 rfl sizeA) rfl (AdPost.no (c := 130) HX.out hb2)
      · have HX := Lib.hid (build_big (l := bl l) (d := bl d) (by rw [HF.out, h3]; rfl) (by unfold bigB; rw [h3]; rfl))
        have HE := Lib.hid h3
        clear HF h1 h2 h3
        go_enter Tryd.func36, Tryd.ntmps36
        go_wp2_with fail
        refine (HD.out _).mono ?_
        rintro e w1 ⟨rfl, hb⟩
        have HR1 := Lib.hid (HR0.out.on hb)
        rw [HE.out]
        generalize domL (bl d) = dl at *
        clear hb
        go_wp2_with fail
        refine (HP.out _).mono ?_
        rintro e w2 ⟨rfl, hb⟩
        have HR2 := Lib.hid ((HR1.out.on hb).on ((Below.refl _ _).alloc (Nat.le_refl _) (boxA adT l (ba dl))))
        obtain ⟨c0, c1, f0, f1⟩ := HR2.out.cells
        clear hb
        go_wp2_with fail
        obtain ⟨hl2, hb2⟩ := HR2.out.fill ⟨#[]⟩ ⟨#[]⟩
        exact bodyPost_ret (v := .tuple #[adB ⟨#[]⟩ ⟨#[]⟩, .int .i64 2]) (results_ad2 Tryd.results36 _ _ w.heap.size adT _ (0, 0) _ rfl hl2 Tryd.underlying31 rfl sizeA) rfl (AdPost.no (c := 2) HX.out hb2)
      · have HE := Lib.hid (And.intro h3 (dom_good h3))
        have hds := domC_size h3
        rw [bl_len] at hds
        have hbs : bigB (bl l) (bl d) = (decide (64 < (bl l).length) || decide (254 < (textL ⟨bl l, foldL (bl d)⟩).length)) := by unfold bigB; rw [h3]; rfl
        have hff : formB (bl l) (bl d) = false := by rw [HF.out, h3]; rfl
        rw [bl_len] at hbs
        have hzd : (ba (foldL (bl d))).size ≤ 253 := by rw [ba_size, foldL_len, bl_len]; omega
        have HT := Lib.hid (fun W => text_any l (ba (foldL (bl d))) W (by omega) (by omega))
        rw [bl_ba] at HT
        have hzt : (ba (textL ⟨bl l, foldL (bl d)⟩)).size ≤ 400000 := by
          have := textL_le ⟨bl l, foldL (bl d)⟩
          rw [ba_size]
          simp only [bl_len, foldL_len] at this
          omega
        by_cases g1 : 64 < l.size
        · have HX := Lib.hid (build_big hff (by rw [hbs, decide_eq_true g1]; rfl))
          clear HF h1 h2 h3 hbs hff
          go_enter Tryd.func36, Tryd.ntmps36
          go_wp2_with fail
          refine (HD.out _).mono ?_
          rintro e w1 ⟨rfl, hb⟩
          have HR1 := Lib.hid (HR0.out.on hb)
          rw [HE.out.1, HE.out.2]
          clear hb
          generalize ba (foldL (bl d)) = dl at *
          go_wp2_with fail
          refine (HP.out _).mono ?_
          rintro e w2 ⟨rfl, hb⟩
          have HR2 := Lib.hid ((HR1.out.on hb).on ((Below.refl _ _).alloc (Nat.le_refl _) (boxA adT l dl)))
          obtain ⟨c0, c1, f0, f1⟩ := HR2.out.cells
          clear hb
          go_wp2_with fail
          obtain ⟨hl2, hb2⟩ := HR2.out.fill ⟨#[]⟩ ⟨#[]⟩
          exact bodyPost_ret (v := .tuple #[adB ⟨#[]⟩ ⟨#[]⟩, .int .i64 2]) (results_ad2 Tryd.results36 _ _ w.heap.size adT _ (0, 0) _ rfl hl2 Tryd.underlying31 rfl sizeA) rfl (AdPost.no (c := 2) HX.out hb2)
        · by_cases g2 : 254 < (ba (textL ⟨bl l, foldL (bl d)⟩)).size
          · have HX := Lib.hid (build_big hff (by rw [hbs, ← ba_size, decide_eq_true g2]; simp))
            clear HF h1 h2 h3 hbs hff
            go_enter Tryd.func36, Tryd.ntmps36
            go_wp2_with fail
            refine (HD.out _).mono ?_
            rintro e w1 ⟨rfl, hb⟩
            have HR1 := Lib.hid (HR0.out.on hb)
            rw [HE.out.1, HE.out.2]
            clear hb
            generalize ba (textL ⟨bl l, foldL (bl d)⟩) = t at *
            generalize ba (foldL (bl d)) = dl at *
            go_wp2_with fail
            refine (HP.out _).mono ?_
            rintro e w2 ⟨rfl, hb⟩
            have HR2 := Lib.hid ((HR1.out.on hb).on ((Below.refl _ _).alloc (Nat.le_refl _) (boxA adT l dl)))
            have HN := Lib.hid (new_boxA w2 adT l dl)
            clear hb
            go_wp2_with fail
            refine (HT.out _).mono ?_
            rintro e w3 ⟨rfl, hb⟩
            have HR3 := Lib.hid (HR2.out.on hb)
            have hn := range_below HN.out (by simp) hb
            obtain ⟨a0, a1⟩ := twoA hn
            obtain ⟨c0, c1, f0, f1⟩ := HR3.out.cells
            clear hb hn
            go_wp2_with fail
            obtain ⟨hl2, hb2⟩ := HR3.out.fill ⟨#[]⟩ ⟨#[]⟩
            exact bodyPost_ret (v := .tuple #[adB ⟨#[]⟩ ⟨#[]⟩, .int .i64 2]) (results_ad2 Tryd.results36 _ _ w.heap.size adT _ (0, 0) _ rfl hl2 Tryd.underlying31 rfl sizeA) rfl (AdPost.no (c := 2) HX.out hb2)
          · have HX := Lib.hid (build_good hff (by rw [hbs, ← ba_size, decide_eq_false g1, decide_eq_false g2]; rfl))
            have HD2 := Lib.hid (rfl : ba (foldL (bl d)) = ba (foldL (bl d)))
            clear HF h1 h2 h3 hbs hff
            go_enter Tryd.func36, Tryd.ntmps36
            go_wp2_with fail
            refine (HD.out _).mono ?_
            rintro e w1 ⟨rfl, hb⟩
            have HR1 := Lib.hid (HR0.out.on hb)
            rw [HE.out.1, HE.out.2]
            clear hb
            generalize ba (textL ⟨bl l, foldL (bl d)⟩) = t at *
            generalize hdl : ba (foldL (bl d)) = dl at *
            have HDL := Lib.hid hdl
            clear hdl
            go_wp2_with fail
            refine (HP.out _).mono ?_
            rintro e w2 ⟨rfl, hb⟩
            have HR2 := Lib.hid ((HR1.out.on hb).on ((Below.refl _ _).alloc (Nat.le_refl _) (boxA adT l dl)))
            have HN := Lib.hid (new_boxA w2 adT l dl)
            clear hb
            go_wp2_with fail
            refine (HT.out _).mono ?_
            rintro e w3 ⟨rfl, hb⟩
            have HR3 := Lib.hid (HR2.out.on hb)
            have hn := range_below HN.out (by simp) hb
            obtain ⟨a0, a1⟩ := twoA hn
            obtain ⟨c0, c1, f0, f1⟩ := HR3.out.cells
            clear hb hn
            go_wp2_with fail
            obtain ⟨hl2, hb2⟩ := HR3.out.fill l dl
            exact bodyPost_ret (v := .tuple #[adB l dl, .int .i64 0]) (results_ad2 Tryd.results36 _ _ w.heap.size adT _ (0, 0) _ rfl hl2 Tryd.underlying31 rfl sizeA) rfl (AdPost.of (c := 0) (by rw [HX.out]) (by rw [HX.out]; exact HDL.out) (by rw [HX.out]) hb2)
  · rw [h1] at HF he
    have HX := Lib.hid (build_form (l := bl l) (d := bl d) (by rw [HF.out]; rfl))
    clear HF h1
    go_enter Tryd.func36, Tryd.ntmps36
    go_wp2_with fail
    refine (HD.out _).mono ?_
    rintro e w1 ⟨rfl, hb⟩
    have HR1 := Lib.hid (HR0.out.on hb)
    obtain ⟨c0, c1, f0, f1⟩ := HR1.out.cells
    generalize domL (bl d) = dl at *
    generalize domC (bl d) = dc at *
    clear hb
    go_wp2_with fail
    obtain ⟨hl2, hb2⟩ := HR1.out.fill ⟨#[]⟩ ⟨#[]⟩
    exact bodyPost_ret (v := .tuple #[adB ⟨#[]⟩ ⟨#[]⟩, .int .i64 130]) (results_ad2 Tryd.results36 _ _ w.heap.size adT _ (0, 0) _ rfl hl2 Tryd.underlying31 rfl sizeA) rfl (AdPost.no (c := 130) HX.out hb2)
/-- Is the address valid? -/
def rightB (a : Ad) : Bool := decide (whyC a.l a.d = 0) && decide (foldL a.d = a.d)
theorem rightB_iff (a : Ad) : rightB a = true ↔ Right a := by
  unfold rightB Right
  simp
theorem ba_inj {a b : List UInt8} : ba a = ba b ↔ a = b := ⟨fun h => by have := congrArg bl h; rwa [bl_ba, bl_ba] at this, fun h => by rw [h]⟩
theorem right_built (l d : ByteArray) : (decide ((buildL (bl l) (bl d)).2 = 0) && (decide (ba (buildL (bl l) (bl d)).1.l = l) && decide (ba (buildL (bl l) (bl d)).1.d = d))) = rightB ⟨bl l, bl d⟩ := by
  rw [Bool.eq_iff_iff, rightB_iff, build_iff]
  simp only [Bool.and_eq_true, decide_eq_true_eq]
  constructor
  · rintro ⟨h1, h2, h3⟩
    generalize buildL (bl l) (bl d) = r at *
    obtain ⟨⟨rl, rd⟩, rc⟩ := r
    simp only at h1 h2 h3
    rw [← h2, ← h3, h1, bl_ba, bl_ba]
  · intro h
    rw [h]
    exact ⟨rfl, ba_bl l, ba_bl d⟩
set_option maxRecDepth 100000 in
set_option maxHeartbeats 2000000 in
theorem right_any (l d : ByteArray) (w : World) (hl : l.size ≤ 100000) (hd : d.size ≤ 100000) :
    Calls Tryd.prog 20 #[adB l d] w fun e w' => e = .returned (.bool (rightB ⟨bl l, bl d⟩)) ∧ Below w.heap.size w w' := by
  have HB0 := Lib.hid (fun W => build_any l d W (by omega) (by omega))
  have HX := Lib.hid (right_built l d)
  have HN := Lib.hid (new_boxA w adT l d)
  have HA : Hid (Below w.heap.size w (w.alloc (boxA adT l d))) := Lib.hid ((Below.refl _ _).alloc (Nat.le_refl _) _)
  generalize buildL (bl l) (bl d) = r at *
  obtain ⟨⟨rl, rd⟩, rc⟩ := r
  simp only at HX
  go_enter Tryd.func20, Tryd.ntmps20
  go_wp2_with fail
  refine (HB0.out _).mono ?_
  rintro e w1 ⟨rfl, hb⟩
  have hn := range_below (range_below HN.out (by simp) hb) (by have := hb.size; simp at this; omega) ((Below.refl _ _).alloc (Nat.le_refl _) (boxA adT (ba rl) (ba rd)))
  obtain ⟨a0, a1⟩ := twoA hn
  have HB := Lib.hid ((HA.out.trans (hb.mono HA.out.size)).alloc (by have := hb.size; simp at this; omega) (boxA adT (ba rl) (ba rd)))
  have hq := fun W => eql_ad W (ba rl) (ba rd) l d
  clear hb hn
  generalize ba rl = x at *
  generalize ba rd = y at *
  generalize (decide (x = l) && decide (y = d)) = q at *
  by_cases h0 : rc = 0
  · subst h0
    dsimp only
    go_wp2_with fail
    go_ret
    exact ⟨ret_bool (by rw [← HX.out]; simp), HB.out⟩
  · have t0 : ((rc : Int) == 0) = false := by rw [beq_eq_false_iff_ne]; omega
    have hx := HX.out
    rw [decide_eq_false h0] at hx
    have HY := Lib.hid hx
    clear hx
    dsimp only
    go_wp2_with fail
    go_ret
    exact ⟨ret_bool (by rw [← HY.out]; rfl), HB.out⟩
end Go.Proofs.YtklmhjoiffaniaaDoor.Addr
