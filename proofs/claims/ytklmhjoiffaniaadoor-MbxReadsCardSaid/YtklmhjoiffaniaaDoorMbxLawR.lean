/-
  The law MbxReads walked.
-/
import Derived.Test.YtklmhjoiffaniaaDoorMbxLawA
import Derived.Test.YtklmhjoiffaniaaDoorMbxRef
namespace Go.Proofs.YtklmhjoiffaniaaDoor.Mbx
open Go Go.RowKit
open Go.Proofs.YtklmhjoiffaniaaDoor.Lex
open Go.Proofs.YtklmhjoiffaniaaDoor.Sha (Kept wp_region_kept wp_region_kept_tail quiet_load_row)

abbrev zV : Value := .agg #[.string ⟨#[]⟩, .string ⟨#[]⟩, .string ⟨#[]⟩]
set_option maxRecDepth 100000 in
set_option maxHeartbeats 4000000 in
theorem mbxReads_any (s : ByteArray) (w : World) (_hs : s.size ≤ 9223372036854775807) :
    Calls Tryd.prog 3 #[.string s] w (TrueP w) := by
  have HW := Lib.hid (fun W => works_any W)
  by_cases hz : 2000 < s.size
  · go_enter Tryd.func3, Tryd.ntmps3
    go_wp2_with fail
    refine (HW.out _).mono ?_
    rintro e w1 ⟨rfl, hb⟩
    have HB := Lib.hid hb
    clear hb
    go_wp2_with fail
    go_ret
    exact ⟨rfl, HB.out⟩
  have hle : (readL (bl s)).2.length ≤ 100000 := by
    by_cases h : (readL (bl s)).1 = 0
    · have := (read_good h).2.1
      omega
    · rw [read_none h]
      simp
  have HRD := Lib.hid (fun W => read_any s W (by omega))
  have HRF := Lib.hid (fun W => refRead_any s W (by omega))
  have HON := Lib.hid (fun W => one_any s W (by omega))
  have HSM := Lib.hid (fun u v W (hu : ReadsB W u (readL (bl s)).2) (hv : ReadsB W v (readL (bl s)).2) => same_any u v _ W hu hv hle)
  have hway : (∃ b, readL (bl s) = (0, [b]) ∧ oneL (bl s) = (b, 0)) ∨ ((readL (bl s)).1 ≠ 0 ∧ oneL (bl s) = (noBx, (readL (bl s)).1)) ∨ ((readL (bl s)).1 = 0 ∧ (readL (bl s)).2.length ≠ 1 ∧ oneL (bl s) = (noBx, 130)) := by
    by_cases h : (readL (bl s)).1 = 0
    · have hB : readL (bl s) = (0, (readL (bl s)).2) := by rw [← h]
      by_cases h1 : (readL (bl s)).2.length = 1
      · obtain ⟨b, hb⟩ := List.length_eq_one_iff.1 h1
        rw [hb] at hB
        exact .inl ⟨b, hB, one_good hB⟩
      · exact .inr (.inr ⟨h, h1, one_many hB h1⟩)
    · exact .inr (.inl ⟨h, one_bad h⟩)
  generalize readL (bl s) = R at *
  have hNB : ∀ W, (binOp .eql bxT zV zV).run Tryd.prog W = .ok (.bool true) W := fun W => by
    have := eql_bx W noBx noBx
    rw [beqB_self] at this
    exact this
  rcases hway with ⟨b, rfl, ho⟩ | ⟨h0, ho⟩ | ⟨h0, h1, ho⟩
  · rw [ho] at HON
    clear ho
    go_enter Tryd.func3, Tryd.ntmps3
    go_wp2_with fail
    refine (HRD.out _).mono ?_
    rintro e w1 ⟨v, rfl, hv, hb1⟩
    have HV := Lib.hid hv
    have HB1 := Lib.hid hb1
    clear hv hb1
    go_wp2_with fail
    refine (HRF.out _).mono ?_
    rintro e w2 ⟨u, rfl, hu, hb2⟩
    have HV2 := Lib.hid (HV.out.below hb2)
    obtain ⟨ua, uc, rfl⟩ := hu.shape
    have HU := Lib.hid hu
    have HB2 := Lib.hid (HB1.out.trans (hb2.mono HB1.out.size))
    clear hu hb2
    simp only [List.length_cons, List.length_nil, Nat.zero_add] at HU ⊢
    go_wp2_with fail
    refine (HON.out _).mono ?_
    rintro e w3 ⟨rfl, hb3⟩
    have HV3 := Lib.hid (HV2.out.below hb3)
    have HU3 := Lib.hid (HU.out.below hb3)
    have HB3 := Lib.hid (HB2.out.trans (hb3.mono HB2.out.size))
    clear hb3
    have hA := (Below.refl w3.heap.size w3).alloc (Nat.le_refl _) (boxB bxT b)
    have HN := Lib.hid (new_boxB w3 bxT b)
    have HB4 := Lib.hid (HB3.out.trans (hA.mono HB3.out.size))
    have HSS := Lib.hid (HSM.out _ _ _ (HV3.out.below hA) (HU3.out.below hA))
    have HU4 := Lib.hid (HU3.out.below hA)
    clear hA
    go_wp2_with fail
    refine HSS.out.mono ?_
    rintro e w4 ⟨rfl, hb5⟩
    have HR4 := Lib.hid (range_below HN.out (by simp) hb5)
    have HU5 := Lib.hid (HU4.out.below hb5)
    obtain ⟨c0, c1, c2⟩ := three HR4.out
    have HB5 := Lib.hid (HB4.out.trans (hb5.mono HB4.out.size))
    clear hb5
    have HW2 : Hid (∀ W, Kept w4 W → Calls Tryd.prog 8 #[] W fun e W' => e = .returned (.bool true) ∧ Kept w4 W') := Lib.hid (fun W hk => hk.call (HW.out W))
    have HT : Hid (∀ W, Kept w4 W → Calls Tryd.prog 13 #[.agg (bxC b).toArray] W fun e W' => e = .returned (bxV b) ∧ Kept w4 W') := Lib.hid (fun W hk => hk.call (to_box b W))
    have HQ : Hid (∀ W, (binOp .eql bxT (bxV b) (bxV b)).run Tryd.prog W = .ok (.bool true) W) := Lib.hid (fun W => by rw [eql_bx, beqB_self])
    have hlt : w3.heap.size < w4.heap.size := by
      have := World.cell?_spot c0
      rcases Nat.lt_or_ge w3.heap.size w4.heap.size with h | h
      · exact h
      · have hh : w4.heap[w3.heap.size]? = none := by simp; omega
        simp [World.cell?, hh] at c0
    obtain ⟨b2, o2, hua, hb2l, r2⟩ := HU5.out.at_ 0 b rfl
    subst hua
    rw [Nat.zero_mul, Nat.add_zero] at r2
    have HR5 := Lib.hid r2
    have HL := Lib.hid (And.intro hlt hb2l)
    clear r2 hlt hb2l hNB
    go_wp2_with fail
    refine wp_region_kept (by kernel_rfl) (by kernel_rfl) ?_
    repeat (first
      | (go_big_quiet_want
         first
           | refine quiet_eql_bx (.tmp 59) (.tmp 63) b b true HQ.out rfl rfl rfl ?_
           | refine quiet_load_row bxT (.tmp 7) rfl w3.heap.size 0 rfl (bxC b) _ (fun w' hk => range_below HR4.out HL.out.1 hk) Tryd.underlying33 rfl sizeB ?_
           | refine quiet_load_row rbT (.tmp 61) rfl b2 o2 rfl (bxC b) _ (fun w' hk => range_below HR5.out HL.out.2 hk) Tryd.underlying40 rfl sizeRB ?_
         go_simp
         go_big_quiet_on)
      | (go_big_quiet_step ((first | (exact fun _ => rfl) | (intro hk; go_at_call 13; (with_reducible exact (HT.out _ hk))) | (intro hk; go_at_call 8; (with_reducible exact (HW2.out _ hk)))))))
    refine wpQuiet_nil ?_
    intro W2 hk2
    have HK2 := Lib.hid (HB5.out.trans (hk2.below.mono HB5.out.size))
    clear hk2
    go_wp2_with fail
    go_ret
    exact ⟨rfl, HK2.out⟩
  · have HON2 : Hid (∀ W, Calls Tryd.prog 11 #[.string s] W fun e w' => e = .returned (.tuple #[zV, .int .i64 R.1]) ∧ Below W.heap.size W w') := Lib.hid (fun W => by
      have h := HON.out W
      rw [ho] at h
      exact h)
    clear HON
    have q2 : ((R.1 : Int) != 0) = true := int_ne h0
    have q3 : ((R.1 : Int) == 0) = false := by rw [beq_eq_false_iff_ne]; omega
    clear ho
    go_enter Tryd.func3, Tryd.ntmps3
    go_wp2_with fail
    refine (HRD.out _).mono ?_
    rintro e w1 ⟨v, rfl, hv, hb1⟩
    have HV := Lib.hid hv
    have HB1 := Lib.hid hb1
    clear hv hb1
    go_wp2_with fail
    refine (HRF.out _).mono ?_
    rintro e w2 ⟨u, rfl, hu, hb2⟩
    have HV2 := Lib.hid (HV.out.below hb2)
    obtain ⟨ua, uc, rfl⟩ := hu.shape
    have HU := Lib.hid hu
    have HB2 := Lib.hid (HB1.out.trans (hb2.mono HB1.out.size))
    clear hu hb2
    generalize R.2.length = n at *
    go_wp2_with fail
    refine (HON2.out _).mono ?_
    rintro e w3 ⟨rfl, hb3⟩
    have HV3 := Lib.hid (HV2.out.below hb3)
    have HU3 := Lib.hid (HU.out.below hb3)
    have HB3 := Lib.hid (HB2.out.trans (hb3.mono HB2.out.size))
    clear hb3
    have hA := (Below.refl w3.heap.size w3).alloc (Nat.le_refl _) (boxB bxT noBx)
    have HN := Lib.hid (new_boxB w3 bxT noBx)
    have HB4 := Lib.hid (HB3.out.trans (hA.mono HB3.out.size))
    have HSS := Lib.hid (HSM.out _ _ _ (HV3.out.below hA) (HU3.out.below hA))
    have HU4 := Lib.hid (HU3.out.below hA)
    clear hA
    go_wp2_with fail
    refine HSS.out.mono ?_
    rintro e w4 ⟨rfl, hb5⟩
    have HR4 := Lib.hid (range_below HN.out (by simp) hb5)
    have HU5 := Lib.hid (HU4.out.below hb5)
    obtain ⟨c0, c1, c2⟩ := three HR4.out
    have HB5 := Lib.hid (HB4.out.trans (hb5.mono HB4.out.size))
    clear hb5
    dsimp only [noBx] at c0 c1 c2
    go_wp2_with fail
    refine (HW.out _).mono ?_
    rintro e w5 ⟨rfl, hb6⟩
    have HB6 := Lib.hid (HB5.out.trans (hb6.mono HB5.out.size))
    clear hb6
    go_wp2_with fail
    go_ret
    exact ⟨rfl, HB6.out⟩
  · have HON2 : Hid (∀ W, Calls Tryd.prog 11 #[.string s] W fun e w' => e = .returned (.tuple #[zV, .int .i64 130]) ∧ Below W.heap.size W w') := Lib.hid (fun W => by
      have h := HON.out W
      rw [ho] at h
      exact h)
    clear HON
    have q2 : ((R.1 : Int) != 0) = false := by rw [h0]; rfl
    have q3 : ((R.1 : Int) == 0) = true := by rw [h0]; rfl
    have q5 : ((R.2.length : Int) != 1) = true := by rw [bne_iff_ne]; omega
    clear ho
    go_enter Tryd.func3, Tryd.ntmps3
    go_wp2_with fail
    refine (HRD.out _).mono ?_
    rintro e w1 ⟨v, rfl, hv, hb1⟩
    have HV := Lib.hid hv
    have HB1 := Lib.hid hb1
    clear hv hb1
    go_wp2_with fail
    refine (HRF.out _).mono ?_
    rintro e w2 ⟨u, rfl, hu, hb2⟩
    have HV2 := Lib.hid (HV.out.below hb2)
    obtain ⟨ua, uc, rfl⟩ := hu.shape
    have HU := Lib.hid hu
    have HB2 := Lib.hid (HB1.out.trans (hb2.mono HB1.out.size))
    clear hu hb2
    generalize R.2.length = n at *
    go_wp2_with fail
    refine (HON2.out _).mono ?_
    rintro e w3 ⟨rfl, hb3⟩
    have HV3 := Lib.hid (HV2.out.below hb3)
    have HU3 := Lib.hid (HU.out.below hb3)
    have HB3 := Lib.hid (HB2.out.trans (hb3.mono HB2.out.size))
    clear hb3
    have hA := (Below.refl w3.heap.size w3).alloc (Nat.le_refl _) (boxB bxT noBx)
    have HN := Lib.hid (new_boxB w3 bxT noBx)
    have HB4 := Lib.hid (HB3.out.trans (hA.mono HB3.out.size))
    have HSS := Lib.hid (HSM.out _ _ _ (HV3.out.below hA) (HU3.out.below hA))
    have HU4 := Lib.hid (HU3.out.below hA)
    clear hA
    go_wp2_with fail
    refine HSS.out.mono ?_
    rintro e w4 ⟨rfl, hb5⟩
    have HR4 := Lib.hid (range_below HN.out (by simp) hb5)
    have HU5 := Lib.hid (HU4.out.below hb5)
    obtain ⟨c0, c1, c2⟩ := three HR4.out
    have HB5 := Lib.hid (HB4.out.trans (hb5.mono HB4.out.size))
    clear hb5
    dsimp only [noBx] at c0 c1 c2
    go_wp2_with fail
    refine (HW.out _).mono ?_
    rintro e w5 ⟨rfl, hb6⟩
    have HB6 := Lib.hid (HB5.out.trans (hb6.mono HB5.out.size))
    clear hb6
    go_wp2_with fail
    go_ret
    exact ⟨rfl, HB6.out⟩
end Go.Proofs.YtklmhjoiffaniaaDoor.Mbx
