/-
  The laws' walks: HeadReads, HeadBack.
-/
import Derived.Test.YtpklmlhioklpoaaDoorHeadLawA
import Derived.Test.YtpklmlhioklpoaaDoorHeadRefP
namespace Go.Proofs.YtpklmlhioklpoaaDoor.Head
open Go Go.RowKit

theorem prs_few : ∀ (n : Nat) (R : List (List UInt8)) (s : List UInt8), (prs n R s).2.1.length ≤ R.length + n
  | 0, R, s => Nat.le_refl _
  | n + 1, R, s => by
    rw [prs]
    split
    · exact Nat.le_add_right _ _
    · split
      · exact Nat.zero_le _
      · rename_i t r _
        split
        · exact Nat.le_add_right _ _
        · split
          · have ih := prs_few n (add R t) r
            have : (add R t).length ≤ R.length + 1 := by
              unfold add
              split
              · rw [List.length_append, List.length_dropLast]
                simp only [List.length_cons, List.length_nil]
                omega
              · simp
            omega
          · exact Nat.zero_le _
theorem parse_few (s : List UInt8) : (parseF s).length ≤ s.length := by
  unfold parseF prsA
  rw [List.length_map]
  have := prs_few s.length [] s
  simpa using this
set_option maxRecDepth 100000 in
set_option maxHeartbeats 4000000 in
theorem headReads_any (s : ByteArray) (w : World) (hm : MaxAt w) : Calls Tryd.prog 3 #[.string s] w (TrueP w) := by
  have HW := Lib.hid (fun W (h : MaxAt W) => works_any W h)
  have HM := Lib.hid hm
  clear hm
  by_cases hs : 5000 < s.size
  · have d : (5000 : Int) < (s.size : Int) := by omega
    have HW0 := Lib.hid (HW.out w HM.out)
    go_enter Tryd.func3, Tryd.ntmps3
    go_wp2_with fail
    refine HW0.out.mono ?_
    rintro e w1 ⟨rfl, hb⟩
    have HB := Lib.hid hb
    clear hb
    go_wp2_with fail
    go_ret
    exact ⟨rfl, HB.out⟩
  · have d : ¬ (5000 : Int) < (s.size : Int) := by omega
    have HP := Lib.hid (parse_any s w (by omega) HM.out)
    have HR := Lib.hid (fun W => rparse_any s W (by omega))
    have hfew := parse_few (bl s)
    rw [bl_len] at hfew
    have HS := Lib.hid (fun u v W (h1 : ReadsF W u (parseF (bl s))) (h2 : ReadsF W v (parseF (bl s))) => same_any u v (parseF (bl s)) W h1 h2 (by omega))
    unfold PsPost at HP
    unfold RpPost at HR
    clear hfew
    generalize parseF (bl s) = F at *
    generalize parseC (bl s) = c at *
    generalize ba (parseB (bl s)) = b at *
    go_enter Tryd.func3, Tryd.ntmps3
    go_wp2_with fail
    refine HP.out.mono ?_
    rintro e w1 ⟨v, rfl, hf⟩
    have HF := Lib.hid hf
    clear hf
    go_wp2_with fail
    refine (HR.out _).mono ?_
    rintro e w2 ⟨v2, rfl, hf2⟩
    have HF2 := Lib.hid hf2
    have HS1 := Lib.hid (HS.out v v2 w2 ((owns_readsF HF.out.1).below hf2.2) (owns_readsF hf2.1))
    have HB2 := Lib.hid (HF.out.2.trans (hf2.2.mono HF.out.2.size))
    clear hf2
    go_wp2_with fail
    refine HS1.out.mono ?_
    rintro e w3 ⟨rfl, hb⟩
    have HB3 := Lib.hid (HB2.out.trans (hb.mono HB2.out.size))
    have HW3 := Lib.hid (HW.out w3 (HM.out.below HB3.out))
    clear hb
    go_wp2_with fail
    refine HW3.out.mono ?_
    rintro e w4 ⟨rfl, hb⟩
    have HB4 := Lib.hid (HB3.out.trans (hb.mono HB3.out.size))
    clear hb
    go_wp2_with fail
    go_ret
    exact ⟨rfl, HB4.out⟩

/-! HeadBack. -/
theorem printL_light : ∀ q : List Fd, (∀ f ∈ q, f.n.size ≤ 200 ∧ f.v.size ≤ 3000) → (printL q).length ≤ 9210 * q.length
  | [], _ => by simp [printL]
  | f :: q, h => by
    have ih := printL_light q fun g hg => h g (by simp [hg])
    have h1 := showL_len (bl f.n) (bl f.v)
    have h2 := h f (by simp)
    rw [bl_len, bl_len] at h1
    have e : printL (f :: q) = showL (bl f.n) (bl f.v) ++ printL q := by unfold printL; simp
    rw [e, List.length_append, List.length_cons]
    omega
def rightF (f : Fd) : Bool := rightB (bl f.n) (bl f.v)
set_option maxRecDepth 100000 in
set_option maxHeartbeats 4000000 in
theorem headBack_any (v : Value) (q : List Fd) (body : ByteArray) (w : World) (hv : ReadsF w v q) (hm : MaxAt w) : Calls Tryd.prog 6 #[v, .string body] w (TrueP w) := by
  have HW := Lib.hid (works_any w hm)
  have HV := Lib.hid hv
  have HM := Lib.hid hm
  have HLI := Lib.hid (fun W (h : ReadsF W v q) => light_any v q W h)
  clear hv hm
  cases hl : lightB q
  · rw [hl] at HLI
    clear hl
    go_enter Tryd.func6, Tryd.ntmps6
    go_wp2_with fail
    refine HW.out.mono ?_
    rintro e w1 ⟨rfl, hb⟩
    have HB := Lib.hid hb
    have HL1 := Lib.hid (HLI.out w1 (HV.out.below hb))
    clear hb
    go_wp2_with fail
    refine HL1.out.mono ?_
    rintro e w2 ⟨rfl, rfl⟩
    go_wp2_with fail
    go_ret
    exact ⟨rfl, HB.out⟩
  · obtain ⟨hq, hsz⟩ := light_iff hl
    rw [hl] at HLI
    clear hl
    by_cases hbd : 3000 < body.size
    · have d : (3000 : Int) < (body.size : Int) := by omega
      go_enter Tryd.func6, Tryd.ntmps6
      go_wp2_with fail
      refine HW.out.mono ?_
      rintro e w1 ⟨rfl, hb⟩
      have HB := Lib.hid hb
      have HL1 := Lib.hid (HLI.out w1 (HV.out.below hb))
      clear hb
      go_wp2_with fail
      refine HL1.out.mono ?_
      rintro e w2 ⟨rfl, rfl⟩
      go_wp2_with fail
      go_ret
      exact ⟨rfl, HB.out⟩
    · have d : ¬ (3000 : Int) < (body.size : Int) := by omega
      have HTO := Lib.hid (fun W (h : ReadsF W v q) => to_any v q W h (by omega))
      have HRT := Lib.hid (fun (f : Fd) (hf : f ∈ q) W (h : MaxAt W) => right_any f W (by have := hsz f hf; omega) (by have := hsz f hf; omega) h)
      have HPR := Lib.hid (fun u W (h : ReadsF W u q) => print_any u q W h (by omega) (fun f hf => by have := hsz f hf; omega))
      have hpl := printL_light q hsz
      have HSM := Lib.hid (fun u v W (h1 : ReadsF W u q) (h2 : ReadsF W v q) => same_any u v q W h1 h2 (by omega))
      have hplz : (printL q).length ≤ 300000 := by omega
      obtain ⟨n, hn⟩ : ∃ n, n = q.length := ⟨_, rfl⟩
      have hn30 : n ≤ 30 := by omega
      have HNN := Lib.hid hn
      have HPP := Lib.hid (fun (h : ∀ f ∈ q, rightB (bl f.n) (bl f.v) = true) => parse_print h (by omega))
      clear hn hq hsz hpl
      go_enter Tryd.func6, Tryd.ntmps6
      go_wp2_with fail
      refine HW.out.mono ?_
      rintro e w1 ⟨rfl, hb⟩
      have HB := Lib.hid hb
      have HL1 := Lib.hid (HLI.out w1 (HV.out.below hb))
      clear hb
      go_wp2_with fail
      refine HL1.out.mono ?_
      rintro e w2 ⟨rfl, rfl⟩
      have HT1 := Lib.hid (HTO.out w1 (HV.out.below HB.out))
      go_wp2_with fail
      refine HT1.out.mono ?_
      rintro e w3 ⟨u, rfl, hf⟩
      obtain ⟨ua, uc, rfl⟩ := owns_slice hf.1
      have HF := Lib.hid (And.intro (owns_readsF hf.1) (HB.out.trans (hf.2.mono HB.out.size)))
      rw [← HNN.out] at HF ⊢
      clear hf
      have HAT := Lib.hid (fun k a ha => HF.out.1.at_ k a ha)
      go_wp2_with fail
      go_loopw [24] (fun i wr => ∃ k : Nat, k ≤ n ∧ i = .int .i64 k ∧ Hid ((q.take k).all rightF = true ∧ Below w3.heap.size w3 wr)) (fun i _ => n - (intOf i).toNat)
      case atStart => exact ⟨0, Nat.zero_le _, rfl, Lib.hid ⟨by simp, Below.refl _ _⟩⟩
      case round =>
        obtain ⟨k, hk, rfl, hall⟩ := hrel
        by_cases hlt : k < n
        · obtain ⟨f, hf⟩ : ∃ a, q[k]? = some a := ⟨q[k]'(by have := HNN.out; omega), List.getElem?_eq_getElem _⟩
          obtain ⟨b1, o1, rfl, hb1, r1⟩ := HAT.out k f hf
          obtain ⟨c0, c1⟩ := two (range_below r1 hb1 hall.out.2)
          have HR1 := Lib.hid (HRT.out f (List.mem_of_getElem? hf) wr (HM.out.below (HF.out.2.trans (hall.out.2.mono HF.out.2.size))))
          cases hr : rightB (bl f.n) (bl f.v)
          · rw [hr] at HR1
            clear hf r1 hr
            go_wp2_with fail
            refine HR1.out.mono ?_
            rintro e w4 ⟨rfl, hb⟩
            have HB4 := Lib.hid (HF.out.2.trans ((hall.out.2.trans (hb.mono hall.out.2.size)).mono HF.out.2.size))
            clear hb
            go_wp2_with fail
            go_ret
            exact ⟨rfl, HB4.out⟩
          · rw [hr] at HR1
            have HA := Lib.hid (show (q.take (k + 1)).all rightF = true by
              rw [List.take_add_one, hf, List.all_append, hall.out.1]
              simp [rightF, hr])
            clear hf r1 hr
            go_wp2_with fail
            refine HR1.out.mono ?_
            rintro e w4 ⟨rfl, hb⟩
            have HN := Lib.hid (And.intro HA.out (hall.out.2.trans (hb.mono hall.out.2.size)))
            clear hb
            go_wp2_with fail
            go_roundw
            case rel => exact ⟨k + 1, by omega, by simp, HN⟩
            case measure => simp [intOf]; omega
        · have hright : ∀ f ∈ q, rightB (bl f.n) (bl f.v) = true := fun f hf => by
            have h := hall.out.1
            rw [List.take_of_length_le (by have := HNN.out; omega)] at h
            exact List.all_eq_true.1 h f hf
          obtain ⟨hp1, hp2, hp3, hp4⟩ := HPP.out hright
          obtain ⟨x, hx⟩ : ∃ x : ByteArray, x = ba (printL q) := ⟨_, rfl⟩
          have hxs : x.size ≤ 300000 := by rw [hx, ba_size]; exact hplz
          have hb1 : bl ((x ++ (⟨#[13, 10]⟩ : ByteArray)) ++ body) = printL q ++ 13 :: 10 :: bl body := by
            show ((x ++ (⟨#[13, 10]⟩ : ByteArray)) ++ body).data.toList = _
            rw [ByteArray.data_append, ByteArray.data_append, hx]
            simp
          have hz1 : ((x ++ (⟨#[13, 10]⟩ : ByteArray)) ++ body).size ≤ 1000000 := by
            rw [← bl_len, hb1, List.length_append, List.length_cons, List.length_cons, bl_len]
            omega
          have HPA := Lib.hid (fun W (h : MaxAt W) => parse_any ((x ++ (⟨#[13, 10]⟩ : ByteArray)) ++ body) W hz1 h)
          unfold PsPost at HPA
          rw [hb1, (hp1 (bl body)).1, (hp1 (bl body)).2.1, (hp1 (bl body)).2.2, ba_bl] at HPA
          have HPB := Lib.hid (fun W (h : MaxAt W) => parse_any x W (by omega) h)
          unfold PsPost at HPB
          rw [hx, bl_ba, hp2, hp3, hp4, ← hx] at HPB
          have HPR1 := Lib.hid (HPR.out _ wr (HF.out.1.below hall.out.2))
          have HPR2 := Lib.hid (fun W (h : Below wr.heap.size wr W) => HPR.out _ W (HF.out.1.below (hall.out.2.trans (h.mono hall.out.2.size))))
          rw [← hx] at HPR1 HPR2
          have HXB := Lib.hid (HF.out.2.trans (hall.out.2.mono HF.out.2.size))
          clear hright hp1 hp2 hp3 hp4 hx hb1 hz1 hplz
          go_wp2_with fail
          refine HPR1.out.mono ?_
          rintro e w4 ⟨rfl, hb⟩
          have HK1 := Lib.hid hb
          have HPA1 := Lib.hid (HPA.out w4 (HM.out.below (HXB.out.trans (hb.mono HXB.out.size))))
          clear hb
          go_wp2_with fail
          refine HPA1.out.mono ?_
          rintro e w5 ⟨m1, rfl, hf⟩
          have HK2 := Lib.hid (HK1.out.trans (hf.2.mono HK1.out.size))
          have HSM1 := Lib.hid (HSM.out m1 v w5 (owns_readsF hf.1) (HV.out.below (HXB.out.trans (HK2.out.mono HXB.out.size))))
          clear hf
          go_wp2_with fail
          refine HSM1.out.mono ?_
          rintro e w6 ⟨rfl, hb⟩
          have HK3 := Lib.hid (HK2.out.trans (hb.mono HK2.out.size))
          have HPR3 := Lib.hid (HPR2.out w6 HK3.out)
          clear hb
          go_wp2_with fail
          refine HPR3.out.mono ?_
          rintro e w7 ⟨rfl, hb⟩
          have HK4 := Lib.hid (HK3.out.trans (hb.mono HK3.out.size))
          have HPB1 := Lib.hid (HPB.out w7 (HM.out.below (HXB.out.trans (HK4.out.mono HXB.out.size))))
          clear hb
          go_wp2_with fail
          refine HPB1.out.mono ?_
          rintro e w8 ⟨m2, rfl, hf⟩
          have HK5 := Lib.hid (HK4.out.trans (hf.2.mono HK4.out.size))
          have HSM2 := Lib.hid (HSM.out m2 v w8 (owns_readsF hf.1) (HV.out.below (HXB.out.trans (HK5.out.mono HXB.out.size))))
          clear hf
          go_wp2_with fail
          refine HSM2.out.mono ?_
          rintro e w9 ⟨rfl, hb⟩
          have HK6 := Lib.hid (HXB.out.trans ((HK5.out.trans (hb.mono HK5.out.size)).mono HXB.out.size))
          clear hb
          go_wp2_with fail
          go_ret
          exact ⟨rfl, HK6.out⟩
end Go.Proofs.YtpklmlhioklpoaaDoor.Head
