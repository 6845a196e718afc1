/-
  The law MacFits, walked.
-/
import Derived.Test.YtnndifkilcommaaDoorMacWorks
namespace Go.Proofs.YtnndifkilcommaaDoor
open Go.RowKit Sha Mac

theorem min_at (n : Nat) (h : n ≤ 32) : min (n : Int) 32 = (n : Int) := by omega
set_option maxRecDepth 100000 in
set_option maxHeartbeats 400000 in
theorem macFits_any (key s t : ByteArray) (w : World) (_hk : key.size ≤ 9223372036854775807) (_hs : s.size ≤ 9223372036854775807) (_ht : t.size ≤ 9223372036854775807) (ht : Tab w) :
    Calls Tryd.prog 4 #[.string key, .string s, .string t] w fun e w' => e = .returned (.bool true) ∧ Below w.heap.size w w' := by
  have HT := Lib.hid ht
  clear ht
  by_cases h1 : key.size ≤ 200
  · have d1 : decide ((200 : Int) < (key.size : Int)) = false := by simp; omega
    by_cases h2 : s.size ≤ 200
    · have d2 : decide ((200 : Int) < (s.size : Int)) = false := by simp; omega
      by_cases h3 : t.size ≤ 200
      · have d3 : decide ((200 : Int) < (t.size : Int)) = false := by simp; omega
        have HS := Lib.hid (fun w => same_any s t w (by omega))
        have HE := Lib.hid (fun w => same_self s w (by omega))
        by_cases h4 : t.size < 1 ∨ 32 < t.size
        · have HF := Lib.hid (fun w => fits_out key s t w h4)
          generalize hq : (s.toList == t.toList) = q at HS
          by_cases h5 : 1 ≤ t.size
          · have d5 : decide ((1 : Int) ≤ (t.size : Int)) = true := by simp; omega
            have d6 : decide ((t.size : Int) ≤ 32) = false := by simp; omega
            clear h4
            have HB : Hid (Below w.heap.size w w) := Below.refl _ _
            go_enter Tryd.func4, Tryd.ntmps4
            go_wp2_with fail
            refine (HF.out _).mono ?_
            rintro e w2 ⟨rfl, hb2⟩
            have HB := Lib.hid (HB.out.trans (hb2.mono HB.out.size))
            clear hb2
            go_wp2_with fail
            refine (HS.out _).mono ?_
            rintro e w3 ⟨rfl, hb3⟩
            have HB := Lib.hid (HB.out.trans (hb3.mono HB.out.size))
            clear hb3
            go_wp2_with fail
            refine (HE.out _).mono ?_
            rintro e w4 ⟨rfl, hb4⟩
            have HB := Lib.hid (HB.out.trans (hb4.mono HB.out.size))
            clear hb4
            go_wp2_with fail
            refine (works_any _ (HT.out.next HB.out)).mono ?_
            rintro e w5 ⟨rfl, hb5⟩
            have HB := Lib.hid (HB.out.trans (hb5.mono HB.out.size))
            clear hb5
            go_wp2
            go_ret
            exact ⟨rfl, HB.out⟩
          · have d5 : decide ((1 : Int) ≤ (t.size : Int)) = false := by simp; omega
            clear h4
            have HB : Hid (Below w.heap.size w w) := Below.refl _ _
            go_enter Tryd.func4, Tryd.ntmps4
            go_wp2_with fail
            refine (HF.out _).mono ?_
            rintro e w2 ⟨rfl, hb2⟩
            have HB := Lib.hid (HB.out.trans (hb2.mono HB.out.size))
            clear hb2
            go_wp2_with fail
            refine (HS.out _).mono ?_
            rintro e w3 ⟨rfl, hb3⟩
            have HB := Lib.hid (HB.out.trans (hb3.mono HB.out.size))
            clear hb3
            go_wp2_with fail
            refine (HE.out _).mono ?_
            rintro e w4 ⟨rfl, hb4⟩
            have HB := Lib.hid (HB.out.trans (hb4.mono HB.out.size))
            clear hb4
            go_wp2_with fail
            refine (works_any _ (HT.out.next HB.out)).mono ?_
            rintro e w5 ⟨rfl, hb5⟩
            have HB := Lib.hid (HB.out.trans (hb5.mono HB.out.size))
            clear hb5
            go_wp2
            go_ret
            exact ⟨rfl, HB.out⟩
        · have d5 : decide ((1 : Int) ≤ (t.size : Int)) = true := by simp; omega
          have d6 : decide ((t.size : Int) ≤ 32) = true := by simp; omega
          have hm := min_at t.size (by omega)
          have HR := Lib.hid (fun w => refMac_any key s w (by omega) (by omega))
          have HF := Lib.hid (fun w => fits_any key s t w (by omega) (by omega) (by omega) (by omega))
          have hz : (ba (hmac (bl key) (bl s))).size = 32 := (ba_size _).trans (hmac_len _ _)
          generalize ba (hmac (bl key) (bl s)) = H at HR HF hz
          generalize hq : (s.toList == t.toList) = q at HS
          generalize hr : ((H.extract 0 t.size).toList == t.toList) = r at HF
          have h5 : t.size ≤ 32 := by omega
          clear h4
          have HB : Hid (Below w.heap.size w w) := Below.refl _ _
          go_enter Tryd.func4, Tryd.ntmps4
          go_wp2_with fail
          refine (HR.out _).mono ?_
          rintro e w6 ⟨rfl, hb6⟩
          have HB := Lib.hid (HB.out.trans (hb6.mono HB.out.size))
          clear hb6
          go_wp2_with fail
          refine (HF.out _ (HT.out.next HB.out)).mono ?_
          rintro e w7 ⟨rfl, hb7⟩
          have HB := Lib.hid (HB.out.trans (hb7.mono HB.out.size))
          clear hb7
          go_wp2_with fail
          refine (HS.out _).mono ?_
          rintro e w8 ⟨rfl, hb8⟩
          have HB := Lib.hid (HB.out.trans (hb8.mono HB.out.size))
          clear hb8
          go_wp2_with fail
          refine (HE.out _).mono ?_
          rintro e w9 ⟨rfl, hb9⟩
          have HB := Lib.hid (HB.out.trans (hb9.mono HB.out.size))
          clear hb9
          go_wp2_with fail
          refine (works_any _ (HT.out.next HB.out)).mono ?_
          rintro e w10 ⟨rfl, hb10⟩
          have HB := Lib.hid (HB.out.trans (hb10.mono HB.out.size))
          clear hb10
          go_wp2
          go_ret
          exact ⟨rfl, HB.out⟩
      · have d3 : decide ((200 : Int) < (t.size : Int)) = true := by simp; omega
        have HB : Hid (Below w.heap.size w w) := Below.refl _ _
        go_enter Tryd.func4, Tryd.ntmps4
        go_wp2_with fail
        refine (works_any _ (HT.out.next HB.out)).mono ?_
        rintro e w1 ⟨rfl, hb1⟩
        have HB := Lib.hid (HB.out.trans (hb1.mono HB.out.size))
        clear hb1
        go_wp2
        go_ret
        exact ⟨rfl, HB.out⟩
    · have d2 : decide ((200 : Int) < (s.size : Int)) = true := by simp; omega
      have HB : Hid (Below w.heap.size w w) := Below.refl _ _
      go_enter Tryd.func4, Tryd.ntmps4
      go_wp2_with fail
      refine (works_any _ (HT.out.next HB.out)).mono ?_
      rintro e w1 ⟨rfl, hb1⟩
      have HB := Lib.hid (HB.out.trans (hb1.mono HB.out.size))
      clear hb1
      go_wp2
      go_ret
      exact ⟨rfl, HB.out⟩
  · have d1 : decide ((200 : Int) < (key.size : Int)) = true := by simp; omega
    have HB : Hid (Below w.heap.size w w) := Below.refl _ _
    go_enter Tryd.func4, Tryd.ntmps4
    go_wp2_with fail
    refine (works_any _ (HT.out.next HB.out)).mono ?_
    rintro e w1 ⟨rfl, hb1⟩
    have HB := Lib.hid (HB.out.trans (hb1.mono HB.out.size))
    clear hb1
    go_wp2
    go_ret
    exact ⟨rfl, HB.out⟩
end Go.Proofs.YtnndifkilcommaaDoor
