/-
  The laws MacSums and MacFits, walked.
-/
import Derived.Test.YtnndifkilcommaaDoorMacWorks
namespace Go.Proofs.YtnndifkilcommaaDoor
open Go.RowKit Sha Mac

set_option maxRecDepth 100000 in
set_option maxHeartbeats 400000 in
theorem macSums_any (key s : ByteArray) (n : Int) (w : World) (_hk : key.size ≤ 9223372036854775807) (_hs : s.size ≤ 9223372036854775807) (ht : Tab w) :
    Calls Tryd.prog 3 #[.string key, .string s, .int .i64 n] w fun e w' => e = .returned (.bool true) ∧ Below w.heap.size w w' := by
  have HT := Lib.hid ht
  clear ht
  by_cases h1 : key.size ≤ 200
  · have d1 : decide ((200 : Int) < (key.size : Int)) = false := by simp; omega
    by_cases h2 : s.size ≤ 200
    · have d2 : decide ((200 : Int) < (s.size : Int)) = false := by simp; omega
      have HR := Lib.hid (fun w => refMac_any key s w (by omega) (by omega))
      have HM := Lib.hid (fun w => macSum_any key s w (by omega) (by omega))
      by_cases h3 : n < 1 ∨ 32 < n
      · generalize ba (hmac (bl key) (bl s)) = H at HR HM
        have HS := Lib.hid (fun w => short_bad key s n w h3)
        by_cases h4 : n < 1
        · have d4 : decide (n < 1) = true := by simp; omega
          clear h3
          go_enter Tryd.func3, Tryd.ntmps3
          go_wp2_with fail
          refine (HR.out _).mono ?_
          rintro e w1 ⟨rfl, hb1⟩
          have HB := Lib.hid hb1
          clear hb1
          go_wp2_with fail
          refine (HS.out _).mono ?_
          rintro e w2 ⟨rfl, hb2⟩
          have HB := Lib.hid (HB.out.trans (hb2.mono HB.out.size))
          clear hb2
          go_wp2_with fail
          refine (HM.out _ (HT.out.next HB.out)).mono ?_
          rintro e w3 ⟨rfl, hb3⟩
          have HB := Lib.hid (HB.out.trans (hb3.mono HB.out.size))
          clear hb3
          go_wp2_with fail
          refine (works_any _ (HT.out.next HB.out)).mono ?_
          rintro e w4 ⟨rfl, hb4⟩
          have HB := Lib.hid (HB.out.trans (hb4.mono HB.out.size))
          clear hb4
          go_wp2
          go_ret
          exact ⟨rfl, HB.out⟩
        · have d4 : decide (n < 1) = false := by simp; omega
          have d5 : decide (32 < n) = true := by simp; omega
          clear h3
          go_enter Tryd.func3, Tryd.ntmps3
          go_wp2_with fail
          refine (HR.out _).mono ?_
          rintro e w1 ⟨rfl, hb1⟩
          have HB := Lib.hid hb1
          clear hb1
          go_wp2_with fail
          refine (HS.out _).mono ?_
          rintro e w2 ⟨rfl, hb2⟩
          have HB := Lib.hid (HB.out.trans (hb2.mono HB.out.size))
          clear hb2
          go_wp2_with fail
          refine (HM.out _ (HT.out.next HB.out)).mono ?_
          rintro e w3 ⟨rfl, hb3⟩
          have HB := Lib.hid (HB.out.trans (hb3.mono HB.out.size))
          clear hb3
          go_wp2_with fail
          refine (works_any _ (HT.out.next HB.out)).mono ?_
          rintro e w4 ⟨rfl, hb4⟩
          have HB := Lib.hid (HB.out.trans (hb4.mono HB.out.size))
          clear hb4
          go_wp2
          go_ret
          exact ⟨rfl, HB.out⟩
      · obtain ⟨m, rfl⟩ : ∃ m : Nat, n = m := ⟨n.toNat, by omega⟩
        have h4 : 1 ≤ m := by omega
        have h5 : m ≤ 32 := by omega
        have d4 : decide ((m : Int) < 1) = false := by simp; omega
        have d5 : decide (32 < (m : Int)) = false := by simp; omega
        have HS := Lib.hid (fun w => short_any key s m w h4 h5 (by omega) (by omega))
        have hz : (ba (hmac (bl key) (bl s))).size = 32 := (ba_size _).trans (hmac_len _ _)
        generalize ba (hmac (bl key) (bl s)) = H at HR HM HS hz
        clear h3
        go_enter Tryd.func3, Tryd.ntmps3
        go_wp2_with fail
        refine (HR.out _).mono ?_
        rintro e w1 ⟨rfl, hb1⟩
        have HB := Lib.hid hb1
        clear hb1
        go_wp2_with fail
        refine (HS.out _ (HT.out.next HB.out)).mono ?_
        rintro e w2 ⟨rfl, hb2⟩
        have HB := Lib.hid (HB.out.trans (hb2.mono HB.out.size))
        clear hb2
        go_wp2_with fail
        refine (HM.out _ (HT.out.next HB.out)).mono ?_
        rintro e w3 ⟨rfl, hb3⟩
        have HB := Lib.hid (HB.out.trans (hb3.mono HB.out.size))
        clear hb3
        go_wp2_with fail
        refine (works_any _ (HT.out.next HB.out)).mono ?_
        rintro e w4 ⟨rfl, hb4⟩
        have HB := Lib.hid (HB.out.trans (hb4.mono HB.out.size))
        clear hb4
        go_wp2
        go_ret
        exact ⟨rfl, HB.out⟩
    · have d2 : decide ((200 : Int) < (s.size : Int)) = true := by simp; omega
      go_enter Tryd.func3, Tryd.ntmps3
      go_wp2_with fail
      refine (works_any _ HT.out).mono ?_
      rintro e w4 ⟨rfl, hb4⟩
      have HB := Lib.hid hb4
      clear hb4
      go_wp2
      go_ret
      exact ⟨rfl, HB.out⟩
  · have d1 : decide ((200 : Int) < (key.size : Int)) = true := by simp; omega
    go_enter Tryd.func3, Tryd.ntmps3
    go_wp2_with fail
    refine (works_any _ HT.out).mono ?_
    rintro e w4 ⟨rfl, hb4⟩
    have HB := Lib.hid hb4
    clear hb4
    go_wp2
    go_ret
    exact ⟨rfl, HB.out⟩
end Go.Proofs.YtnndifkilcommaaDoor
