/-
  Walks: isName, isField, check.
-/
import Derived.Test.YtpklmlhioklpoaaDoorHeadBase
namespace Go.Proofs.YtpklmlhioklpoaaDoor.Head
open Go Go.RowKit

theorem nameB_all {l : List UInt8} (h : l.all nm = false) : nameB l = false := by unfold nameB; rw [h]; simp
set_option maxRecDepth 100000 in
set_option maxHeartbeats 1000000 in
theorem name_any (s : ByteArray) (w : World) (hs : s.size ≤ 1000000000) :
    Calls Tryd.prog 42 #[.string s] w fun e w' => e = .returned (.bool (nameB (bl s))) ∧ w = w' := by
  go_enter Tryd.func42, Tryd.ntmps42
  go_wp2_with fail
  go_loopw [6] (fun i wr => ∃ k : Nat, k ≤ s.size ∧ i = .int .i64 k ∧ Hid ((bl s).all nm = ((bl s).drop k).all nm) ∧ w = wr) (fun i _ => s.size - (intOf i).toNat)
  case atStart => exact ⟨0, Nat.zero_le _, rfl, Lib.hid rfl, rfl⟩
  case round =>
    obtain ⟨k, hk, rfl, hE, rfl⟩ := hrel
    by_cases hlt : k < s.size
    · have hst := all_step (p := nm) s k hlt
      have h8 := s[k].toNat_lt
      have hnm : nm s[k] = !(decide (s[k].toNat < 33) || (decide (126 < s[k].toNat) || s[k].toNat == 58)) := rfl
      by_cases c1 : s[k].toNat < 33
      · have d1 : ((s[k].toNat : Int) < 33) := by omega
        have HN : Hid (nameB (bl s) = false) := Lib.hid (nameB_all (by rw [hE.out, hst, hnm]; simp [c1]))
        clear hst hnm
        go_wp2_with fail
        go_ret
        rw [HN.out]
        exact ⟨rfl, rfl⟩
      · have d1 : ¬ ((s[k].toNat : Int) < 33) := by omega
        by_cases c2 : 126 < s[k].toNat
        · have d2 : (126 : Int) < (s[k].toNat : Int) := by omega
          have HN : Hid (nameB (bl s) = false) := Lib.hid (nameB_all (by rw [hE.out, hst, hnm]; simp [c1, c2]))
          clear hst hnm
          go_wp2_with fail
          go_ret
          rw [HN.out]
          exact ⟨rfl, rfl⟩
        · have d2 : ¬ (126 : Int) < (s[k].toNat : Int) := by omega
          by_cases c3 : s[k].toNat = 58
          · have d3 : ((s[k].toNat : Int) == 58) = true := by rw [c3]; rfl
            have HN : Hid (nameB (bl s) = false) := Lib.hid (nameB_all (by rw [hE.out, hst, hnm, c3]; simp))
            clear hst hnm
            go_wp2_with fail
            go_ret
            rw [HN.out]
            exact ⟨rfl, rfl⟩
          · have d3 : ((s[k].toNat : Int) == 58) = false := by rw [beq_eq_false_iff_ne]; omega
            have HN : Hid ((bl s).all nm = ((bl s).drop (k + 1)).all nm) := Lib.hid (by rw [hE.out, hst, hnm]; simp [c1, c2, c3])
            clear hst hnm
            go_wp2_with fail
            go_roundw
            case rel => exact ⟨k + 1, by omega, by simp, HN, trivial⟩
            case measure => simp [intOf]; omega
    · have hq := empty_any s
      have HN : Hid (nameB (bl s) = (!(bl s).isEmpty && decide (s.size ≤ 76))) := Lib.hid (by
        unfold nameB
        rw [hE.out, drop_end s k hlt, bl_len]
        simp)
      cases he : (bl s).isEmpty
      · rw [he] at hq HN
        by_cases c : s.size ≤ 76
        · have d : (s.size : Int) ≤ 76 := by omega
          rw [decide_eq_true c] at HN
          go_wp2_with fail
          go_ret
          exact ⟨ret_bool (by rw [HN.out]; rfl), rfl⟩
        · have d : ¬ (s.size : Int) ≤ 76 := by omega
          rw [decide_eq_false c] at HN
          go_wp2_with fail
          go_ret
          exact ⟨ret_bool (by rw [HN.out]; rfl), rfl⟩
      · rw [he] at hq HN
        go_wp2_with fail
        go_ret
        exact ⟨ret_bool (by rw [HN.out]; rfl), rfl⟩
set_option maxRecDepth 100000 in
set_option maxHeartbeats 1000000 in
theorem field_any (s : ByteArray) (w : World) (hs : s.size ≤ 1000000000) (hm : MaxAt w) :
    Calls Tryd.prog 52 #[.string s] w fun e w' => e = .returned (.bool (fieldB (bl s))) ∧ Below w.heap.size w w' := by
  have HC := Lib.hid (fun W (h : MaxAt W) => cutC_any s W hs h)
  have HM := Lib.hid hm
  have hp : (pre (bl s)).length ≤ s.size := by
    unfold pre
    have := (List.takeWhile_sublist (fun x : UInt8 => x != 58) (l := bl s)).length_le
    rw [bl_len] at this
    exact this
  have HN := Lib.hid (fun W => name_any (ba (pre (bl s))) W (by rw [ba_size]; omega))
  rw [bl_ba] at HN
  have HF : Hid (fieldB (bl s) = ((bl s).contains 58 && nameB (pre (bl s)))) := Lib.hid rfl
  generalize fieldB (bl s) = fb at *
  generalize nameB (pre (bl s)) = nb at *
  generalize (bl s).contains 58 = cb at *
  generalize ba (pre (bl s)) = p at *
  generalize ba (post (bl s)) = q at *
  clear hm hp
  go_enter Tryd.func52, Tryd.ntmps52
  go_wp2_with fail
  refine (HC.out _ HM.out).mono ?_
  rintro e w1 ⟨rfl, hb⟩
  have HB := Lib.hid hb
  clear hb
  cases cb
  · go_wp2_with fail
    go_ret
    exact ⟨ret_bool (by rw [HF.out]; rfl), HB.out⟩
  · go_wp2_with fail
    refine (HN.out _).mono ?_
    rintro e w2 ⟨rfl, rfl⟩
    go_wp2_with fail
    go_ret
    exact ⟨ret_bool (by rw [HF.out]; rfl), HB.out⟩
theorem hd_get (s : ByteArray) (h : 0 < s.size) : hdB (bl s) = bk s[0] := by
  have := drop_cons s 0 h
  rw [List.drop_zero] at this
  rw [this]
  rfl
set_option maxRecDepth 100000 in
set_option maxHeartbeats 2000000 in
theorem check_any (s : ByteArray) (k : Nat) (w : World) (h0 : 0 < s.size) (hs : s.size ≤ 1000000000) (_hk : k ≤ 1000000) (hm : MaxAt w) :
    Calls Tryd.prog 30 #[.string s, .int .i64 k] w fun e w' => e = .returned (.int .i64 (chk (bl s) k)) ∧ Below w.heap.size w w' := by
  have HB := Lib.hid (fun W => blank_any s[0] W)
  have HT := Lib.hid (fun W => text_any s W hs)
  have HF := Lib.hid (fun W (h : MaxAt W) => field_any s W hs h)
  have HM := Lib.hid hm
  have hc : chk (bl s) k = if 998 < s.size then 2 else if textB (bl s) = false then 150 else if bk s[0] = true then (if k = 0 then 150 else 0) else if fieldB (bl s) = false then 150 else if k = 100 then 8 else 0 := by
    unfold chk
    rw [bl_len, hd_get s h0]
  have HCK := Lib.hid hc
  generalize chk (bl s) k = ck at *
  clear hm hc
  by_cases c1 : 998 < s.size
  · have d1 : (998 : Int) < (s.size : Int) := by omega
    rw [if_pos c1] at HCK
    generalize bk s[0] = hb at *
    go_enter Tryd.func30, Tryd.ntmps30
    go_wp2_with fail
    refine (HB.out _).mono ?_
    rintro e w1 ⟨rfl, rfl⟩
    go_wp2_with fail
    go_ret
    rw [HCK.out]
    exact ⟨rfl, Below.refl _ _⟩
  · have d1 : ¬ (998 : Int) < (s.size : Int) := by omega
    rw [if_neg c1] at HCK
    cases c2 : textB (bl s)
    · rw [c2] at HT HCK
      generalize bk s[0] = hb at *
      go_enter Tryd.func30, Tryd.ntmps30
      go_wp2_with fail
      refine (HB.out _).mono ?_
      rintro e w1 ⟨rfl, rfl⟩
      go_wp2_with fail
      refine (HT.out _).mono ?_
      rintro e w2 ⟨rfl, rfl⟩
      go_wp2_with fail
      go_ret
      rw [HCK.out]
      exact ⟨rfl, Below.refl _ _⟩
    · rw [c2] at HT HCK
      cases c3 : bk s[0]
      · rw [c3] at HB HCK
        cases c4 : fieldB (bl s)
        · rw [c4] at HF HCK
          clear c1 c2 c3 c4
          go_enter Tryd.func30, Tryd.ntmps30
          go_wp2_with fail
          refine (HB.out _).mono ?_
          rintro e w1 ⟨rfl, rfl⟩
          go_wp2_with fail
          refine (HT.out _).mono ?_
          rintro e w2 ⟨rfl, rfl⟩
          go_wp2_with fail
          refine (HF.out _ HM.out).mono ?_
          rintro e w3 ⟨rfl, hb⟩
          have HB3 := Lib.hid hb
          clear hb
          go_wp2_with fail
          go_ret
          rw [HCK.out]
          exact ⟨rfl, HB3.out⟩
        · rw [c4] at HF HCK
          have hq : ((k : Int) == 100) = decide (k = 100) := by
            rw [Bool.eq_iff_iff, beq_iff_eq, decide_eq_true_iff]
            omega
          by_cases c5 : k = 100
          · rw [decide_eq_true c5] at hq
            rw [if_pos c5] at HCK
            clear c1 c2 c3 c4 c5
            go_enter Tryd.func30, Tryd.ntmps30
            go_wp2_with fail
            refine (HB.out _).mono ?_
            rintro e w1 ⟨rfl, rfl⟩
            go_wp2_with fail
            refine (HT.out _).mono ?_
            rintro e w2 ⟨rfl, rfl⟩
            go_wp2_with fail
            refine (HF.out _ HM.out).mono ?_
            rintro e w3 ⟨rfl, hb⟩
            have HB3 := Lib.hid hb
            clear hb
            go_wp2_with fail
            go_ret
            rw [HCK.out]
            exact ⟨rfl, HB3.out⟩
          · rw [decide_eq_false c5] at hq
            rw [if_neg c5] at HCK
            clear c1 c2 c3 c4 c5
            go_enter Tryd.func30, Tryd.ntmps30
            go_wp2_with fail
            refine (HB.out _).mono ?_
            rintro e w1 ⟨rfl, rfl⟩
            go_wp2_with fail
            refine (HT.out _).mono ?_
            rintro e w2 ⟨rfl, rfl⟩
            go_wp2_with fail
            refine (HF.out _ HM.out).mono ?_
            rintro e w3 ⟨rfl, hb⟩
            have HB3 := Lib.hid hb
            clear hb
            go_wp2_with fail
            go_ret
            rw [HCK.out]
            exact ⟨rfl, HB3.out⟩
      · rw [c3] at HB HCK
        have hq : ((k : Int) == 0) = decide (k = 0) := by
          rw [Bool.eq_iff_iff, beq_iff_eq, decide_eq_true_iff]
          omega
        by_cases c5 : k = 0
        · rw [decide_eq_true c5] at hq
          rw [if_pos rfl, if_pos c5] at HCK
          clear c1 c2 c3 c5
          go_enter Tryd.func30, Tryd.ntmps30
          go_wp2_with fail
          refine (HB.out _).mono ?_
          rintro e w1 ⟨rfl, rfl⟩
          go_wp2_with fail
          refine (HT.out _).mono ?_
          rintro e w2 ⟨rfl, rfl⟩
          go_wp2_with fail
          go_ret
          rw [HCK.out]
          exact ⟨rfl, Below.refl _ _⟩
        · rw [decide_eq_false c5] at hq
          rw [if_pos rfl, if_neg c5] at HCK
          clear c1 c2 c3 c5
          go_enter Tryd.func30, Tryd.ntmps30
          go_wp2_with fail
          refine (HB.out _).mono ?_
          rintro e w1 ⟨rfl, rfl⟩
          go_wp2_with fail
          refine (HT.out _).mono ?_
          rintro e w2 ⟨rfl, rfl⟩
          go_wp2_with fail
          go_ret
          rw [HCK.out]
          exact ⟨rfl, Below.refl _ _⟩
end Go.Proofs.YtpklmlhioklpoaaDoor.Head
