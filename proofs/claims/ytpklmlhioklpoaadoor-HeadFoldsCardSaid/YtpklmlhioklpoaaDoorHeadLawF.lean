/-
  HeadFolds: folded in time.
-/
import Derived.Test.YtpklmlhioklpoaaDoorHeadLawA
import Derived.Test.YtpklmlhioklpoaaDoorHeadFold
namespace Go.Proofs.YtpklmlhioklpoaaDoor.Head
open Go Go.RowKit

theorem bk_eq (c : UInt8) : bk c = (((c.toNat : Int) == 32) || ((c.toNat : Int) == 9)) := by
  unfold bk bkN
  rw [Bool.eq_iff_iff]
  simp only [Bool.or_eq_true, beq_iff_eq]
  omega
theorem ne_eq (a b : Int) : (a != b) = !(a == b) := rfl
set_option maxRecDepth 100000 in
set_option maxHeartbeats 8000000 in
theorem headFolds_any (f : Fd) (w : World) (hm : MaxAt w) : Calls Tryd.prog 7 #[fdV f] w (TrueP w) := by
  have HA : Hid (Below w.heap.size w (w.alloc (boxF rfT f))) := Lib.hid ((Below.refl _ _).alloc (Nat.le_refl _) _)
  have HNB := Lib.hid (new_boxF w rfT f)
  have HZ : Hid (w.heap.size < (w.alloc (boxF rfT f)).heap.size) := Lib.hid (by simp)
  have HW0 := Lib.hid (works_any _ (hm.below HA.out))
  have HM := Lib.hid hm
  have HCE : Hid (∀ W, Below (w.alloc (boxF rfT f)).heap.size (w.alloc (boxF rfT f)) W → W.cell? ⟨w.heap.size, 0, none⟩ = some (.string f.n) ∧ W.cell? ⟨w.heap.size, 0 + 1, none⟩ = some (.string f.v)) := Lib.hid (fun W hb => two (range_below HNB.out HZ.out hb))
  clear hm
  by_cases hs1 : 7 < f.n.size
  · have d1 : (7 : Int) < (f.n.size : Int) := by omega
    go_enter Tryd.func7, Tryd.ntmps7
    go_wp2_with fail
    refine HW0.out.mono ?_
    rintro e w1 ⟨rfl, hb⟩
    have HB1 := Lib.hid (HA.out.trans (hb.mono HA.out.size))
    have HA1 : Hid (Below w1.heap.size w1 (w1.alloc (boxF fdT f))) := Lib.hid ((Below.refl _ _).alloc (Nat.le_refl _) _)
    obtain ⟨c0, c1⟩ := HCE.out w1 hb
    obtain ⟨k0, k1⟩ := HCE.out _ (hb.trans (HA1.out.mono hb.size))
    have HN1 := Lib.hid (two (new_boxF w1 fdT f))
    have HBA := Lib.hid (HB1.out.trans (HA1.out.mono HB1.out.size))
    go_wp2_with fail
    go_ret
    exact ⟨rfl, HBA.out⟩
  have d1 : ¬ (7 : Int) < (f.n.size : Int) := by omega
  by_cases hs2 : 3000 < f.v.size
  · have d2 : (3000 : Int) < (f.v.size : Int) := by omega
    go_enter Tryd.func7, Tryd.ntmps7
    go_wp2_with fail
    refine HW0.out.mono ?_
    rintro e w1 ⟨rfl, hb⟩
    have HB1 := Lib.hid (HA.out.trans (hb.mono HA.out.size))
    have HA1 : Hid (Below w1.heap.size w1 (w1.alloc (boxF fdT f))) := Lib.hid ((Below.refl _ _).alloc (Nat.le_refl _) _)
    obtain ⟨c0, c1⟩ := HCE.out w1 hb
    obtain ⟨k0, k1⟩ := HCE.out _ (hb.trans (HA1.out.mono hb.size))
    have HN1 := Lib.hid (two (new_boxF w1 fdT f))
    have HBA := Lib.hid (HB1.out.trans (HA1.out.mono HB1.out.size))
    go_wp2_with fail
    go_ret
    exact ⟨rfl, HBA.out⟩
  have d2 : ¬ (3000 : Int) < (f.v.size : Int) := by omega
  have HRR := Lib.hid (fun W (h : MaxAt W) => right_any f W (by omega) (by omega) h)
  have HSH := Lib.hid (fun W => show_any f W (by omega) (by omega))
  cases hrb : rightB (bl f.n) (bl f.v)
  · rw [hrb] at HRR
    clear hrb
    go_enter Tryd.func7, Tryd.ntmps7
    go_wp2_with fail
    refine HW0.out.mono ?_
    rintro e w1 ⟨rfl, hb⟩
    have HB1 := Lib.hid (HA.out.trans (hb.mono HA.out.size))
    have HA1 : Hid (Below w1.heap.size w1 (w1.alloc (boxF fdT f))) := Lib.hid ((Below.refl _ _).alloc (Nat.le_refl _) _)
    obtain ⟨c0, c1⟩ := HCE.out w1 hb
    obtain ⟨k0, k1⟩ := HCE.out _ (hb.trans (HA1.out.mono hb.size))
    have HN1 := Lib.hid (two (new_boxF w1 fdT f))
    have HBA := Lib.hid (HB1.out.trans (HA1.out.mono HB1.out.size))
    have HR1 := Lib.hid (HRR.out _ (HM.out.below HBA.out))
    obtain ⟨n0, n1⟩ := HN1.out
    go_wp2_with fail
    refine HR1.out.mono ?_
    rintro e w2 ⟨rfl, hb2⟩
    have HB2 := Lib.hid (HBA.out.trans (hb2.mono HBA.out.size))
    clear hb2
    go_wp2_with fail
    go_ret
    exact ⟨rfl, HB2.out⟩
  · have HRB := Lib.hid hrb
    rw [hrb] at HRR
    clear hrb
    go_enter Tryd.func7, Tryd.ntmps7
    go_wp2_with fail
    refine HW0.out.mono ?_
    rintro e w1 ⟨rfl, hb⟩
    have HB1 := Lib.hid (HA.out.trans (hb.mono HA.out.size))
    have HA1 : Hid (Below w1.heap.size w1 (w1.alloc (boxF fdT f))) := Lib.hid ((Below.refl _ _).alloc (Nat.le_refl _) _)
    obtain ⟨c0, c1⟩ := HCE.out w1 hb
    obtain ⟨k0, k1⟩ := HCE.out _ (hb.trans (HA1.out.mono hb.size))
    have HN1 := Lib.hid (two (new_boxF w1 fdT f))
    have HBA := Lib.hid (HB1.out.trans (HA1.out.mono HB1.out.size))
    have HR1 := Lib.hid (HRR.out _ (HM.out.below HBA.out))
    obtain ⟨n0, n1⟩ := HN1.out
    go_wp2_with fail
    refine HR1.out.mono ?_
    rintro e w3 ⟨rfl, hb2⟩
    have HB3 := Lib.hid (HBA.out.trans (hb2.mono HBA.out.size))
    have H1 := Lib.hid (HCE.out w3 (hb.trans ((HA1.out.trans (hb2.mono HA1.out.size)).mono hb.size)))
    have H2 := Lib.hid (two (range_below (new_boxF w1 fdT f) (by simp) hb2))
    have HS3 := Lib.hid (HSH.out w3)
    clear hb2 hb c0 c1 k0 k1 n0 n1 HSH HRR HR1 HN1 HCE HM HW0
    obtain ⟨c0, c1⟩ := H1.out
    obtain ⟨n0, n1⟩ := H2.out
    go_wp2_with fail
    go_loopw [4, 34] (fun rv i wr => ∃ (k r : Nat) (b : Bool), k ≤ f.v.size ∧ rv = .int .i64 r ∧ i = .int .i64 k ∧ r ≤ 69 ∧ Hid ((k = 0 → b = true) ∧ (∀ h : k - 1 < f.v.size, 0 < k → b = bk (f.v[k - 1]'h)) ∧ runsB 0 true (bl f.v) = runsB r b ((bl f.v).drop k)) ∧ w3 = wr) (fun _ i _ => f.v.size - (intOf i).toNat)
    case atStart => exact ⟨0, 0, true, Nat.zero_le _, rfl, rfl, by omega, Lib.hid ⟨fun _ => rfl, fun _ h => absurd h (by omega), rfl⟩, rfl⟩
    case round =>
      obtain ⟨k, r, b, hk, rfl, rfl, hr69, hI, rfl⟩ := hrel
      by_cases hlt : k < f.v.size
      · have hst := runs_step f.v k r b hlt
        by_cases hk0 : k = 0
        · have d0 : ¬ (0 : Int) < (k : Int) := by omega
          have hbt := hI.out.1 hk0
          rw [if_neg (by rw [hbt]; rintro ⟨_, h⟩; cases h)] at hst
          by_cases hr : r + 1 ≤ 69
          · have e9 : ¬ (69 : Int) < (r : Int) + 1 := by omega
            have HN : Hid ((k + 1 = 0 → bk f.v[k] = true) ∧ (∀ h : k + 1 - 1 < f.v.size, 0 < k + 1 → bk f.v[k] = bk (f.v[k + 1 - 1]'h)) ∧ runsB 0 true (bl f.v) = runsB (r + 1) (bk f.v[k]) ((bl f.v).drop (k + 1))) := Lib.hid ⟨by intro h; omega, by simp only [Nat.add_sub_cancel]; intro _ _; trivial, by rw [hI.out.2.2, hst, decide_eq_true hr, Bool.true_and]⟩
            clear hst
            go_wp2_with fail
            go_roundw
            case rel => exact ⟨k + 1, r + 1, _, by omega, by simp, by first | (simp; done) | (simp [hk0]; done), hr, HN, trivial⟩
            case measure => simp [intOf]; omega
          · have e9 : (69 : Int) < (r : Int) + 1 := by omega
            clear hst
            go_wp2_with fail
            go_ret
            exact ⟨rfl, HB3.out⟩
        · have d0 : (0 : Int) < (k : Int) := by omega
          have hpr : k - 1 < f.v.size := by omega
          have hsub : (k : Int) - 1 = ((k - 1 : Nat) : Int) := by omega
          have hbp := hI.out.2.1 hpr (by omega)
          have hbc := bk_eq f.v[k]
          have hbq := bk_eq (f.v[k - 1]'hpr)
          have q3 := ne_eq ((f.v[k - 1]'hpr).toNat : Int) 32
          have q4 := ne_eq ((f.v[k - 1]'hpr).toNat : Int) 9
          cases h1 : ((f.v[k].toNat : Int) == 32)
          · rw [h1] at hbc
            cases h2 : ((f.v[k].toNat : Int) == 9)
            · rw [h2] at hbc
              have hc0 : bk f.v[k] = false := by rw [hbc]; rfl
              clear hbp hbc hbq q3 q4
              rw [if_neg (by rw [hc0]; rintro ⟨h, _⟩; cases h)] at hst
              by_cases hr : r + 1 ≤ 69
              · have e9 : ¬ (69 : Int) < (r : Int) + 1 := by omega
                have HN : Hid ((k + 1 = 0 → bk f.v[k] = true) ∧ (∀ h : k + 1 - 1 < f.v.size, 0 < k + 1 → bk f.v[k] = bk (f.v[k + 1 - 1]'h)) ∧ runsB 0 true (bl f.v) = runsB (r + 1) (bk f.v[k]) ((bl f.v).drop (k + 1))) := Lib.hid ⟨by intro h; omega, by simp only [Nat.add_sub_cancel]; intro _ _; trivial, by rw [hI.out.2.2, hst, decide_eq_true hr, Bool.true_and]⟩
                clear hst
                go_wp2_with fail
                go_roundw
                case rel => exact ⟨k + 1, r + 1, _, by omega, by simp, by first | (simp; done) | (simp [hk0]; done), hr, HN, trivial⟩
                case measure => simp [intOf]; omega
              · have e9 : (69 : Int) < (r : Int) + 1 := by omega
                clear hst
                go_wp2_with fail
                go_ret
                exact ⟨rfl, HB3.out⟩
            · rw [h2] at hbc
              cases h3 : (((f.v[k - 1]'hpr).toNat : Int) == 32)
              · rw [h3] at q3 hbq
                cases h4 : (((f.v[k - 1]'hpr).toNat : Int) == 9)
                · rw [h4] at q4 hbq
                  have hb0 : b = false := by rw [hbp, hbq]; rfl
                  have hc1 : bk f.v[k] = true := by rw [hbc]; rfl
                  clear hbp hbc hbq
                  rw [if_pos (by exact ⟨hc1, hb0⟩)] at hst
                  have HN : Hid ((k + 1 = 0 → bk f.v[k] = true) ∧ (∀ h : k + 1 - 1 < f.v.size, 0 < k + 1 → bk f.v[k] = bk (f.v[k + 1 - 1]'h)) ∧ runsB 0 true (bl f.v) = runsB 1 (bk f.v[k]) ((bl f.v).drop (k + 1))) := Lib.hid ⟨by intro h; omega, by simp only [Nat.add_sub_cancel]; intro _ _; trivial, by rw [hI.out.2.2, hst, decide_eq_true (by omega), Bool.true_and]⟩
                  clear hst
                  go_wp2_with fail
                  go_roundw
                  case rel => exact ⟨k + 1, 1, _, by omega, rfl, by simp, by omega, HN, trivial⟩
                  case measure => simp [intOf]; omega
                · rw [h4] at q4 hbq
                  have hb0 : b = true := by rw [hbp, hbq]; rfl
                  clear hbp hbc hbq
                  rw [if_neg (by rw [hb0]; rintro ⟨_, h⟩; cases h)] at hst
                  by_cases hr : r + 1 ≤ 69
                  · have e9 : ¬ (69 : Int) < (r : Int) + 1 := by omega
                    have HN : Hid ((k + 1 = 0 → bk f.v[k] = true) ∧ (∀ h : k + 1 - 1 < f.v.size, 0 < k + 1 → bk f.v[k] = bk (f.v[k + 1 - 1]'h)) ∧ runsB 0 true (bl f.v) = runsB (r + 1) (bk f.v[k]) ((bl f.v).drop (k + 1))) := Lib.hid ⟨by intro h; omega, by simp only [Nat.add_sub_cancel]; intro _ _; trivial, by rw [hI.out.2.2, hst, decide_eq_true hr, Bool.true_and]⟩
                    clear hst
                    go_wp2_with fail
                    go_roundw
                    case rel => exact ⟨k + 1, r + 1, _, by omega, by simp, by first | (simp; done) | (simp [hk0]; done), hr, HN, trivial⟩
                    case measure => simp [intOf]; omega
                  · have e9 : (69 : Int) < (r : Int) + 1 := by omega
                    clear hst
                    go_wp2_with fail
                    go_ret
                    exact ⟨rfl, HB3.out⟩
              · rw [h3] at q3 hbq
                have hb0 : b = true := by rw [hbp, hbq]; rfl
                clear hbp hbc hbq
                rw [if_neg (by rw [hb0]; rintro ⟨_, h⟩; cases h)] at hst
                by_cases hr : r + 1 ≤ 69
                · have e9 : ¬ (69 : Int) < (r : Int) + 1 := by omega
                  have HN : Hid ((k + 1 = 0 → bk f.v[k] = true) ∧ (∀ h : k + 1 - 1 < f.v.size, 0 < k + 1 → bk f.v[k] = bk (f.v[k + 1 - 1]'h)) ∧ runsB 0 true (bl f.v) = runsB (r + 1) (bk f.v[k]) ((bl f.v).drop (k + 1))) := Lib.hid ⟨by intro h; omega, by simp only [Nat.add_sub_cancel]; intro _ _; trivial, by rw [hI.out.2.2, hst, decide_eq_true hr, Bool.true_and]⟩
                  clear hst
                  go_wp2_with fail
                  go_roundw
                  case rel => exact ⟨k + 1, r + 1, _, by omega, by simp, by first | (simp; done) | (simp [hk0]; done), hr, HN, trivial⟩
                  case measure => simp [intOf]; omega
                · have e9 : (69 : Int) < (r : Int) + 1 := by omega
                  clear hst
                  go_wp2_with fail
                  go_ret
                  exact ⟨rfl, HB3.out⟩
          · rw [h1] at hbc
            cases h3 : (((f.v[k - 1]'hpr).toNat : Int) == 32)
            · rw [h3] at q3 hbq
              cases h4 : (((f.v[k - 1]'hpr).toNat : Int) == 9)
              · rw [h4] at q4 hbq
                have hb0 : b = false := by rw [hbp, hbq]; rfl
                have hc1 : bk f.v[k] = true := by rw [hbc]; rfl
                clear hbp hbc hbq
                rw [if_pos (by exact ⟨hc1, hb0⟩)] at hst
                have HN : Hid ((k + 1 = 0 → bk f.v[k] = true) ∧ (∀ h : k + 1 - 1 < f.v.size, 0 < k + 1 → bk f.v[k] = bk (f.v[k + 1 - 1]'h)) ∧ runsB 0 true (bl f.v) = runsB 1 (bk f.v[k]) ((bl f.v).drop (k + 1))) := Lib.hid ⟨by intro h; omega, by simp only [Nat.add_sub_cancel]; intro _ _; trivial, by rw [hI.out.2.2, hst, decide_eq_true (by omega), Bool.true_and]⟩
                clear hst
                go_wp2_with fail
                go_roundw
                case rel => exact ⟨k + 1, 1, _, by omega, rfl, by simp, by omega, HN, trivial⟩
                case measure => simp [intOf]; omega
              · rw [h4] at q4 hbq
                have hb0 : b = true := by rw [hbp, hbq]; rfl
                clear hbp hbc hbq
                rw [if_neg (by rw [hb0]; rintro ⟨_, h⟩; cases h)] at hst
                by_cases hr : r + 1 ≤ 69
                · have e9 : ¬ (69 : Int) < (r : Int) + 1 := by omega
                  have HN : Hid ((k + 1 = 0 → bk f.v[k] = true) ∧ (∀ h : k + 1 - 1 < f.v.size, 0 < k + 1 → bk f.v[k] = bk (f.v[k + 1 - 1]'h)) ∧ runsB 0 true (bl f.v) = runsB (r + 1) (bk f.v[k]) ((bl f.v).drop (k + 1))) := Lib.hid ⟨by intro h; omega, by simp only [Nat.add_sub_cancel]; intro _ _; trivial, by rw [hI.out.2.2, hst, decide_eq_true hr, Bool.true_and]⟩
                  clear hst
                  go_wp2_with fail
                  go_roundw
                  case rel => exact ⟨k + 1, r + 1, _, by omega, by simp, by first | (simp; done) | (simp [hk0]; done), hr, HN, trivial⟩
                  case measure => simp [intOf]; omega
                · have e9 : (69 : Int) < (r : Int) + 1 := by omega
                  clear hst
                  go_wp2_with fail
                  go_ret
                  exact ⟨rfl, HB3.out⟩
            · rw [h3] at q3 hbq
              have hb0 : b = true := by rw [hbp, hbq]; rfl
              clear hbp hbc hbq
              rw [if_neg (by rw [hb0]; rintro ⟨_, h⟩; cases h)] at hst
              by_cases hr : r + 1 ≤ 69
              · have e9 : ¬ (69 : Int) < (r : Int) + 1 := by omega
                have HN : Hid ((k + 1 = 0 → bk f.v[k] = true) ∧ (∀ h : k + 1 - 1 < f.v.size, 0 < k + 1 → bk f.v[k] = bk (f.v[k + 1 - 1]'h)) ∧ runsB 0 true (bl f.v) = runsB (r + 1) (bk f.v[k]) ((bl f.v).drop (k + 1))) := Lib.hid ⟨by intro h; omega, by simp only [Nat.add_sub_cancel]; intro _ _; trivial, by rw [hI.out.2.2, hst, decide_eq_true hr, Bool.true_and]⟩
                clear hst
                go_wp2_with fail
                go_roundw
                case rel => exact ⟨k + 1, r + 1, _, by omega, by simp, by first | (simp; done) | (simp [hk0]; done), hr, HN, trivial⟩
                case measure => simp [intOf]; omega
              · have e9 : (69 : Int) < (r : Int) + 1 := by omega
                clear hst
                go_wp2_with fail
                go_ret
                exact ⟨rfl, HB3.out⟩
      · have HRU : Hid (runsB 0 true (bl f.v) = true) := Lib.hid (by
          rw [hI.out.2.2, List.drop_of_length_le (by rw [bl_len]; omega)]
          rfl)
        have HST := Lib.hid (st_start HRB.out (by rw [bl_len]; omega) HRU.out)
        have hsl : (showL (bl f.n) (bl f.v)).length ≤ 10000 := by
          have := showL_len (bl f.n) (bl f.v)
          rw [bl_len, bl_len] at this
          omega
        rw [← ba_size] at hsl
        clear hI HRU HRB
        generalize ba (showL (bl f.n) (bl f.v)) = s at *
        go_wp2_with fail
        refine HS3.out.mono ?_
        rintro e w4 ⟨rfl, hb4⟩
        have HB4 := Lib.hid (HB3.out.trans (hb4.mono HB3.out.size))
        clear hb4
        go_wp2_with fail
        go_loopw [7, 8] (fun av i wr => ∃ a k : Nat, k ≤ s.size ∧ av = .int .i64 a ∧ i = .int .i64 k ∧ Hid (a ≤ s.size ∧ St s k a) ∧ w4 = wr) (fun _ i _ => s.size - (intOf i).toNat)
        case atStart => exact ⟨0, 0, Nat.zero_le _, rfl, rfl, Lib.hid ⟨Nat.zero_le _, HST.out⟩, rfl⟩
        case round =>
          obtain ⟨a, k, hks, rfl, rfl, hA, rfl⟩ := hrel
          have has := hA.out.1
          by_cases hl2 : k + 1 < s.size
          · have e1 : (k : Int) + 1 < (s.size : Int) := by omega
            have hlk : k < s.size := by omega
            by_cases h13 : s[k] = 13
            · have d13 : ((s[k].toNat : Int) != 13) = false := by rw [h13]; rfl
              obtain ⟨hak, h78, hbk, hst⟩ := st_line hA.out.2 hl2 h13
              have HN : Hid (k + 2 ≤ s.size ∧ St s (k + 1) (k + 2)) := Lib.hid ⟨by omega, hst⟩
              have d78 : ¬ (78 : Int) < (k : Int) - (a : Int) := by omega
              clear hst h13
              by_cases ha : 0 < a
              · have d0 : (0 : Int) < (a : Int) := by omega
                obtain ⟨hasz, hb⟩ := hbk ha
                rw [bk_eq] at hb
                have q3 := ne_eq (s[a].toNat : Int) 32
                have q4 := ne_eq (s[a].toNat : Int) 9
                cases h3 : ((s[a].toNat : Int) == 32)
                · rw [h3] at hb q3
                  rw [Bool.false_or] at hb
                  rw [hb] at q4
                  clear hbk
                  go_wp2_with fail
                  go_roundw
                  case rel => exact ⟨k + 2, k + 1, by omega, by simp, by simp, HN, trivial⟩
                  case measure => simp [intOf]; omega
                · rw [h3] at q3
                  clear hbk hb q4
                  go_wp2_with fail
                  go_roundw
                  case rel => exact ⟨k + 2, k + 1, by omega, by simp, by simp, HN, trivial⟩
                  case measure => simp [intOf]; omega
              · have d0 : ¬ (0 : Int) < (a : Int) := by omega
                clear hbk
                go_wp2_with fail
                go_roundw
                case rel => exact ⟨k + 2, k + 1, by omega, by simp, by simp, HN, trivial⟩
                case measure => simp [intOf]; omega
            · have d13 : ((s[k].toNat : Int) != 13) = true := by
                rw [bne_iff_ne]
                intro h
                exact h13 (UInt8.toNat_inj.1 (by show s[k].toNat = 13; omega))
              have HN : Hid (a ≤ s.size ∧ St s (k + 1) a) := Lib.hid ⟨has, st_on hA.out.2 hl2 h13⟩
              go_wp2_with fail
              go_roundw
              case rel => exact ⟨a, k + 1, by omega, by simp, by simp, HN, trivial⟩
              case measure => simp [intOf]; omega
          · have e1 : ¬ (k : Int) + 1 < (s.size : Int) := by omega
            have ea := st_end hA.out.2 hl2
            clear hA has
            subst ea
            go_wp2_with fail
            go_ret
            exact ⟨rfl, HB4.out⟩
end Go.Proofs.YtpklmlhioklpoaaDoor.Head
