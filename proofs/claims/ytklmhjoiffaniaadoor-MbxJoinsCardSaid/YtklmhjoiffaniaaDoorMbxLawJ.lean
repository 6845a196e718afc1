/-
  The law MbxJoins walked.
-/
import Derived.Test.YtklmhjoiffaniaaDoorMbxLawA
import Derived.Test.YtklmhjoiffaniaaDoorMbxSide
namespace Go.Proofs.YtklmhjoiffaniaaDoor.Mbx
open Go Go.RowKit
open Go.Proofs.YtklmhjoiffaniaaDoor.Lex
open Go.Proofs.YtklmhjoiffaniaaDoor.Sha (Kept wp_region_kept wp_region_kept_tail quiet_load_row)

theorem bl_side (a b : ByteArray) : bl (a ++ (⟨#[32, 44, 32]⟩ : ByteArray) ++ b) = bl a ++ ([32, 44, 32] ++ bl b) := by
  conv => lhs; rw [← ba_bl a, ← ba_bl b]
  rw [show (⟨#[32, 44, 32]⟩ : ByteArray) = ba [32, 44, 32] from rfl, Addr.ba_cat, Addr.ba_cat, bl_ba]
  simp
set_option maxRecDepth 100000 in
set_option maxHeartbeats 8000000 in
theorem mbxJoins_any (a b : ByteArray) (w : World) :
    Calls Tryd.prog 7 #[.string a, .string b] w (TrueP w) := by
  have HW := Lib.hid (works_any w)
  by_cases hz1 : 1000 < a.size
  · go_enter Tryd.func7, Tryd.ntmps7
    go_wp2_with fail
    refine HW.out.mono ?_
    rintro e w1 ⟨rfl, hb⟩
    have HB := Lib.hid hb
    clear hb
    go_wp2_with fail
    go_ret
    exact ⟨rfl, HB.out⟩
  by_cases hz2 : 1000 < b.size
  · go_enter Tryd.func7, Tryd.ntmps7
    go_wp2_with fail
    refine HW.out.mono ?_
    rintro e w1 ⟨rfl, hb⟩
    have HB := Lib.hid hb
    clear hb
    go_wp2_with fail
    go_ret
    exact ⟨rfl, HB.out⟩
  have hle : ∀ s : ByteArray, (readL (bl s)).2.length ≤ 100 := fun s => by
    by_cases h : (readL (bl s)).1 = 0
    · exact (read_good h).2.1
    · rw [read_none h]; simp
  have hl1 := hle a
  have hl2 := hle b
  have HRA := Lib.hid (fun W => read_any a W (by omega))
  have HRB := Lib.hid (fun W => read_any b W (by omega))
  have hside : (readL (bl a)).1 = 0 → (readL (bl b)).1 = 0 → (readL (bl a)).2.length + (readL (bl b)).2.length ≤ 100 → readL (bl (a ++ (⟨#[32, 44, 32]⟩ : ByteArray) ++ b)) = (0, (readL (bl a)).2 ++ (readL (bl b)).2) := fun h1 h2 h3 => by
    rw [bl_side]
    exact read_side (by rw [← h1]) (by rw [← h2]) h3
  have hzc : (a ++ (⟨#[32, 44, 32]⟩ : ByteArray) ++ b).size ≤ 50000 := by
    rw [← bl_len, bl_side]
    simp only [List.length_append, bl_len, List.length_cons, List.length_nil]
    omega
  have HRC := Lib.hid (fun W => read_any (a ++ (⟨#[32, 44, 32]⟩ : ByteArray) ++ b) W hzc)
  have HSIDE := Lib.hid hside
  clear hle hside hzc
  generalize readL (bl a) = R1 at *
  generalize readL (bl b) = R2 at *
  obtain ⟨p, hp⟩ : ∃ p, p = R1.2.length := ⟨_, rfl⟩
  obtain ⟨q, hq⟩ : ∃ q, q = R2.2.length := ⟨_, rfl⟩
  rw [← hp] at hl1
  rw [← hq] at hl2
  have HA2 : Hid (∀ W, Calls Tryd.prog 9 #[.string a] W fun e w' => ∃ va vc, e = .returned (.tuple #[.slice va p vc, .int .i64 R1.1]) ∧ ReadsB w' (.slice va p vc) R1.2 ∧ Below W.heap.size W w') := Lib.hid (fun W => (HRA.out W).mono fun e w' he => by
    obtain ⟨v, he, hr, hb⟩ := he
    obtain ⟨va, vc, rfl⟩ := hr.shape
    rw [hp]
    exact ⟨va, vc, he, hr, hb⟩)
  have HB2 : Hid (∀ W, Calls Tryd.prog 9 #[.string b] W fun e w' => ∃ va vc, e = .returned (.tuple #[.slice va q vc, .int .i64 R2.1]) ∧ ReadsB w' (.slice va q vc) R2.2 ∧ Below W.heap.size W w') := Lib.hid (fun W => (HRB.out W).mono fun e w' he => by
    obtain ⟨v, he, hr, hb⟩ := he
    obtain ⟨va, vc, rfl⟩ := hr.shape
    rw [hq]
    exact ⟨va, vc, he, hr, hb⟩)
  clear HRA HRB
  by_cases h1 : R1.1 = 0
  rotate_left
  · have q1 : ((R1.1 : Int) != 0) = true := int_ne h1
    clear h1 hp hq
    go_enter Tryd.func7, Tryd.ntmps7
    go_wp2_with fail
    refine HW.out.mono ?_
    rintro e w1 ⟨rfl, hb⟩
    have HB := Lib.hid hb
    clear hb
    go_wp2_with fail
    refine (HA2.out _).mono ?_
    rintro e w2 ⟨va, vc, rfl, -, hb⟩
    have HBB := Lib.hid (HB.out.trans (hb.mono HB.out.size))
    clear hb
    go_wp2_with fail
    refine (HB2.out _).mono ?_
    rintro e w3 ⟨vb, vd, rfl, -, hb⟩
    have HBC := Lib.hid (HBB.out.trans (hb.mono HBB.out.size))
    clear hb
    go_wp2_with fail
    go_ret
    exact ⟨rfl, HBC.out⟩
  by_cases h2 : R2.1 = 0
  rotate_left
  · have q1 : ((R1.1 : Int) != 0) = false := by rw [h1]; rfl
    have q2 : ((R2.1 : Int) != 0) = true := int_ne h2
    clear h1 h2 hp hq
    go_enter Tryd.func7, Tryd.ntmps7
    go_wp2_with fail
    refine HW.out.mono ?_
    rintro e w1 ⟨rfl, hb⟩
    have HB := Lib.hid hb
    clear hb
    go_wp2_with fail
    refine (HA2.out _).mono ?_
    rintro e w2 ⟨va, vc, rfl, -, hb⟩
    have HBB := Lib.hid (HB.out.trans (hb.mono HB.out.size))
    clear hb
    go_wp2_with fail
    refine (HB2.out _).mono ?_
    rintro e w3 ⟨vb, vd, rfl, -, hb⟩
    have HBC := Lib.hid (HBB.out.trans (hb.mono HBB.out.size))
    clear hb
    go_wp2_with fail
    go_ret
    exact ⟨rfl, HBC.out⟩
  have q1 : ((R1.1 : Int) != 0) = false := by rw [h1]; rfl
  have q2 : ((R2.1 : Int) != 0) = false := by rw [h2]; rfl
  by_cases h3 : 100 < p + q
  · clear h1 h2 hp hq
    go_enter Tryd.func7, Tryd.ntmps7
    go_wp2_with fail
    refine HW.out.mono ?_
    rintro e w1 ⟨rfl, hb⟩
    have HB := Lib.hid hb
    clear hb
    go_wp2_with fail
    refine (HA2.out _).mono ?_
    rintro e w2 ⟨va, vc, rfl, -, hb⟩
    have HBB := Lib.hid (HB.out.trans (hb.mono HB.out.size))
    clear hb
    go_wp2_with fail
    refine (HB2.out _).mono ?_
    rintro e w3 ⟨vb, vd, rfl, -, hb⟩
    have HBC := Lib.hid (HBB.out.trans (hb.mono HBB.out.size))
    clear hb
    go_wp2_with fail
    go_ret
    exact ⟨rfl, HBC.out⟩
  · have hc := HSIDE.out h1 h2 (by omega)
    have HC2 : Hid (∀ W, Calls Tryd.prog 9 #[.string (a ++ (⟨#[32, 44, 32]⟩ : ByteArray) ++ b)] W fun e w' => ∃ va vc, e = .returned (.tuple #[.slice va (p + q) vc, .int .i64 0]) ∧ ReadsB w' (.slice va (p + q) vc) (R1.2 ++ R2.2) ∧ Below W.heap.size W w') := Lib.hid (fun W => (HRC.out W).mono fun e w' he => by
      obtain ⟨v, he, hr, hb⟩ := he
      rw [hc] at he hr
      obtain ⟨va, vc, rfl⟩ := hr.shape
      rw [List.length_append, ← hp, ← hq] at he hr
      exact ⟨va, vc, he, hr, hb⟩)
    have HP := Lib.hid hp
    have HQ := Lib.hid hq
    clear h1 h2 hp hq hc HRC HSIDE
    generalize R1.2 = X at *
    generalize R2.2 = Y at *
    go_enter Tryd.func7, Tryd.ntmps7
    go_wp2_with fail
    refine HW.out.mono ?_
    rintro e w1 ⟨rfl, hb⟩
    have HB := Lib.hid hb
    clear hb
    go_wp2_with fail
    refine (HA2.out _).mono ?_
    rintro e w2 ⟨va, vc, rfl, hr, hb⟩
    have HBB := Lib.hid (HB.out.trans (hb.mono HB.out.size))
    have HXA := Lib.hid hr
    clear hb hr
    go_wp2_with fail
    refine (HB2.out _).mono ?_
    rintro e w3 ⟨vb, vd, rfl, hr, hb⟩
    have HBC := Lib.hid (HBB.out.trans (hb.mono HBB.out.size))
    have HXB := Lib.hid (HXA.out.below hb)
    have HYB := Lib.hid hr
    clear hb hr
    go_wp2_with fail
    refine (HC2.out _).mono ?_
    rintro e w4 ⟨vz, ve, rfl, hr, hb⟩
    have HBD := Lib.hid (HBC.out.trans (hb.mono HBC.out.size))
    have HX := Lib.hid (fun k a ha => (HXB.out.below hb).at_ k a ha)
    have HY := Lib.hid (fun k a ha => (HYB.out.below hb).at_ k a ha)
    have HZ := Lib.hid (fun k a ha => hr.at_ k a ha)
    clear hb hr
    go_wp2_with fail
    go_loopw [68] (fun i wr => ∃ k : Nat, k ≤ p + q ∧ i = .int .i64 k ∧ Hid (Below w4.heap.size w4 wr)) (fun i _ => p + q - (intOf i).toNat)
    case atStart => exact ⟨0, Nat.zero_le _, rfl, Lib.hid (Below.refl _ _)⟩
    case round =>
      obtain ⟨k, hk, rfl, hB⟩ := hrel
      by_cases hlt : k < p + q
      · by_cases hkp : k < p
        · obtain ⟨x, hx⟩ : ∃ a, X[k]? = some a := ⟨X[k]'(by have := HP.out; omega), List.getElem?_eq_getElem _⟩
          obtain ⟨b1, o1, rfl, hb1, r1⟩ := HX.out k x hx
          obtain ⟨b2, o2, rfl, hb2, r2⟩ := HZ.out k x (by rw [List.getElem?_append_left (by have := HP.out; omega)]; exact hx)
          have HK1 : Hid (∀ W, Kept wr W → W.rangeAt b1 (o1 + k * 3) (bxC x)) := Lib.hid (fun W hk => range_below r1 hb1 (hB.out.trans (hk.below.mono hB.out.size)))
          have HK2 : Hid (∀ W, Kept wr W → W.rangeAt b2 (o2 + k * 3) (bxC x)) := Lib.hid (fun W hk => range_below r2 hb2 (hB.out.trans (hk.below.mono hB.out.size)))
          have HQ0 : Hid (∀ W, (binOp .neq bxT (bxV x) (bxV x)).run Tryd.prog W = .ok (.bool false) W) := Lib.hid (fun W => by rw [neq_bx, beqB_self]; rfl)
          have t1 : decide ((k : Int) < (p : Int)) = true := decide_eq_true (by omega)
          have t1' : decide (k < p) = true := decide_eq_true hkp
          have t2 : decide ((p : Int) ≤ (k : Int)) = false := decide_eq_false (by omega)
          have t2' : decide (p ≤ k) = false := decide_eq_false (by omega)
          clear r1 r2 hx
          go_wp2_with fail
          refine wp_region_kept (by kernel_rfl) (by kernel_rfl) ?_
          repeat (first
            | (go_big_quiet_want
               first
                 | refine quiet_neq_bx (.tmp 79) (.tmp 83) x x false HQ0.out rfl rfl rfl ?_
                 | refine quiet_load_row bxT (.tmp 78) rfl b2 (o2 + k * 3) rfl (bxC x) _ HK2.out Tryd.underlying33 rfl sizeB ?_
                 | refine quiet_load_row bxT (.tmp 82) rfl b1 (o1 + k * 3) rfl (bxC x) _ HK1.out Tryd.underlying33 rfl sizeB ?_
               go_simp
               go_big_quiet_on)
            | (go_big_quiet_step ((exact fun _ => rfl))))
          refine wpQuiet_nil ?_
          intro W2 hk2
          have HB8 := Lib.hid (hB.out.trans (hk2.below.mono hB.out.size))
          clear hk2
          go_wp2_with fail
          go_roundw
          case rel => exact ⟨k + 1, by omega, by simp, HB8⟩
          case measure => simp [intOf]; omega
        · obtain ⟨j, hj⟩ : ∃ j, k = p + j := ⟨k - p, by omega⟩
          obtain ⟨x, hx⟩ : ∃ a, Y[j]? = some a := ⟨Y[j]'(by have := HQ.out; omega), List.getElem?_eq_getElem _⟩
          obtain ⟨b1, o1, rfl, hb1, r1⟩ := HY.out j x hx
          obtain ⟨b2, o2, rfl, hb2, r2⟩ := HZ.out k x (by rw [List.getElem?_append_right (by have := HP.out; omega), ← HP.out, show k - p = j by omega]; exact hx)
          have HK1 : Hid (∀ W, Kept wr W → W.rangeAt b1 (o1 + j * 3) (bxC x)) := Lib.hid (fun W hk => range_below r1 hb1 (hB.out.trans (hk.below.mono hB.out.size)))
          have HK2 : Hid (∀ W, Kept wr W → W.rangeAt b2 (o2 + k * 3) (bxC x)) := Lib.hid (fun W hk => range_below r2 hb2 (hB.out.trans (hk.below.mono hB.out.size)))
          have HQ0 : Hid (∀ W, (binOp .neq bxT (bxV x) (bxV x)).run Tryd.prog W = .ok (.bool false) W) := Lib.hid (fun W => by rw [neq_bx, beqB_self]; rfl)
          have t1 : decide ((k : Int) < (p : Int)) = false := decide_eq_false (by omega)
          have t1' : decide (k < p) = false := decide_eq_false hkp
          have t2 : decide ((p : Int) ≤ (k : Int)) = true := decide_eq_true (by omega)
          have t2' : decide (p ≤ k) = true := decide_eq_true (by omega)
          have t3 : (k : Int) - (p : Int) = (j : Int) := by omega
          have t4 : j < q := by omega
          clear r1 r2 hx hj
          go_wp2_with fail
          refine wp_region_kept (by kernel_rfl) (by kernel_rfl) ?_
          repeat (first
            | (go_big_quiet_want
               first
                 | refine quiet_neq_bx (.tmp 95) (.tmp 102) x x false HQ0.out rfl rfl rfl ?_
                 | refine quiet_load_row bxT (.tmp 94) rfl b2 (o2 + k * 3) rfl (bxC x) _ HK2.out Tryd.underlying33 rfl sizeB ?_
                 | refine quiet_load_row bxT (.tmp 101) rfl b1 (o1 + j * 3) rfl (bxC x) _ HK1.out Tryd.underlying33 rfl sizeB ?_
               go_simp
               go_big_quiet_on)
            | (go_big_quiet_step ((exact fun _ => rfl))))
          refine wpQuiet_nil ?_
          intro W2 hk2
          have HB8 := Lib.hid (hB.out.trans (hk2.below.mono hB.out.size))
          clear hk2
          go_wp2_with fail
          go_roundw
          case rel => exact ⟨k + 1, by omega, by simp, HB8⟩
          case measure => simp [intOf]; omega
      · go_wp2_with fail
        go_ret
        exact ⟨rfl, HBD.out.trans (hB.out.mono HBD.out.size)⟩
end Go.Proofs.YtklmhjoiffaniaaDoor.Mbx
