/-
  Walks of the law BatchMany.
-/
import Derived.Test.YtkbeppmjdjddhaaDoorBatchLawC
namespace Go.Proofs.YtkbeppmjdjddhaaDoor.Batch
open Go Go.RowKit
open Nets (Tab str)

/-- The key of a number. -/
def numK (n : Nat) : ByteArray := ba [107, UInt8.ofNat (n / 256), UInt8.ofNat (n % 256)]
theorem numK_inj {i j : Nat} (hi : i ≤ 2100) (hj : j ≤ 2100) (h : numK i = numK j) : i = j := by
  have h1 : ([107, UInt8.ofNat (i / 256), UInt8.ofNat (i % 256)] : List UInt8) = [107, UInt8.ofNat (j / 256), UInt8.ofNat (j % 256)] := by
    have := congrArg bl h
    simpa [numK] using this
  simp only [List.cons.injEq, true_and, and_true] at h1
  have h2 := congrArg UInt8.toNat h1.1
  have h3 := congrArg UInt8.toNat h1.2
  simp at h2 h3
  omega
def numC (i : Nat) : Chg := ⟨numK i, ⟨#[118]⟩, false⟩
theorem numC_chk (i : Nat) : chk (numC i) = 0 := by
  unfold chk numC numK
  rw [if_neg (by simp [ByteArray.size]), if_neg (by simp [ByteArray.size])]
/-- What is there behind so many. -/
def numL : Nat → List Chg
  | 0 => []
  | i + 1 => made (numL i) (numC i)
theorem numL_good : ∀ i, Good (numL i)
  | 0 => good_nil
  | i + 1 => good_made (numL_good i) _
theorem numL_is : ∀ i, i ≤ 2100 → (numL i).length = min i 2000 ∧ ∀ j, j ≤ 2100 → at? Chg.key (numK j) (numL i) = if j < min i 2000 then some (numC j) else none
  | 0, _ => ⟨by simp [numL], fun j _ => by rw [if_neg (by omega)]; rfl⟩
  | i + 1, hi => by
    obtain ⟨h1, h2⟩ := numL_is i (by omega)
    have hat : at? Chg.key (numC i).key (numL i) = none := by
      show at? Chg.key (numK i) (numL i) = none
      rw [h2 i (by omega), if_neg (by omega)]
    by_cases hf : i < 2000
    · have hc : code (numL i) (numC i) = 0 := by unfold code; rw [numC_chk, if_neg (by simp), if_neg (by omega)]
      have hm : made (numL i) (numC i) = put Chg.key (numC i) (numL i) := by unfold made; rw [if_pos hc]
      have hr := (numL_good i).rise
      refine ⟨?_, fun j hj => ?_⟩
      · show (made (numL i) (numC i)).length = _
        rw [hm, put_new_length Chg.key _ hr hat, h1]; omega
      · show at? Chg.key (numK j) (made (numL i) (numC i)) = _
        rw [hm]
        by_cases he : j = i
        · subst he
          rw [if_pos (by omega)]
          exact at_put_same Chg.key (numC j) hr
        · rw [at_put_other Chg.key (numC i) hr (fun e => he (numK_inj hj (by omega) e)), h2 j hj]
          by_cases hj2 : j < min i 2000
          · rw [if_pos hj2, if_pos (by omega)]
          · rw [if_neg hj2, if_neg (by omega)]
    · have hc : code (numL i) (numC i) = 8 := by unfold code; rw [numC_chk, if_neg (by simp), if_pos ⟨hat, by omega⟩]
      have hm : made (numL i) (numC i) = numL i := by unfold made; rw [if_neg (by rw [hc]; decide)]
      refine ⟨?_, fun j hj => ?_⟩
      · show (made (numL i) (numC i)).length = _
        rw [hm, h1]; omega
      · show at? Chg.key (numK j) (made (numL i) (numC i)) = _
        rw [hm, h2 j hj, show min i 2000 = min (i + 1) 2000 by omega]
theorem num_code (i : Nat) (hi : i ≤ 2100) : code (numL i) (numC i) = if i < 2000 then 0 else 8 := by
  obtain ⟨h1, h2⟩ := numL_is i hi
  have hat : at? Chg.key (numC i).key (numL i) = none := by
    show at? Chg.key (numK i) (numL i) = none
    rw [h2 i hi, if_neg (by omega)]
  unfold code
  rw [numC_chk, if_neg (by simp)]
  by_cases hf : i < 2000
  · rw [if_neg (by omega), if_pos hf]
  · rw [if_pos ⟨hat, by omega⟩, if_neg hf]
theorem three_laid (w : World) (a b c : Int) : (convert 79 9 (.slice (some ⟨w.heap.size, 0, none⟩) 3 3)).run Tryd.prog (w.alloc (.cells #[.int .u8 a, .int .u8 b, .int .u8 c] 5)) = .ok (.string (strOfNums [a, b, c])) (w.alloc (.cells #[.int .u8 a, .int .u8 b, .int .u8 c] 5)) :=
  run_convert_bytes_arg (P := Tryd.prog) (w.alloc (.cells #[.int .u8 a, .int .u8 b, .int .u8 c] 5)) 79 5 Tryd.underlying79 Tryd.underlying5 w.heap.size 0 3 3 [a, b, c] rfl (fun i hi => by
    rw [Lib.cell_of_heap (heap_alloc_new w _), Nat.zero_add]
    match i, hi with
    | 0, _ => rfl
    | 1, _ => rfl
    | 2, _ => rfl) 9 Tryd.underlying9
theorem three_num (n : Nat) : strOfNums [107, ((n / 256 : Nat) : Int), ((n % 256 : Nat) : Int)] = numK n := rfl
set_option maxRecDepth 100000 in
set_option maxHeartbeats 2000000 in
theorem number_any (n : Nat) (w : World) (hn : n ≤ 2100) : Calls Tryd.prog 26 #[.int .i64 n] w fun e w' => e = .returned (.string (numK n)) ∧ Below w.heap.size w w' := by
  have hl := three_laid w 107 ((n / 256 : Nat) : Int) ((n % 256 : Nat) : Int)
  rw [three_num] at hl
  have hA : Below w.heap.size w (w.alloc (.cells #[.int .u8 107, .int .u8 ((n / 256 : Nat) : Int), .int .u8 ((n % 256 : Nat) : Int)] 5)) := (Below.refl _ _).alloc (Nat.le_refl _) _
  have HA := Lib.hid (And.intro hl hA)
  have q1 : Int.tdiv (n : Int) 256 = ((n / 256 : Nat) : Int) := by rw [Int.tdiv_eq_ediv_of_nonneg (by omega)]; omega
  have q2 : Int.tmod (n : Int) 256 = ((n % 256 : Nat) : Int) := by rw [Int.tmod_eq_emod_of_nonneg (by omega)]; omega
  have q3 : n / 256 ≤ 8 := by omega
  have q4 : n % 256 < 256 := by omega
  generalize n / 256 = a at *
  generalize n % 256 = b at *
  clear hA
  go_enter Tryd.func26, Tryd.ntmps26
  go_wp2_with fail
  go_ret
  exact ⟨rfl, HA.out.2⟩
theorem below_any (x : Int) (n : Nat) (w : World) (_h1 : -9223372036854775808 ≤ x) (_h2 : x ≤ 9223372036854775807) (hn : 4 ≤ n) (hn2 : n ≤ 100000) :
    Calls Tryd.prog 27 #[.int .i64 x, .int .i64 n] w fun e w' => e = .returned (.int .i64 (x % (n : Int))) ∧ w' = w := by
  have ret_int : ∀ {k : IntKind} {a b : Int}, a = b → Ending.returned (.int k a) = .returned (.int k b) := fun h => by rw [h]
  have hE : x % (n : Int) = if x.tmod n < 0 then x.tmod n + n else x.tmod n := by
    have hp := Int.emod_nonneg x (show (n : Int) ≠ 0 by omega)
    have hl := Int.emod_lt_of_pos x (show (0 : Int) < n by omega)
    have h : x.tmod (n : Int) = x % (n : Int) - ((if 0 ≤ x ∨ (n : Int) ∣ x then 0 else Int.natAbs (n : Int) : Nat) : Int) := Int.tmod_eq_emod
    by_cases hc : 0 ≤ x ∨ (n : Int) ∣ x
    · rw [if_pos hc] at h
      rw [if_neg (by omega)]
      omega
    · rw [if_neg hc, Int.natAbs_natCast] at h
      rw [if_pos (by omega)]
      omega
  have hl := Int.tmod_lt_of_pos x (show (0 : Int) < n by omega)
  have hg : -(n : Int) < x.tmod n := Int.lt_tmod_of_pos x (by omega)
  have HE := Lib.hid hE
  clear hE
  go_enter Tryd.func27, Tryd.ntmps27
  go_wp2
  · go_ret
    exact ⟨ret_int (by rw [HE.out, if_pos (by assumption)]), rfl⟩
  · go_ret
    exact ⟨ret_int (by rw [HE.out, if_neg (by omega)]), rfl⟩

def ManyAt (w : World) (d : Bt) (n : Nat) (i : Value) (wr : World) : Prop :=
  ∃ (k : Nat) (d' : Bt), k ≤ n ∧ i = .int .i64 k ∧ Mem wr d' (numL k) ∧ Step w d wr d'
/-- What the last change and its asking tell. -/
theorem many_last (n k : Nat) (hn : n ≤ 2100) (hk : k < 2100) (there : Bool) (ht : there = ((decide (k < n) && decide (k < 2000)) || decide (n < 2000))) :
    code (numL n) ⟨numK k, ⟨#[]⟩, true⟩ = (if there then 0 else 8) ∧ (at? Chg.key (numK k) (made (numL n) ⟨numK k, ⟨#[]⟩, true⟩)).isSome = there ∧ (tells (numK k) (made (numL n) ⟨numK k, ⟨#[]⟩, true⟩)).gone = there ∧ (made (numL n) ⟨numK k, ⟨#[]⟩, true⟩).length ≤ 2000 := by
  obtain ⟨h1, h2⟩ := numL_is n hn
  have h3 := h2 k (by omega)
  have hck : chk ⟨numK k, ⟨#[]⟩, true⟩ = 0 := by
    unfold chk numK
    rw [if_neg (by simp [ByteArray.size]), if_neg (by simp [ByteArray.size])]
  have hlen := (good_made (numL_good n) ⟨numK k, ⟨#[]⟩, true⟩).few
  cases there with
  | true =>
    have hc : code (numL n) ⟨numK k, ⟨#[]⟩, true⟩ = 0 := by
      unfold code
      rw [hck, if_neg (by simp), if_neg]
      rintro ⟨e1, e2⟩
      simp only at e1
      rw [h3] at e1
      have : (k < n ∧ k < 2000) ∨ n < 2000 := by simpa using ht.symm
      by_cases hm : k < min n 2000
      · rw [if_pos hm] at e1; cases e1
      · omega
    have hm : made (numL n) ⟨numK k, ⟨#[]⟩, true⟩ = put Chg.key ⟨numK k, ⟨#[]⟩, true⟩ (numL n) := by unfold made; rw [if_pos hc]
    have ha : at? Chg.key (numK k) (put Chg.key ⟨numK k, ⟨#[]⟩, true⟩ (numL n)) = some ⟨numK k, ⟨#[]⟩, true⟩ := at_put_same Chg.key ⟨numK k, ⟨#[]⟩, true⟩ (numL_good n).rise
    refine ⟨hc, ?_, ?_, hlen⟩
    · rw [hm, ha]; rfl
    · unfold tells; rw [hm, ha]
  | false =>
    have hf : ¬ ((k < n ∧ k < 2000) ∨ n < 2000) := by simpa using ht.symm
    have hat : at? Chg.key (numK k) (numL n) = none := by rw [h3, if_neg (by omega)]
    have hc : code (numL n) ⟨numK k, ⟨#[]⟩, true⟩ = 8 := by
      unfold code
      rw [hck, if_neg (by simp), if_pos ⟨hat, by omega⟩]
    have hm : made (numL n) ⟨numK k, ⟨#[]⟩, true⟩ = numL n := by unfold made; rw [if_neg (by rw [hc]; decide)]
    refine ⟨hc, ?_, ?_, hlen⟩
    · rw [hm, hat]; rfl
    · unfold tells; rw [hm, hat]; rfl
set_option maxRecDepth 100000 in
set_option maxHeartbeats 8000000 in
theorem batchMany_any (n s : Int) (w : World) (n0 : -9223372036854775808 ≤ n) (n1 : n ≤ 9223372036854775807) (s0 : -9223372036854775808 ≤ s) (s1 : s ≤ 9223372036854775807) (hT : Tab w) :
    Calls Tryd.prog 5 #[.int .i64 n, .int .i64 s] w fun e w' => e = .returned (.bool true) ∧ Below w.heap.size w w' := by
  have HW := Lib.hid (fun W (hW : Below w.heap.size w W) => (works_any W (hT.below hW)).mono fun e w' he => And.intro he.1 (hW.trans (he.2.mono hW.size)))
  clear hT
  by_cases g1 : n < 0
  · go_enter Tryd.func5, Tryd.ntmps5
    go_wp2_with fail
    refine (HW.out _ (Below.refl _ _)).mono ?_
    rintro e w3 ⟨rfl, hb3⟩
    have HB3 := Lib.hid hb3
    clear hb3
    go_wp2_with fail
    go_ret
    exact ⟨rfl, HB3.out⟩
  · by_cases g2 : 2100 < n
    · go_enter Tryd.func5, Tryd.ntmps5
      go_wp2_with fail
      refine (HW.out _ (Below.refl _ _)).mono ?_
      rintro e w3 ⟨rfl, hb3⟩
      have HB3 := Lib.hid hb3
      clear hb3
      go_wp2_with fail
      go_ret
      exact ⟨rfl, HB3.out⟩
    · obtain ⟨N, rfl⟩ : ∃ N : Nat, n = N := ⟨n.toNat, by omega⟩
      have hN : N ≤ 2100 := by omega
      obtain ⟨k, hk, hk2⟩ : ∃ k : Nat, s % ((2100 : Nat) : Int) = k ∧ k < 2100 := ⟨(s % 2100).toNat, by omega, by omega⟩
      have HBL := Lib.hid (fun W => below_any s 2100 W s0 s1 (by omega) (by omega))
      rw [hk] at HBL
      obtain ⟨there, ht⟩ : ∃ b : Bool, b = ((decide (k < N) && decide (k < 2000)) || decide (N < 2000)) := ⟨_, rfl⟩
      have HLAST := Lib.hid (many_last N k hN hk2 there ht)
      have HTH := Lib.hid ht
      have HNUM := Lib.hid (fun (i : Nat) W (hi : i ≤ 2100) => number_any i W hi)
      clear n0 n1 s0 s1 g1 g2 hk ht
      go_enter Tryd.func5, Tryd.ntmps5
      go_wp2_with fail
      refine (new_any w).mono ?_
      rintro e w1 ⟨d, rfl, hp, hB, hm1, hb⟩
      have HM := Lib.hid (And.intro hm1 (And.intro (Nat.le_of_eq hB.symm) hb))
      clear hm1 hb hB hp
      go_wp2_with fail
      go_loopw [6] (fun i wr => ManyAt w1 d N i wr) (fun i _ => N - (intOf i).toNat)
      case atStart => exact ⟨0, d, Nat.zero_le _, rfl, HM.out.1, Step.refl _ _⟩
      case round =>
        obtain ⟨j, d2, hj, rfl, hm2, hst2⟩ := hrel
        have hpb : d2.pb = d.pb := hst2.pb
        have HM2 := Lib.hid (And.intro hm2 hst2)
        clear hm2 hst2
        by_cases hlt : j < N
        · have HPUT := Lib.hid (fun W (hW : Below wr.heap.size wr W) => put_any (HM2.out.1.below hW) (numL_good j) (numK j) ⟨#[118]⟩ (by unfold numK; simp [ByteArray.size]) (by decide))
          rw [hpb] at HPUT
          have hcd := num_code j (by omega)
          go_wp2_with fail
          refine (HNUM.out j _ (by omega)).mono ?_
          rintro e w3 ⟨rfl, hb3⟩
          have HB3 := Lib.hid hb3
          clear hb3
          go_wp2_with fail
          refine (HPUT.out _ HB3.out).mono ?_
          rintro e w4 ⟨d4, rfl, hm4, hst4⟩
          have HM4 : Hid (Mem w4 d4 (numL (j + 1)) ∧ Step w1 d w4 d4) := Lib.hid ⟨hm4, (HM2.out.2.trans (Step.of_below d2 HB3.out)).trans hst4⟩
          clear hm4 hst4
          rw [show code (numL j) ⟨numK j, ⟨#[118]⟩, false⟩ = if j < 2000 then 0 else 8 from hcd]
          clear hcd
          by_cases h2 : j < 2000
          · rw [if_pos h2]
            go_wp2_with fail
            go_roundw
            case rel => exact ⟨j + 1, d4, by omega, by simp, HM4.out.1, HM4.out.2⟩
            case measure => simp [intOf]; omega
          · rw [if_neg h2]
            go_wp2_with fail
            go_roundw
            case rel => exact ⟨j + 1, d4, by omega, by simp, HM4.out.1, HM4.out.2⟩
            case measure => simp [intOf]; omega
        · obtain rfl : j = N := by omega
          have HBW : Hid (Below w.heap.size w wr) := Lib.hid (HM.out.2.2.trans (HM2.out.2.below HM.out.1 HM.out.2.1))
          have HDB : Hid (w.heap.size ≤ d2.B) := Lib.hid (by rw [HM2.out.2.B]; exact HM.out.2.1)
          have HDEL := Lib.hid (fun W (hW : Below wr.heap.size wr W) => del_any (HM2.out.1.below hW) (numL_good j) (numK k) (by unfold numK; simp [ByteArray.size]))
          rw [hpb] at HDEL
          go_wp2_with fail
          refine (HBL.out _).mono ?_
          rintro e w3 ⟨rfl, rfl⟩
          go_wp2_with fail
          refine (HNUM.out k _ (by omega)).mono ?_
          rintro e w3 ⟨rfl, hb3⟩
          have HB3 := Lib.hid hb3
          clear hb3
          go_wp2_with fail
          refine (HDEL.out _ HB3.out).mono ?_
          rintro e w4 ⟨d4, rfl, hm4, hst4⟩
          have hpb4 : d4.pb = d.pb := hst4.pb.trans hpb
          have HM4 := Lib.hid (And.intro hm4 ((HBW.out.trans (HB3.out.mono HBW.out.size)).trans (hst4.below (HM2.out.1.below HB3.out) HDB.out)))
          clear hm4 hst4
          cases there
          · have HG := Lib.hid (good_made (numL_good j) ⟨numK k, ⟨#[]⟩, true⟩)
            have HL2 : Hid (code (numL j) ⟨numK k, ⟨#[]⟩, true⟩ = 8) := Lib.hid HLAST.out.1
            have HL3 : Hid ((at? Chg.key (numK k) (made (numL j) ⟨numK k, ⟨#[]⟩, true⟩)).isSome = false ∧ (tells (numK k) (made (numL j) ⟨numK k, ⟨#[]⟩, true⟩)).gone = false ∧ (made (numL j) ⟨numK k, ⟨#[]⟩, true⟩).length ≤ 2000) := Lib.hid HLAST.out.2
            rw [HL2.out]
            clear HLAST HL2
            generalize made (numL j) ⟨numK k, ⟨#[]⟩, true⟩ = Q at *
            have hth : ((decide ((k : Int) < (j : Int)) && decide ((k : Int) < 2000)) || decide ((j : Int) < 2000)) = false := by
              rw [HTH.out, show decide ((k : Int) < (j : Int)) = decide (k < j) from decide_eq_decide.2 (by omega), show decide ((k : Int) < 2000) = decide (k < 2000) from decide_eq_decide.2 (by omega), show decide ((j : Int) < 2000) = decide (j < 2000) from decide_eq_decide.2 (by omega)]
            have HTB := Lib.hid hth
            clear hth
            go_wp2_with fail
            refine (HNUM.out k _ (by omega)).mono ?_
            rintro e w5 ⟨rfl, hb5⟩
            have HM5 := Lib.hid (And.intro (HM4.out.1.below hb5) (HM4.out.2.trans (hb5.mono HM4.out.2.size)))
            clear hb5
            have HGET := Lib.hid (get_any HM5.out.1 HG.out.rise (by have := HG.out.few; omega) (numK k))
            rw [hpb4] at HGET
            go_wp2_with fail
            refine HGET.out.mono ?_
            rintro e w6 ⟨rfl, hb6⟩
            rw [HL3.out.1]
            have hgone := HL3.out.2.1
            generalize tells (numK k) Q = tc at *
            obtain ⟨tk, tv, tg⟩ := tc
            dsimp only at hgone
            subst hgone
            have HM6 := Lib.hid (And.intro ((HM5.out.1.below hb6).alloc (boxC chgT ⟨tk, tv, false⟩)) ((HM5.out.2.trans (hb6.mono HM5.out.2.size)).alloc (Nat.le_trans HM5.out.2.size hb6.size) (boxC chgT ⟨tk, tv, false⟩)))
            clear hb6
            have HLEN := Lib.hid (len_any HM6.out.1)
            rw [hpb4] at HLEN
            have hQ := HL3.out.2.2
            clear HL3
            have hc : (k < j ∧ ¬ k < 2000 ∧ ¬ j < 2000) ∨ (¬ k < j ∧ ¬ k < 2000 ∧ ¬ j < 2000) := by
              have h := HTB.out
              simp at h
              omega
            rcases hc with ⟨ha, hb, hc⟩ | ⟨ha, hb, hc⟩
            all_goals
              go_wp2_with fail
              refine HLEN.out.mono ?_
              rintro e w7 ⟨rfl, rfl⟩
              go_wp2_with fail
              refine (HW.out _ HM6.out.2).mono ?_
              rintro e w8 ⟨rfl, hb8⟩
              have HB8 := Lib.hid hb8
              clear hb8
              go_wp2_with fail
              go_ret
              exact ⟨by first | rfl | (simp; omega), HB8.out⟩
          · have HG := Lib.hid (good_made (numL_good j) ⟨numK k, ⟨#[]⟩, true⟩)
            have HL2 : Hid (code (numL j) ⟨numK k, ⟨#[]⟩, true⟩ = 0) := Lib.hid HLAST.out.1
            have HL3 : Hid ((at? Chg.key (numK k) (made (numL j) ⟨numK k, ⟨#[]⟩, true⟩)).isSome = true ∧ (tells (numK k) (made (numL j) ⟨numK k, ⟨#[]⟩, true⟩)).gone = true ∧ (made (numL j) ⟨numK k, ⟨#[]⟩, true⟩).length ≤ 2000) := Lib.hid HLAST.out.2
            rw [HL2.out]
            clear HLAST HL2
            generalize made (numL j) ⟨numK k, ⟨#[]⟩, true⟩ = Q at *
            have hth : ((decide ((k : Int) < (j : Int)) && decide ((k : Int) < 2000)) || decide ((j : Int) < 2000)) = true := by
              rw [HTH.out, show decide ((k : Int) < (j : Int)) = decide (k < j) from decide_eq_decide.2 (by omega), show decide ((k : Int) < 2000) = decide (k < 2000) from decide_eq_decide.2 (by omega), show decide ((j : Int) < 2000) = decide (j < 2000) from decide_eq_decide.2 (by omega)]
            have HTB := Lib.hid hth
            clear hth
            go_wp2_with fail
            refine (HNUM.out k _ (by omega)).mono ?_
            rintro e w5 ⟨rfl, hb5⟩
            have HM5 := Lib.hid (And.intro (HM4.out.1.below hb5) (HM4.out.2.trans (hb5.mono HM4.out.2.size)))
            clear hb5
            have HGET := Lib.hid (get_any HM5.out.1 HG.out.rise (by have := HG.out.few; omega) (numK k))
            rw [hpb4] at HGET
            go_wp2_with fail
            refine HGET.out.mono ?_
            rintro e w6 ⟨rfl, hb6⟩
            rw [HL3.out.1]
            have hgone := HL3.out.2.1
            generalize tells (numK k) Q = tc at *
            obtain ⟨tk, tv, tg⟩ := tc
            dsimp only at hgone
            subst hgone
            have HM6 := Lib.hid (And.intro ((HM5.out.1.below hb6).alloc (boxC chgT ⟨tk, tv, true⟩)) ((HM5.out.2.trans (hb6.mono HM5.out.2.size)).alloc (Nat.le_trans HM5.out.2.size hb6.size) (boxC chgT ⟨tk, tv, true⟩)))
            clear hb6
            have HLEN := Lib.hid (len_any HM6.out.1)
            rw [hpb4] at HLEN
            have hQ := HL3.out.2.2
            clear HL3
            have hc : (k < j ∧ k < 2000 ∧ j < 2000) ∨ (k < j ∧ k < 2000 ∧ ¬ j < 2000) ∨ (¬ k < j ∧ k < 2000 ∧ j < 2000) ∨ (¬ k < j ∧ ¬ k < 2000 ∧ j < 2000) := by
              have h := HTB.out
              simp at h
              omega
            rcases hc with ⟨ha, hb, hc⟩ | ⟨ha, hb, hc⟩ | ⟨ha, hb, hc⟩ | ⟨ha, hb, hc⟩
            all_goals
              go_wp2_with fail
              refine HLEN.out.mono ?_
              rintro e w7 ⟨rfl, rfl⟩
              go_wp2_with fail
              refine (HW.out _ HM6.out.2).mono ?_
              rintro e w8 ⟨rfl, hb8⟩
              have HB8 := Lib.hid hb8
              clear hb8
              go_wp2_with fail
              go_ret
              exact ⟨by first | rfl | (simp; omega), HB8.out⟩
end Go.Proofs.YtkbeppmjdjddhaaDoor.Batch
