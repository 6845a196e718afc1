/-
  Walks of the document's answer: Line, Encode.
-/
import Derived.Test.YtobnckbpgckgjaaDoorQpRefA
namespace Go.Proofs.YtobnckbpgckgjaaDoor.Qp
open Go Go.RowKit
open Go.Proofs.YtobnckbpgckgjaaDoor.Head

/-! A line, written. -/
theorem self_or (c : UInt8) (last : Bool) : selfB c last = (its c || (bk c && !last)) := by
  have := all256 (p := fun n => !(itsN n && bkN n)) (by decide +kernel) c.toNat c.toNat_lt
  unfold selfB its bk at *
  cases h1 : itsN c.toNat <;> cases h2 : bkN c.toNat
  · rfl
  · rfl
  · rfl
  · rw [h1, h2] at this
    cases this
theorem hex_part (k : Nat) (h : k < 16) : hexB.extract k (k + 1) = ba [hexN k] := by
  have : ∀ k : Nat, k < 16 → hexB.extract k (k + 1) = ba [hexN k] := by decide +kernel
  exact this k h
theorem hex_slice (k : Nat) (h : k < 16) (W : World) : (Instr.slice 9 (.string hexB) (some (.int .u8 (k : Int))) (some (.int .u8 ((k : Int) + 1))) none).run Tryd.prog W = .ok (.string (ba [hexN k])) W := by
  have hz : hexB.size = 16 := rfl
  rw [run_slice_string W 9 hexB .u8 .u8 (k : Int) ((k : Int) + 1) Tryd.underlying9 (by omega) (by omega) (by rw [hz]; omega)]
  rw [← hex_part k h, show ((k : Int) + 1).toNat = k + 1 by omega]
  rfl
structure LiAt (s : ByteArray) (w wr : World) (o : ByteArray) (k size : Nat) : Prop where
  eq : lnW 0 (bl s) = bl o ++ lnW size ((bl s).drop k)
  below : Below w.heap.size w wr
set_option maxRecDepth 100000 in
set_option maxHeartbeats 4000000 in
theorem rline_any (s : ByteArray) (w : World) (hs : s.size ≤ 100000) :
    Calls Tryd.prog 20 #[.string s] w fun e w' => e = .returned (.string (ba (lnW 0 (bl s)))) ∧ Below w.heap.size w w' := by
  have HI : Hid (LiAt s w w ⟨#[]⟩ 0 0) := Lib.hid ⟨by simp, Below.refl _ _⟩
  go_enter Tryd.func20, Tryd.ntmps20
  go_wp2_with fail
  go_loopw [3, 4, 5] (fun o z i wr => ∃ (k size : Nat) (ob : ByteArray), k ≤ s.size ∧ size ≤ 75 ∧ i = .int .i64 k ∧ z = .int .i64 size ∧ o = .string ob ∧ ob.size ≤ 6 * k ∧ Hid (LiAt s w wr ob k size)) (fun _ _ i _ => s.size - (intOf i).toNat)
  case atStart => exact ⟨0, 0, _, Nat.zero_le _, Nat.zero_le _, rfl, rfl, rfl, Nat.zero_le _, HI⟩
  case round =>
    clear HI
    obtain ⟨k, size, o, hk, hz, rfl, rfl, rfl, hoz, hW⟩ := hrel
    by_cases hlt : k < s.size
    · have hd := drop_cons s k hlt
      have hl := drop_last s k
      have h8 := s[k].toNat_lt
      have HC : Hid (∀ W, Calls Tryd.prog 25 #[.int .u8 s[k].toNat] W fun e w' => e = .returned (.bool (its s[k])) ∧ W = w') := Lib.hid (fun W => ritself_any s[k] W)
      have HK : Hid (∀ W, Calls Tryd.prog 24 #[.int .u8 s[k].toNat] W fun e w' => e = .returned (.bool (bk s[k])) ∧ W = w') := Lib.hid (fun W => rblank_any s[k] W)
      have r1 : ∀ W, (Instr.slice 9 (.string hexB) (some (.int .u8 ((s[k].toNat : Int) / 16))) (some (.int .u8 ((s[k].toNat : Int) / 16 + 1))) none).run Tryd.prog W = .ok (.string (ba [hexN (s[k].toNat / 16)])) W := fun W => hex_slice (s[k].toNat / 16) (by omega) W
      have r2 : ∀ W, (Instr.slice 9 (.string hexB) (some (.int .u8 ((s[k].toNat : Int) % 16))) (some (.int .u8 ((s[k].toNat : Int) % 16 + 1))) none).run Tryd.prog W = .ok (.string (ba [hexN (s[k].toNat % 16)])) W := fun W => hex_slice (s[k].toNat % 16) (by omega) W
      have hex : bl (s.extract k (k + 1)) = [s[k]] := by rw [ba1 s k hlt, bl_ba]
      have hexz : (s.extract k (k + 1)).size = 1 := by rw [ByteArray.size_extract]; omega
      have hq : (((k : Int) + 1) == (s.size : Int)) = decide (s.size ≤ k + 1) := by
        rw [Bool.eq_iff_iff, beq_iff_eq, decide_eq_true_iff]
        omega
      have hstep : lnW size ((bl s).drop k) = if 75 < size + (wrt (decide (s.size ≤ k + 1)) s[k]).length then 61 :: 13 :: 10 :: (wrt (decide (s.size ≤ k + 1)) s[k] ++ lnW (wrt (decide (s.size ≤ k + 1)) s[k]).length ((bl s).drop (k + 1))) else wrt (decide (s.size ≤ k + 1)) s[k] ++ lnW (size + (wrt (decide (s.size ≤ k + 1)) s[k]).length) ((bl s).drop (k + 1)) := by
        rw [hd, lnW, hl]
      clear hd hl
      generalize decide (s.size ≤ k + 1) = last at *
      cases hi : its s[k]
      · rw [hi] at HC
        cases hb : bk s[k]
        · rw [hb] at HK
          have hw : wrt last s[k] = esc s[k] := by unfold wrt; rw [self_or, hi, hb]; rfl
          have he3 : (ba (esc s[k])).size = 3 := rfl
          have hl3 : (esc s[k]).length = 3 := rfl
          rw [hw, hl3] at hstep
          clear hex hexz hw hl3
          clear hi hb hq
          by_cases hg : 75 < size + 3
          · have hg' : (size : Int) + 3 > 75 := by omega
            rw [if_pos hg] at hstep
            have HN : Hid (∀ W, Below w.heap.size w W → LiAt s w W ((o ++ softL) ++ (ba (esc s[k]))) (k + 1) (3)) := Lib.hid (fun W h => ⟨by
              rw [hW.out.eq, hstep, bl_app, bl_app, bl_ba]
              show _ = ((bl o) ++ [61, 13, 10]) ++ _ ++ _
              simp, h⟩)
            have hnz : ((o ++ softL) ++ (ba (esc s[k]))).size ≤ 6 * (k + 1) := by
              rw [ByteArray.size_append, ByteArray.size_append, he3]
              rw [show softL.size = 3 from rfl]
              omega
            have HB := Lib.hid hW.out.below
            clear hstep hW hg
            have he3' : ((ba (esc s[k])).size : Int) = 3 := by rw [he3]; rfl
            have HEE : Hid (((⟨#[61]⟩ : ByteArray) ++ ba [hexN (s[k].toNat / 16)]) ++ ba [hexN (s[k].toNat % 16)] = ba (esc s[k])) := Lib.hid rfl
            generalize ba (esc s[k]) = eb at *
            generalize hexN (s[k].toNat / 16) = x1 at *
            generalize hexN (s[k].toNat % 16) = x2 at *
            go_wp2_with fail
            refine (HC.out _).mono ?_
            rintro e w1 ⟨rfl, rfl⟩
            go_wp2_with fail
            refine (HK.out _).mono ?_
            rintro e w1 ⟨rfl, rfl⟩
            go_wp2_with fail
            go_quiet (fail)
            go_wp2_with fail
            go_roundw
            case rel => exact ⟨k + 1, 3, _, by omega, by omega, by go_num, by simp, rfl, by rw [HEE.out]; exact hnz, by rw [HEE.out]; exact Lib.hid (HN.out _ (below_drewN HB.out _))⟩
            case measure => simp [intOf]; omega
          · have hg' : ¬ (size : Int) + 3 > 75 := by omega
            rw [if_neg hg] at hstep
            have HN : Hid (∀ W, Below w.heap.size w W → LiAt s w W (o ++ (ba (esc s[k]))) (k + 1) (size + 3)) := Lib.hid (fun W h => ⟨by
              rw [hW.out.eq, hstep, bl_app, bl_ba]
              simp, h⟩)
            have hnz : (o ++ (ba (esc s[k]))).size ≤ 6 * (k + 1) := by
              rw [ByteArray.size_append, he3]
              omega
            have HB := Lib.hid hW.out.below
            clear hstep hW hg
            have he3' : ((ba (esc s[k])).size : Int) = 3 := by rw [he3]; rfl
            have HEE : Hid (((⟨#[61]⟩ : ByteArray) ++ ba [hexN (s[k].toNat / 16)]) ++ ba [hexN (s[k].toNat % 16)] = ba (esc s[k])) := Lib.hid rfl
            generalize ba (esc s[k]) = eb at *
            generalize hexN (s[k].toNat / 16) = x1 at *
            generalize hexN (s[k].toNat % 16) = x2 at *
            go_wp2_with fail
            refine (HC.out _).mono ?_
            rintro e w1 ⟨rfl, rfl⟩
            go_wp2_with fail
            refine (HK.out _).mono ?_
            rintro e w1 ⟨rfl, rfl⟩
            go_wp2_with fail
            go_quiet (fail)
            go_wp2_with fail
            go_roundw
            case rel => exact ⟨k + 1, size + 3, _, by omega, by omega, by go_num, by simp, rfl, by rw [HEE.out]; exact hnz, by rw [HEE.out]; exact Lib.hid (HN.out _ (below_drewN HB.out _))⟩
            case measure => simp [intOf]; omega
        · rw [hb] at HK
          cases last
          · have hw : wrt false s[k] = [s[k]] := by unfold wrt; rw [self_or, hi, hb]; rfl
            have hl1 : ([s[k]] : List UInt8).length = 1 := rfl
            rw [hw, hl1] at hstep
            clear r1 r2 hw hl1
            clear hi hb
            by_cases hg : 75 < size + 1
            · have hg' : (size : Int) + 1 > 75 := by omega
              rw [if_pos hg] at hstep
              have HN : Hid (∀ W, Below w.heap.size w W → LiAt s w W ((o ++ softL) ++ (s.extract k (k + 1))) (k + 1) (1)) := Lib.hid (fun W h => ⟨by
                rw [hW.out.eq, hstep, bl_app, bl_app, hex]
                show _ = ((bl o) ++ [61, 13, 10]) ++ _ ++ _
                simp, h⟩)
              have hnz : ((o ++ softL) ++ (s.extract k (k + 1))).size ≤ 6 * (k + 1) := by
                rw [ByteArray.size_append, ByteArray.size_append, hexz]
                rw [show softL.size = 3 from rfl]
                omega
              have HB := Lib.hid hW.out.below
              clear hstep hW hg hex
              go_wp2_with fail
              refine (HC.out _).mono ?_
              rintro e w1 ⟨rfl, rfl⟩
              go_wp2_with fail
              refine (HK.out _).mono ?_
              rintro e w1 ⟨rfl, rfl⟩
              go_wp2_with fail
              go_roundw
              case rel => exact ⟨k + 1, 1, _, by omega, by omega, by go_num, by simp, rfl, hnz, Lib.hid (HN.out _ HB.out)⟩
              case measure => simp [intOf]; omega
            · have hg' : ¬ (size : Int) + 1 > 75 := by omega
              rw [if_neg hg] at hstep
              have HN : Hid (∀ W, Below w.heap.size w W → LiAt s w W (o ++ (s.extract k (k + 1))) (k + 1) (size + 1)) := Lib.hid (fun W h => ⟨by
                rw [hW.out.eq, hstep, bl_app, hex]
                simp, h⟩)
              have hnz : (o ++ (s.extract k (k + 1))).size ≤ 6 * (k + 1) := by
                rw [ByteArray.size_append, hexz]
                omega
              have HB := Lib.hid hW.out.below
              clear hstep hW hg hex
              go_wp2_with fail
              refine (HC.out _).mono ?_
              rintro e w1 ⟨rfl, rfl⟩
              go_wp2_with fail
              refine (HK.out _).mono ?_
              rintro e w1 ⟨rfl, rfl⟩
              go_wp2_with fail
              go_roundw
              case rel => exact ⟨k + 1, size + 1, _, by omega, by omega, by go_num, by simp, rfl, hnz, Lib.hid (HN.out _ HB.out)⟩
              case measure => simp [intOf]; omega
          · have hw : wrt true s[k] = esc s[k] := by unfold wrt; rw [self_or, hi, hb]; rfl
            have he3 : (ba (esc s[k])).size = 3 := rfl
            have hl3 : (esc s[k]).length = 3 := rfl
            rw [hw, hl3] at hstep
            clear hex hexz hw hl3
            clear hi hb
            by_cases hg : 75 < size + 3
            · have hg' : (size : Int) + 3 > 75 := by omega
              rw [if_pos hg] at hstep
              have HN : Hid (∀ W, Below w.heap.size w W → LiAt s w W ((o ++ softL) ++ (ba (esc s[k]))) (k + 1) (3)) := Lib.hid (fun W h => ⟨by
                rw [hW.out.eq, hstep, bl_app, bl_app, bl_ba]
                show _ = ((bl o) ++ [61, 13, 10]) ++ _ ++ _
                simp, h⟩)
              have hnz : ((o ++ softL) ++ (ba (esc s[k]))).size ≤ 6 * (k + 1) := by
                rw [ByteArray.size_append, ByteArray.size_append, he3]
                rw [show softL.size = 3 from rfl]
                omega
              have HB := Lib.hid hW.out.below
              clear hstep hW hg
              have he3' : ((ba (esc s[k])).size : Int) = 3 := by rw [he3]; rfl
              have HEE : Hid (((⟨#[61]⟩ : ByteArray) ++ ba [hexN (s[k].toNat / 16)]) ++ ba [hexN (s[k].toNat % 16)] = ba (esc s[k])) := Lib.hid rfl
              generalize ba (esc s[k]) = eb at *
              generalize hexN (s[k].toNat / 16) = x1 at *
              generalize hexN (s[k].toNat % 16) = x2 at *
              go_wp2_with fail
              refine (HC.out _).mono ?_
              rintro e w1 ⟨rfl, rfl⟩
              go_wp2_with fail
              refine (HK.out _).mono ?_
              rintro e w1 ⟨rfl, rfl⟩
              go_wp2_with fail
              go_quiet (fail)
              go_wp2_with fail
              go_roundw
              case rel => exact ⟨k + 1, 3, _, by omega, by omega, by go_num, by simp, rfl, by rw [HEE.out]; exact hnz, by rw [HEE.out]; exact Lib.hid (HN.out _ (below_drewN HB.out _))⟩
              case measure => simp [intOf]; omega
            · have hg' : ¬ (size : Int) + 3 > 75 := by omega
              rw [if_neg hg] at hstep
              have HN : Hid (∀ W, Below w.heap.size w W → LiAt s w W (o ++ (ba (esc s[k]))) (k + 1) (size + 3)) := Lib.hid (fun W h => ⟨by
                rw [hW.out.eq, hstep, bl_app, bl_ba]
                simp, h⟩)
              have hnz : (o ++ (ba (esc s[k]))).size ≤ 6 * (k + 1) := by
                rw [ByteArray.size_append, he3]
                omega
              have HB := Lib.hid hW.out.below
              clear hstep hW hg
              have he3' : ((ba (esc s[k])).size : Int) = 3 := by rw [he3]; rfl
              have HEE : Hid (((⟨#[61]⟩ : ByteArray) ++ ba [hexN (s[k].toNat / 16)]) ++ ba [hexN (s[k].toNat % 16)] = ba (esc s[k])) := Lib.hid rfl
              generalize ba (esc s[k]) = eb at *
              generalize hexN (s[k].toNat / 16) = x1 at *
              generalize hexN (s[k].toNat % 16) = x2 at *
              go_wp2_with fail
              refine (HC.out _).mono ?_
              rintro e w1 ⟨rfl, rfl⟩
              go_wp2_with fail
              refine (HK.out _).mono ?_
              rintro e w1 ⟨rfl, rfl⟩
              go_wp2_with fail
              go_quiet (fail)
              go_wp2_with fail
              go_roundw
              case rel => exact ⟨k + 1, size + 3, _, by omega, by omega, by go_num, by simp, rfl, by rw [HEE.out]; exact hnz, by rw [HEE.out]; exact Lib.hid (HN.out _ (below_drewN HB.out _))⟩
              case measure => simp [intOf]; omega
      · rw [hi] at HC
        have hw : wrt last s[k] = [s[k]] := by unfold wrt; rw [self_or, hi]; rfl
        have hl1 : ([s[k]] : List UInt8).length = 1 := rfl
        rw [hw, hl1] at hstep
        clear r1 r2 hw hl1
        clear hi hq HK
        by_cases hg : 75 < size + 1
        · have hg' : (size : Int) + 1 > 75 := by omega
          rw [if_pos hg] at hstep
          have HN : Hid (∀ W, Below w.heap.size w W → LiAt s w W ((o ++ softL) ++ (s.extract k (k + 1))) (k + 1) (1)) := Lib.hid (fun W h => ⟨by
            rw [hW.out.eq, hstep, bl_app, bl_app, hex]
            show _ = ((bl o) ++ [61, 13, 10]) ++ _ ++ _
            simp, h⟩)
          have hnz : ((o ++ softL) ++ (s.extract k (k + 1))).size ≤ 6 * (k + 1) := by
            rw [ByteArray.size_append, ByteArray.size_append, hexz]
            rw [show softL.size = 3 from rfl]
            omega
          have HB := Lib.hid hW.out.below
          clear hstep hW hg hex
          go_wp2_with fail
          refine (HC.out _).mono ?_
          rintro e w1 ⟨rfl, rfl⟩
          go_wp2_with fail
          go_roundw
          case rel => exact ⟨k + 1, 1, _, by omega, by omega, by go_num, by simp, rfl, hnz, Lib.hid (HN.out _ HB.out)⟩
          case measure => simp [intOf]; omega
        · have hg' : ¬ (size : Int) + 1 > 75 := by omega
          rw [if_neg hg] at hstep
          have HN : Hid (∀ W, Below w.heap.size w W → LiAt s w W (o ++ (s.extract k (k + 1))) (k + 1) (size + 1)) := Lib.hid (fun W h => ⟨by
            rw [hW.out.eq, hstep, bl_app, hex]
            simp, h⟩)
          have hnz : (o ++ (s.extract k (k + 1))).size ≤ 6 * (k + 1) := by
            rw [ByteArray.size_append, hexz]
            omega
          have HB := Lib.hid hW.out.below
          clear hstep hW hg hex
          go_wp2_with fail
          refine (HC.out _).mono ?_
          rintro e w1 ⟨rfl, rfl⟩
          go_wp2_with fail
          go_roundw
          case rel => exact ⟨k + 1, size + 1, _, by omega, by omega, by go_num, by simp, rfl, hnz, Lib.hid (HN.out _ HB.out)⟩
          case measure => simp [intOf]; omega
    · have HE : Hid (lnW 0 (bl s) = bl o) := Lib.hid (by
        rw [hW.out.eq, drop_end s k hlt, show lnW size [] = [] from rfl, List.append_nil])
      have HB := Lib.hid hW.out.below
      clear hW
      go_wp2_with fail
      go_ret
      exact ⟨ret_str (by rw [HE.out, ba_bl]), HB.out⟩

/-! Encode. -/
theorem joinE_snoc {ls : List (List UInt8)} (h : ls ≠ []) (x : List UInt8) : joinE (ls ++ [x]) = joinE ls ++ 13 :: 10 :: x := by
  cases ls with
  | nil => exact absurd rfl h
  | cons l t => simp [joinE]
theorem joinE_len {ls : List (List UInt8)} (k : Nat) : (joinE (ls.take k)).length ≤ (joinE ls).length := by
  cases ls with
  | nil => simp [joinE]
  | cons l t =>
    cases k with
    | zero => simp [joinE]
    | succ k =>
      have e : (t.map fun x => 13 :: 10 :: x).flatten = ((t.take k).map fun x => 13 :: 10 :: x).flatten ++ ((t.drop k).map fun x => (13 :: 10 :: x : List UInt8)).flatten := by
        rw [← List.flatten_append, ← List.map_append, List.take_append_drop]
      rw [List.take_succ_cons]
      simp only [joinE]
      rw [e]
      simp only [List.length_append]
      omega
theorem encJ_len : ∀ ls : List (List UInt8), (encJ ls).length ≤ 6 * (joinE ls).length
  | [] => by simp [encJ, joinE]
  | [l] => by
    have := lnW_len 0 l
    simpa [encJ, joinE] using this
  | l :: m :: t => by
    have h1 := lnW_len 0 l
    have h2 := encJ_len (m :: t)
    rw [encJ_cons l (by simp), joinE_cons]
    simp only [List.length_append, List.length_cons]
    omega
theorem encJ_snoc {ls : List (List UInt8)} (h : ls ≠ []) (x : List UInt8) : encJ (ls ++ [x]) = encJ ls ++ 13 :: 10 :: lnW 0 x := by
  unfold encJ
  rw [List.map_append, List.map_cons, List.map_nil, joinE_snoc]
  simpa using h
/-- The first so many lines, written. -/
def encK (s : List UInt8) (k : Nat) : ByteArray := ba (encJ ((spl s).take k))
theorem encK_size (s : List UInt8) (k : Nat) : (encK s k).size ≤ 6 * s.length := by
  unfold encK
  rw [ba_size]
  have h1 := encJ_len ((spl s).take k)
  have h2 := joinE_len (ls := spl s) k
  rw [join_spl s.length s (Nat.le_refl _)] at h2
  omega
theorem encK_step {s x : List UInt8} {k : Nat} (h : (spl s)[k]? = some x) (hk : 1 ≤ k) : (encK s k ++ ⟨#[13, 10]⟩) ++ ba (lnW 0 x) = encK s (k + 1) := by
  unfold encK
  rw [List.take_add_one, h, Option.toList_some, encJ_snoc]
  · apply bl_inj
    show (ba _ ++ ba [13, 10] ++ ba _).data.toList = _
    simp
  · intro e
    have := congrArg List.length e
    rw [List.length_take] at this
    have := (List.getElem?_eq_some_iff.1 h).1
    simp only [List.length_nil] at *
    omega
theorem encK_one {s x : List UInt8} (h : (spl s)[0]? = some x) : encK s 1 = ba (lnW 0 x) := by
  unfold encK
  rw [show (1 : Nat) = 0 + 1 from rfl, List.take_add_one, h]
  simp [encJ, joinE]
theorem encK_all {s : List UInt8} {k : Nat} (h : (spl s).length ≤ k) : encK s k = ba (encL s) := by
  unfold encK encL
  rw [List.take_of_length_le h]
/-- Lines, each as long as the text at the most, and as many. -/
theorem spl_facts (s : List UInt8) : (spl s).length ≤ s.length + 1 ∧ ∀ x ∈ spl s, x.length ≤ s.length := by
  have e := join_spl s.length s (Nat.le_refl _)
  have hne := spl_ne s
  generalize spl s = ls at *
  have : ∀ ls : List (List UInt8), ls ≠ [] → ls.length ≤ (joinE ls).length + 1 ∧ ∀ x ∈ ls, x.length ≤ (joinE ls).length := by
    intro ls
    induction ls with
    | nil => intro h; exact absurd rfl h
    | cons l t ih =>
      intro _
      cases t with
      | nil => simp [joinE]
      | cons m u =>
        obtain ⟨h1, h2⟩ := ih (by simp)
        rw [joinE_cons]
        simp only [List.length_append, List.length_cons] at *
        refine ⟨by omega, fun x hx => ?_⟩
        rcases List.mem_cons.1 hx with rfl | hx
        · omega
        · have := h2 x hx
          omega
  have := this ls hne
  rwa [e] at this
set_option maxRecDepth 100000 in
set_option maxHeartbeats 2000000 in
theorem rencode_any (s : ByteArray) (w : World) (hs : s.size ≤ 50000) :
    Calls Tryd.prog 10 #[.string s] w fun e w' => e = .returned (.string (ba (encL (bl s)))) ∧ Below w.heap.size w w' := by
  have HL := Lib.hid (rlines_any s w (by omega))
  have hsf := spl_facts (bl s)
  rw [bl_len] at hsf
  have HLI : Hid (∀ x W, x ∈ spl (bl s) → Calls Tryd.prog 20 #[.string (ba x)] W fun e w' => e = .returned (.string (ba (lnW 0 x))) ∧ Below W.heap.size W w') := Lib.hid (fun x W h => by
    have := rline_any (ba x) W (by rw [ba_size]; have := hsf.2 x h; omega)
    rwa [bl_ba] at this)
  have hne := spl_ne (bl s)
  have HZ := Lib.hid (fun k => encK_size (bl s) k)
  have HST := Lib.hid (fun k x => encK_step (s := bl s) (x := x) (k := k))
  have HON := Lib.hid (fun x => encK_one (s := bl s) (x := x))
  have HAL := Lib.hid (fun k => encK_all (s := bl s) (k := k))
  have hsl : (bl s).length = s.size := bl_len s
  have hn0 := hsf.1
  clear hsf
  generalize spl (bl s) = ls at *
  generalize encK (bl s) = F at *
  generalize ba (encL (bl s)) = R at *
  go_enter Tryd.func10, Tryd.ntmps10
  go_wp2_with fail
  refine HL.out.mono ?_
  rintro e w1 ⟨u, rfl, hf⟩
  obtain ⟨n, hn⟩ : ∃ n, n = ls.length := ⟨_, rfl⟩
  obtain ⟨ua, uc, rfl, hsh⟩ := strs_shape (owns_readsS hf.1) (n := n) (by rw [hn, List.length_map])
  have HV : Hid (∀ i x, ls[i]? = some x → ∃ b, ua = some ⟨b, 0, none⟩ ∧ b < w1.heap.size ∧ w1.cell? ⟨b, i, none⟩ = some (.string (ba x))) := Lib.hid (fun i x h => hsh i (ba x) (by rw [List.getElem?_map, h]; rfl))
  have HB1 := Lib.hid hf.2
  have HNN := Lib.hid hn
  have hpos : 0 < n := by rw [hn]; exact List.length_pos_iff.2 hne
  have hnz : n ≤ s.size + 1 := by omega
  clear hf hsh hne
  obtain ⟨x0, hx0⟩ : ∃ a, ls[0]? = some a := ⟨ls[0]'(by omega), List.getElem?_eq_getElem _⟩
  clear hn
  obtain ⟨g, rfl, hg, hc⟩ := HV.out 0 x0 hx0
  have H0 := Lib.hid (HLI.out x0 w1 (List.mem_of_getElem? hx0))
  have HF1 := Lib.hid (HON.out x0 hx0)
  clear hx0 HON
  go_wp2_with fail
  refine H0.out.mono ?_
  rintro e w2 ⟨rfl, hb⟩
  have HB2 := Lib.hid (HB1.out.trans (hb.mono HB1.out.size))
  have HC2 : Hid (∀ i x, ls[i]? = some x → w2.cell? ⟨g, i, none⟩ = some (.string (ba x))) := Lib.hid (fun i x h => by
    obtain ⟨g', e, _, h2⟩ := HV.out i x h
    obtain rfl : g = g' := by injection e with e; injection e
    rw [hb.cell (p := ⟨g, i, none⟩) hg]
    exact h2)
  have hg2 : g < w2.heap.size := Nat.lt_of_lt_of_le hg hb.size
  clear hb hg hc
  rw [← HF1.out]
  go_wp2_with fail
  go_loopw [4, 5] (fun o i wr => ∃ k : Nat, 1 ≤ k ∧ k ≤ n ∧ i = .int .i64 k ∧ o = .string (F k) ∧ Hid (Below w2.heap.size w2 wr)) (fun _ i _ => n - (intOf i).toNat)
  case atStart => exact ⟨1, Nat.le_refl _, hpos, rfl, rfl, Lib.hid (Below.refl _ _)⟩
  case round =>
    obtain ⟨k, hk1, hk, rfl, rfl, hB⟩ := hrel
    have hfz := HZ.out k
    rw [hsl] at hfz
    by_cases hlt : k < n
    · obtain ⟨x, hx⟩ : ∃ a, ls[k]? = some a := ⟨ls[k]'(by have := HNN.out; omega), List.getElem?_eq_getElem _⟩
      have hcell : wr.cell? ⟨g, k, none⟩ = some (.string (ba x)) := by rw [hB.out.cell (p := ⟨g, k, none⟩) hg2]; exact HC2.out k x hx
      have H1 := Lib.hid (HLI.out x wr (List.mem_of_getElem? hx))
      have HS1 := Lib.hid (HST.out k x hx hk1)
      have hfz1 := HZ.out (k + 1)
      rw [hsl, ← HS1.out, ByteArray.size_append, ByteArray.size_append, show (⟨#[13, 10]⟩ : ByteArray).size = 2 from rfl] at hfz1
      clear hx
      generalize ba (lnW 0 x) = y at *
      go_wp2_with fail
      refine H1.out.mono ?_
      rintro e w3 ⟨rfl, hb⟩
      have HB3 := Lib.hid (hB.out.trans (hb.mono hB.out.size))
      clear hb
      go_wp2_with fail
      go_roundw
      case rel => exact ⟨k + 1, by omega, by omega, by simp, by rw [← HS1.out], HB3⟩
      case measure => simp [intOf]; omega
    · have HE := Lib.hid (HAL.out k (by have := HNN.out; omega))
      have HB3 := Lib.hid (HB2.out.trans (hB.out.mono HB2.out.size))
      go_wp2_with fail
      go_ret
      exact ⟨ret_str HE.out, HB3.out⟩
end Go.Proofs.YtobnckbpgckgjaaDoor.Qp
