/-
  Walks: writeLine, Encode.
-/
import Derived.Test.YtobnckbpgckgjaaDoorQpDecode
namespace Go.Proofs.YtobnckbpgckgjaaDoor.Qp
open Go Go.RowKit
open Go.Proofs.YtobnckbpgckgjaaDoor.Head
open Go.Proofs.YtobnckbpgckgjaaDoor.Lex (BuiltAt wbyte wstr wend)

/-! A line, written. -/
/-- What is written so far: k bytes are out, so many since the last line end. -/
structure WlAt (s : ByteArray) (w wr : World) (acc : List UInt8) (k size : Nat) : Prop where
  out : ∃ o, lnW 0 (bl s) = o ++ lnW size ((bl s).drop k) ∧ o.length ≤ 6 * k ∧ BuiltAt w wr (acc ++ o)
abbrev softL : ByteArray := ⟨#[61, 13, 10]⟩
theorem drop_last (s : ByteArray) (k : Nat) : ((bl s).drop (k + 1)).isEmpty = decide (s.size ≤ k + 1) := by
  rw [Bool.eq_iff_iff, List.isEmpty_iff, List.drop_eq_nil_iff, bl_len, decide_eq_true_iff]
theorem ba1 (s : ByteArray) (k : Nat) (h : k < s.size) : s.extract k (k + 1) = ba [s[k]] := by
  have h1 : bl (s.extract k (k + 1)) = [s[k]] := by
    rw [bl_extract, drop_cons s k h, show k + 1 - k = 1 by omega]
    rfl
  exact bl_inj (h1.trans (bl_ba _).symm)
set_option maxRecDepth 100000 in
set_option maxHeartbeats 2000000 in
theorem writeLine_any (w wr : World) (acc : List UInt8) (s : ByteArray) (h : BuiltAt w wr acc) (ha : acc.length ≤ 100000000) (hs : s.size ≤ 10000000) :
    Calls Tryd.prog 16 #[.pointer (some ⟨w.heap.size, 0, none⟩), .string s] wr fun e w' => e = .returned (.tuple #[]) ∧ BuiltAt w w' (acc ++ lnW 0 (bl s)) := by
  have HI : Hid (WlAt s w wr acc 0 0) := Lib.hid ⟨[], by simp, by simp, by rw [List.append_nil]; exact h⟩
  have HP := Lib.hid ha
  have HWS : Hid (∀ W a (x : ByteArray), BuiltAt w W a → a.length ≤ 200000000 → x.size ≤ 10 → Calls Tryd.prog 17 #[.pointer (some ⟨w.heap.size, 0, none⟩), .string x] W fun e w' => e = .returned (.tuple #[.int .i64 x.size, .nilIface]) ∧ BuiltAt w w' (a ++ bl x)) := Lib.hid (fun W a x h1 h2 h3 => wstr w W a x h1 (by omega) (by omega))
  clear h ha
  go_enter Tryd.func16, Tryd.ntmps16
  go_wp2_with fail
  go_loopw [4, 9] (fun z i wr => ∃ (k size : Nat), k ≤ s.size ∧ size ≤ 75 ∧ i = .int .i64 k ∧ z = .int .i64 size ∧ Hid (WlAt s w wr acc k size)) (fun _ i _ => s.size - (intOf i).toNat)
  case atStart => exact ⟨0, 0, Nat.zero_le _, Nat.zero_le _, rfl, rfl, HI⟩
  case round =>
    clear HI
    obtain ⟨k, size, hk, hz, rfl, rfl, hW⟩ := hrel
    by_cases hlt : k < s.size
    · have hd := drop_cons s k hlt
      have hl := drop_last s k
      have hsub : (s.size : Int) - 1 = ((s.size - 1 : Nat) : Int) := by omega
      have HS : Hid (∀ b W, Calls Tryd.prog 29 #[.int .u8 s[k].toNat, .bool b] W fun e w' => e = .returned (.bool (selfB s[k] b)) ∧ W = w') := Lib.hid (fun b W => self_any s[k] b W)
      have HES := Lib.hid (fun W => escape_any s[k] W)
      have hex : bl (s.extract k (k + 1)) = [s[k]] := by rw [ba1 s k hlt, bl_ba]
      have hexz : (s.extract k (k + 1)).size = 1 := by rw [ByteArray.size_extract]; omega
      have hq : ((k : Int) == ((s.size - 1 : Nat) : Int)) = decide (s.size ≤ k + 1) := by
        rw [Bool.eq_iff_iff, beq_iff_eq, decide_eq_true_iff]
        omega
      have hstep : lnW size ((bl s).drop k) = if 75 < size + (wrt (decide (s.size ≤ k + 1)) s[k]).length then 61 :: 13 :: 10 :: (wrt (decide (s.size ≤ k + 1)) s[k] ++ lnW (wrt (decide (s.size ≤ k + 1)) s[k]).length ((bl s).drop (k + 1))) else wrt (decide (s.size ≤ k + 1)) s[k] ++ lnW (size + (wrt (decide (s.size ≤ k + 1)) s[k]).length) ((bl s).drop (k + 1)) := by
        rw [hd, lnW, hl]
      clear hd hl
      generalize decide (s.size ≤ k + 1) = last at *
      have HQ : wrt last s[k] = if selfB s[k] last then [s[k]] else esc s[k] := rfl
      have HS1 := Lib.hid (HS.out last)
      cases hsf : selfB s[k] last
      · -- an escape
        have hw : wrt last s[k] = esc s[k] := by rw [HQ, hsf]; rfl
        have he3 : (ba (esc s[k])).size = 3 := rfl
        rw [hsf] at HS1
        rw [hw] at hstep
        have hl3 : (esc s[k]).length = 3 := rfl
        rw [hl3] at hstep
        have hbe : bl (ba (esc s[k])) = esc s[k] := bl_ba _
        clear HQ HS hw hsf hex hexz
        generalize hE : esc s[k] = E at *
        by_cases hg : 75 < size + 3
        · have hg' : (size : Int) + 3 > 75 := by omega
          rw [if_pos hg] at hstep
          have HN : Hid (∃ o, o.length ≤ 6 * k ∧ BuiltAt w wr (acc ++ o) ∧ ∀ W, BuiltAt w W (((acc ++ o) ++ [61, 13, 10]) ++ E) → WlAt s w W acc (k + 1) 3) := Lib.hid (by
            obtain ⟨o, h1, h2, h3⟩ := hW.out.out
            refine ⟨o, h2, h3, fun W h4 => ⟨o ++ ([61, 13, 10] ++ E), ?_, ?_, by simpa using h4⟩⟩
            · rw [h1, hstep]; simp
            · simp only [List.length_append, List.length_cons, List.length_nil]; omega)
          have hsz : ((ba E).size : Int) = 3 := by rw [he3]; rfl
          clear hstep hW hg hE
          have HHE := Lib.hid hbe
          have HE3 := Lib.hid he3
          clear hbe he3
          generalize ba E = eb at *
          go_wp2_with fail
          refine (HS1.out _).mono ?_
          rintro e w1 ⟨rfl, rfl⟩
          go_wp2_with fail
          refine (HES.out _).mono ?_
          rintro e w1 ⟨rfl, hb⟩
          have HN1 := Lib.hid (show ∃ o, o.length ≤ 6 * k ∧ BuiltAt w w1 (acc ++ o) ∧ ∀ W, BuiltAt w W (((acc ++ o) ++ [61, 13, 10]) ++ E) → WlAt s w W acc (k + 1) 3 from by
            obtain ⟨o, h1, h2, h3⟩ := HN.out
            exact ⟨o, h1, h2.kept hb, h3⟩)
          clear hb HN
          go_wp2_with fail
          obtain ⟨o, ho, hb, hn⟩ := HN1.out
          refine (HWS.out w1 (acc ++ o) softL hb (by rw [List.length_append]; have := HP.out; omega) (by decide)).mono ?_
          rintro e w2 ⟨rfl, hb2⟩
          have HB2 := Lib.hid hb2
          have HNN := Lib.hid hn
          clear hb hb2 hn HN1
          go_wp2_with fail
          refine (HWS.out w2 ((acc ++ o) ++ bl softL) eb HB2.out (by rw [List.length_append, List.length_append, bl_len]; have := HP.out; have : softL.size = 3 := rfl; omega) (by rw [HE3.out]; decide)).mono ?_
          rintro e w3 ⟨rfl, hb3⟩
          rw [HHE.out] at hb3
          have HB3 := Lib.hid (HNN.out w3 hb3)
          clear hb3 HNN HB2
          go_wp2_with fail
          go_roundw
          case rel => exact ⟨k + 1, 3, by omega, by omega, by go_num, by simp, HB3⟩
          case measure => simp [intOf]; omega
        · have hg' : ¬ (size : Int) + 3 > 75 := by omega
          rw [if_neg hg] at hstep
          have HN : Hid (∃ o, o.length ≤ 6 * k ∧ BuiltAt w wr (acc ++ o) ∧ ∀ W, BuiltAt w W ((acc ++ o) ++ E) → WlAt s w W acc (k + 1) (size + 3)) := Lib.hid (by
            obtain ⟨o, h1, h2, h3⟩ := hW.out.out
            refine ⟨o, h2, h3, fun W h4 => ⟨o ++ E, ?_, ?_, by simpa using h4⟩⟩
            · rw [h1, hstep]; simp
            · simp only [List.length_append]; omega)
          have hsz : ((ba E).size : Int) = 3 := by rw [he3]; rfl
          clear hstep hW hE
          have HHE := Lib.hid hbe
          have HE3 := Lib.hid he3
          clear hbe he3
          generalize ba E = eb at *
          go_wp2_with fail
          refine (HS1.out _).mono ?_
          rintro e w1 ⟨rfl, rfl⟩
          go_wp2_with fail
          refine (HES.out _).mono ?_
          rintro e w1 ⟨rfl, hb⟩
          have HN1 := Lib.hid (show ∃ o, o.length ≤ 6 * k ∧ BuiltAt w w1 (acc ++ o) ∧ ∀ W, BuiltAt w W ((acc ++ o) ++ E) → WlAt s w W acc (k + 1) (size + 3) from by
            obtain ⟨o, h1, h2, h3⟩ := HN.out
            exact ⟨o, h1, h2.kept hb, h3⟩)
          clear hb HN
          go_wp2_with fail
          obtain ⟨o, ho, hb, hn⟩ := HN1.out
          refine (HWS.out w1 (acc ++ o) eb hb (by rw [List.length_append]; have := HP.out; omega) (by rw [HE3.out]; decide)).mono ?_
          rintro e w3 ⟨rfl, hb3⟩
          rw [HHE.out] at hb3
          have HB3 := Lib.hid (hn w3 hb3)
          clear hb hb3 hn HN1
          go_wp2_with fail
          go_roundw
          case rel => exact ⟨k + 1, size + 3, by omega, by omega, by go_num, by simp, HB3⟩
          case measure => simp [intOf]; omega
      · -- the byte itself
        have hw : wrt last s[k] = [s[k]] := by rw [HQ, hsf]; rfl
        rw [hsf] at HS1
        rw [hw] at hstep
        have hl1 : ([s[k]] : List UInt8).length = 1 := rfl
        rw [hl1] at hstep
        clear HQ HS HES hw hsf hl1
        have HHE := Lib.hid hex
        clear hex
        by_cases hg : 75 < size + 1
        · have hg' : (size : Int) + 1 > 75 := by omega
          rw [if_pos hg] at hstep
          have HN : Hid (∃ o, o.length ≤ 6 * k ∧ BuiltAt w wr (acc ++ o) ∧ ∀ W, BuiltAt w W (((acc ++ o) ++ [61, 13, 10]) ++ [s[k]]) → WlAt s w W acc (k + 1) 1) := Lib.hid (by
            obtain ⟨o, h1, h2, h3⟩ := hW.out.out
            refine ⟨o, h2, h3, fun W h4 => ⟨o ++ ([61, 13, 10] ++ [s[k]]), ?_, ?_, by simpa using h4⟩⟩
            · rw [h1, hstep]; simp
            · simp only [List.length_append, List.length_cons, List.length_nil]; omega)
          clear hstep hW hg
          go_wp2_with fail
          refine (HS1.out _).mono ?_
          rintro e w1 ⟨rfl, rfl⟩
          go_wp2_with fail
          obtain ⟨o, ho, hb, hn⟩ := HN.out
          refine (HWS.out wr (acc ++ o) softL hb (by rw [List.length_append]; have := HP.out; omega) (by decide)).mono ?_
          rintro e w2 ⟨rfl, hb2⟩
          have HB2 := Lib.hid hb2
          have HNN := Lib.hid hn
          clear hb hb2 hn HN
          go_wp2_with fail
          refine (HWS.out w2 ((acc ++ o) ++ bl softL) (s.extract k (k + 1)) HB2.out (by rw [List.length_append, List.length_append, bl_len]; have := HP.out; have : softL.size = 3 := rfl; omega) (by rw [hexz]; decide)).mono ?_
          rintro e w3 ⟨rfl, hb3⟩
          rw [HHE.out] at hb3
          have HB3 := Lib.hid (HNN.out w3 hb3)
          clear hb3 HNN HB2
          go_wp2_with fail
          go_roundw
          case rel => exact ⟨k + 1, 1, by omega, by omega, by go_num, by simp, HB3⟩
          case measure => simp [intOf]; omega
        · have hg' : ¬ (size : Int) + 1 > 75 := by omega
          rw [if_neg hg] at hstep
          have HN : Hid (∃ o, o.length ≤ 6 * k ∧ BuiltAt w wr (acc ++ o) ∧ ∀ W, BuiltAt w W ((acc ++ o) ++ [s[k]]) → WlAt s w W acc (k + 1) (size + 1)) := Lib.hid (by
            obtain ⟨o, h1, h2, h3⟩ := hW.out.out
            refine ⟨o, h2, h3, fun W h4 => ⟨o ++ [s[k]], ?_, ?_, by simpa using h4⟩⟩
            · rw [h1, hstep]; simp
            · simp only [List.length_append, List.length_cons, List.length_nil]; omega)
          clear hstep hW
          go_wp2_with fail
          refine (HS1.out _).mono ?_
          rintro e w1 ⟨rfl, rfl⟩
          go_wp2_with fail
          obtain ⟨o, ho, hb, hn⟩ := HN.out
          refine (HWS.out wr (acc ++ o) (s.extract k (k + 1)) hb (by rw [List.length_append]; have := HP.out; omega) (by rw [hexz]; decide)).mono ?_
          rintro e w3 ⟨rfl, hb3⟩
          rw [HHE.out] at hb3
          have HB3 := Lib.hid (hn w3 hb3)
          clear hb hb3 hn HN
          go_wp2_with fail
          go_roundw
          case rel => exact ⟨k + 1, size + 1, by omega, by omega, by go_num, by simp, HB3⟩
          case measure => simp [intOf]; omega
    · have HE : Hid (BuiltAt w wr (acc ++ lnW 0 (bl s))) := Lib.hid (by
        obtain ⟨o, h1, h2, h3⟩ := hW.out.out
        rw [drop_end s k hlt, show lnW size [] = [] from rfl, List.append_nil] at h1
        rw [h1]
        exact h3)
      clear hW
      go_wp2_with fail
      go_end0
      exact ⟨rfl, HE.out⟩

/-! Encode. -/
/-- What is written so far, where more is to be written or not. -/
structure EcAt (s : ByteArray) (w wr : World) (more : Bool) (rest : ByteArray) (acc : List UInt8) : Prop where
  eq : if more = true then encL (bl s) = acc ++ encL (bl rest) else encL (bl s) = acc
  built : BuiltAt w wr acc
  few : acc.length + 6 * rest.size ≤ 6 * s.size
  size : rest.size ≤ s.size
set_option maxRecDepth 100000 in
set_option maxHeartbeats 2000000 in
theorem encode_any (s : ByteArray) (w : World) (hs : s.size ≤ 1000000) (hm : MaxAt w) :
    Calls Tryd.prog 9 #[.string s] w fun e w' => e = .returned (.string (ba (encL (bl s)))) ∧ Below w.heap.size w w' := by
  have HI : Hid (EcAt s w (w.alloc (.cells #[.pointer none, .slice none 0 0] 37)) true s []) := Lib.hid ⟨by rw [if_pos rfl, List.nil_append], BuiltAt.start w, by simp, Nat.le_refl _⟩
  have HM := Lib.hid hm
  have HL : Hid (∀ W a l, BuiltAt w W a → a.length ≤ 6000000 → l.size ≤ 1000000 → Calls Tryd.prog 16 #[.pointer (some ⟨w.heap.size, 0, none⟩), .string l] W fun e w' => e = .returned (.tuple #[]) ∧ BuiltAt w w' (a ++ lnW 0 (bl l))) := Lib.hid (fun W a l h1 h2 h3 => writeLine_any w W a l h1 (by omega) (by omega))
  clear hm
  go_enter Tryd.func9, Tryd.ntmps9
  go_wp2_with fail
  go_loopw [0, 4] (fun v m wr => ∃ (rest : ByteArray) (more : Bool) (acc : List UInt8), v = .string rest ∧ m = .bool more ∧ Hid (EcAt s w wr more rest acc)) (fun v m _ => moreSz v m)
  case atStart => exact ⟨s, true, [], rfl, rfl, HI⟩
  case round =>
    clear HI
    obtain ⟨rest, more, acc, rfl, rfl, hD⟩ := hrel
    have hrz : rest.size ≤ 1000000 := by have := hD.out.size; omega
    have haz : acc.length ≤ 6000000 := by have := hD.out.few; omega
    cases more
    · have HE := Lib.hid hD.out.eq
      rw [if_neg (by decide)] at HE
      have HW := Lib.hid (wend w wr acc hD.out.built)
      go_wp2_with fail
      refine HW.out.mono ?_
      rintro e w1 ⟨rfl, hb⟩
      have HB := Lib.hid hb
      clear hb
      go_wp2_with fail
      go_ret
      exact ⟨by rw [HE.out]; rfl, HB.out⟩
    · have heq := hD.out.eq
      rw [if_pos rfl] at heq
      cases hc : cut2 (bl rest) with
      | none =>
        have HC := Lib.hid (cutN_any rest wr (by omega) (HM.out.below hD.out.built.2) hc)
        rw [enc_none hc] at heq
        have hll := lnW_len 0 (bl rest)
        rw [bl_len] at hll
        have HN : Hid (∀ W, BuiltAt w W (acc ++ lnW 0 (bl rest)) → EcAt s w W false ⟨#[]⟩ (acc ++ lnW 0 (bl rest))) := Lib.hid (fun W h => ⟨by rw [if_neg (by decide)]; exact heq, h, by rw [List.length_append]; have := hD.out.few; have h0 : (⟨#[]⟩ : ByteArray).size = 0 := rfl; rw [h0]; omega, Nat.zero_le _⟩)
        clear heq hc hll
        go_wp2_with fail
        refine HC.out.mono ?_
        rintro e w1 ⟨rfl, hb⟩
        have HB1 := Lib.hid (hD.out.built.kept hb)
        clear hb
        go_wp2_with fail
        refine (HL.out w1 acc rest HB1.out haz hrz).mono ?_
        rintro e w2 ⟨rfl, hb⟩
        have HB2 := Lib.hid (HN.out w2 hb)
        clear hb
        go_wp2_with fail
        go_roundw
        case rel => exact ⟨_, _, _, rfl, rfl, HB2⟩
        case measure => simp [moreSz]
      | some p =>
        obtain ⟨t, r⟩ := p
        have HC := Lib.hid (cutS_any rest t r wr (by omega) (HM.out.below hD.out.built.2) hc)
        rw [enc_some hc] at heq
        have hlen := cut2_len hc
        rw [bl_len] at hlen
        have hll := lnW_len 0 t
        have htz : (ba t).size = t.length := ba_size t
        have hrz2 : (ba r).size = r.length := ba_size r
        have hbt : bl (ba t) = t := bl_ba t
        have hbr : bl (ba r) = r := bl_ba r
        have HN : Hid (∀ W, BuiltAt w W ((acc ++ lnW 0 (bl (ba t))) ++ bl endS) → EcAt s w W true (ba r) ((acc ++ lnW 0 (bl (ba t))) ++ bl endS)) := Lib.hid (fun W h => ⟨by
          rw [if_pos rfl, heq, hbt, hbr]
          show _ = ((acc ++ lnW 0 t) ++ [13, 10]) ++ _
          simp, h, by
          have := hD.out.few
          rw [hbt, List.length_append, List.length_append, bl_len, show endS.size = 2 from rfl]
          omega, by have := hD.out.size; omega⟩)
        have hal : (acc ++ lnW 0 (bl (ba t))).length ≤ 1000000000 := by rw [hbt, List.length_append]; omega
        have htl : (ba t).size ≤ 1000000 := by omega
        have hrr : (ba r).size < rest.size := by omega
        clear heq hc hll hbt hbr hlen htz hrz2
        generalize ba t = tb at *
        generalize ba r = rb at *
        go_wp2_with fail
        refine HC.out.mono ?_
        rintro e w1 ⟨rfl, hb⟩
        have HB1 := Lib.hid (hD.out.built.kept hb)
        clear hb
        go_wp2_with fail
        refine (HL.out w1 acc tb HB1.out haz htl).mono ?_
        rintro e w2 ⟨rfl, hb⟩
        have HB2 := Lib.hid hb
        clear hb
        go_wp2_with fail
        refine (wstr w w2 (acc ++ lnW 0 (bl tb)) endS HB2.out hal (by decide)).mono ?_
        rintro e w3 ⟨rfl, hb⟩
        have HB3 := Lib.hid (HN.out w3 hb)
        clear hb
        go_wp2_with fail
        go_roundw
        case rel => exact ⟨_, _, _, rfl, rfl, HB3⟩
        case measure => simp [moreSz, strSz]; omega
end Go.Proofs.YtobnckbpgckgjaaDoor.Qp
