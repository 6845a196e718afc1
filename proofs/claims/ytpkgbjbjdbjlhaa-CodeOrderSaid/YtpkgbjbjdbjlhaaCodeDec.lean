/-
  The program's decoder.
-/
import Derived.Test.YtpkgbjbjdbjlhaaCodeEnc
namespace Go.Proofs.Ytpkgbjbjdbjlhaa.Code
open Go.RowKit

/-- The first so many bytes of signs. -/
def outP (w : Nat) (D t : List UInt8) (q : Nat) : List UInt8 := (List.range q).map fun i => byt (sg (strV w D t) (8 * i) 8)
theorem outP_len (w : Nat) (D t : List UInt8) (q : Nat) : (outP w D t q).length = q := by simp [outP]
theorem outP_next (w : Nat) (D t : List UInt8) (q : Nat) : Lib.byteCells (outP w D t (q + 1)) = Lib.byteCells (outP w D t q) ++ [.int .u8 (sg (strV w D t) (8 * q) 8 : Nat)] := by
  have e : (byt (sg (strV w D t) (8 * q) 8)).toNat = sg (strV w D t) (8 * q) 8 := byt_toNat _ (sg_lt _ (strV_bit w D t) _ 8)
  unfold outP Lib.byteCells
  rw [List.range_succ]
  simp [e]
/-- OK, or ErrForm. -/
def codeOf (w : Nat) (D t : List UInt8) : Int := if okB w D t then 0 else 3
theorem val_of {D : List UInt8} {c : UInt8} (h : D.contains c = true) : valI D c = (D.idxOf c : Nat) := by
  unfold valI; rw [if_pos h]
theorem not_in {D t : List UInt8} (j : Nat) (hj : j < t.length) (h : D.contains (t.getD j 0) = false) : allIn D t = false := by
  rw [Bool.eq_false_iff]
  intro ha
  rw [allIn_at ha j hj] at h
  cases h
theorem all_in {D t : List UInt8} (h : ∀ j, j < t.length → D.contains (t.getD j 0) = true) : allIn D t = true := by
  unfold allIn
  rw [List.all_eq_true]
  intro c hc
  obtain ⟨j, hj, rfl⟩ := List.getElem_of_mem hc
  have := h j hj
  rwa [List.getD_eq_getElem?_getD, List.getElem?_eq_getElem hj] at this
theorem bad_no {w : Nat} {D t : List UInt8} (h : okB w D t = false) : dec w D t = [] ∧ codeOf w D t = 3 := by
  unfold dec codeOf; rw [h]; exact ⟨rfl, rfl⟩
theorem good_yes {w : Nat} {D t : List UInt8} (h : okB w D t = true) : dec w D t = outB w D t ∧ codeOf w D t = 0 := by
  unfold dec codeOf; rw [h]; exact ⟨rfl, rfl⟩
theorem ok_no {w : Nat} {D t : List UInt8} (h : allIn D t = false) : okB w D t = false := by unfold okB; rw [h]; rfl
theorem strV_word (w : Nat) (D t : List UInt8) (j : Nat) (hj : j < t.length) (h : D.idxOf (t.getD j 0) < 2 ^ w) : sg (strV w D t) (w * j) w = D.idxOf (t.getD j 0) := by
  have e : vAt D t j = D.idxOf (t.getD j 0) := if_pos hj
  rw [← e] at h ⊢
  exact sg_strm w _ j h
theorem str_getD (s : ByteArray) (n : Nat) (h : n < s.size) : (bl s).getD n 0 = s[n] := by
  rw [List.getD_eq_getElem?_getD, List.getElem?_eq_getElem (by rw [bl_len]; exact h)]; rfl
theorem u8_back (c : UInt8) : ((c.toNat : Int).toNat).toUInt8 = c := by simp
/-- The decoder's state: q bytes are out, k bits are left. -/
def DecAt (wd : Nat) (D t : List UInt8) (n : Nat) (w : World) (b h : Value) (wr : World) : Prop :=
  ∃ q k : Nat, wd * n = 8 * q + k ∧ k < 8 ∧ b = .int .i64 (sg (strV wd D t) (8 * q) k : Nat) ∧ h = .int .i64 k ∧
    Lib.IsBuilder 47 5 w.heap.size w.heap.size (Lib.byteCells (outP wd D t q)) wr ∧ Below w.heap.size w wr
def DecOut (wd : Nat) (D : List UInt8) (s : ByteArray) (w : World) (b h i : Value) (wr : World) : Prop :=
  ∃ n : Nat, n ≤ s.size ∧ i = .int .i64 n ∧ (∀ j, j < n → D.contains ((bl s).getD j 0) = true) ∧ DecAt wd D (bl s) n w b h wr
theorem tuple_eq {a b : ByteArray} {x y : Int} (h : a = b) (k : x = y) : Ending.returned (.tuple #[.string a, .int .i64 x]) = .returned (.tuple #[.string b, .int .i64 y]) := by rw [h, k]

set_option maxRecDepth 100000 in
set_option maxHeartbeats 1000000 in
theorem decode_5 (s S : ByteArray) (w : World) (T : Tab 5 (bl S)) (hs : s.size ≤ 100000) :
    Calls Try.prog 19 #[.string s, .string S, .int .i64 5] w fun e w' => e = .returned (.tuple #[.string (ba (dec 5 (bl S) (bl s))), .int .i64 (codeOf 5 (bl S) (bl s))]) ∧ Below w.heap.size w w' := by
  have hlen := bl_len s
  have HI : Hid (DecOut 5 (bl S) s w (.int .i64 0) (.int .i64 0) (.int .i64 0) (w.alloc (.cells #[.pointer none, .slice none 0 0] 47))) :=
    ⟨0, Nat.zero_le _, rfl, fun j h => absurd h (Nat.not_lt_zero j), 0, 0, rfl, by omega, rfl, rfl, fresh w, (Below.refl _ _).alloc (Nat.le_refl _) _⟩
  have HL := Lib.hid hlen
  clear hlen
  go_enter Try.func19, Try.ntmps19
  go_wp2
  go_loopw [9, 10, 11, 12, 15] (fun b h _ _ i wr => DecOut 5 (bl S) s w b h i wr) (fun _ _ _ _ i _ => s.size - (intOf i).toNat)
  case atStart => exact HI.out
  case round =>
    clear HI
    obtain ⟨n, hn, rfl, hall, q, k, hq, hk, rfl, rfl, hB, hb⟩ := hrel
    have HE := Lib.hid (And.intro hB hb)
    have HA := Lib.hid hall
    clear hB hb hall
    have hx := sg_lt (strV 5 (bl S) (bl s)) (strV_bit _ _ _) (8 * q) k
    have hx2 : sg (strV 5 (bl S) (bl s)) (8 * q) k < 256 := Nat.lt_of_lt_of_le hx (Nat.pow_le_pow_right (by decide) (by omega : k ≤ 8))
    clear hx
    by_cases hlt : n < s.size
    · have h8 : s[n].toNat < 256 := s[n].toNat_lt
      have hgd := str_getD s n hlt
      cases hc : (bl S).contains s[n] with
      | false =>
        have HV : Hid (valI (bl S) s[n] = -1) := by
          show _ = _
          unfold valI; rw [hc]; rfl
        have HD := Lib.hid (bad_no (w := 5) (ok_no (not_in n (by rw [HL.out]; exact hlt) (by rw [hgd]; exact hc))))
        clear hgd hc hq
        go_wp2_with fail
        refine (index_any _ _ _).mono ?_
        rintro e' w1 ⟨rfl, rfl⟩
        rw [u8_back, index_val, HV.out]
        go_wp2
        go_ret2
        exact ⟨tuple_eq (by rw [HD.out.1]) HD.out.2.symm, HE.out.2⟩
      | true =>
        have HV : Hid (valI (bl S) s[n] = ((bl S).idxOf s[n] : Nat)) := val_of hc
        have hv := idx_lt T hc
        have hv2 : (bl S).idxOf s[n] < 32 := Nat.lt_of_lt_of_le hv (by decide)
        have HX : Hid (bits .or .i64 ((sg (strV 5 (bl S) (bl s)) (8 * q) k : Nat) * 32 : Int) ((bl S).idxOf s[n] : Nat) = (sg (strV 5 (bl S) (bl s)) (8 * q) (k + 5) : Nat)) := by
          show _ = _
          have h3 := join_nat (sg (strV 5 (bl S) (bl s)) (8 * q) k) ((bl S).idxOf s[n]) 5 (by decide) (by omega) hv
          rw [sg_add, ← hq, strV_word 5 _ _ n (by rw [HL.out]; exact hlt) (by rw [hgd]; exact hv), hgd]
          exact h3
        have HA2 : Hid (∀ j, j < n + 1 → (bl S).contains ((bl s).getD j 0) = true) := by
          intro j hj
          by_cases e : j = n
          · subst e; rw [hgd]; exact hc
          · exact HA.out j (by omega)
        have HQ := Lib.hid hq
        have hqi : q ≤ 100000 := by omega
        clear hgd hc hq hv
        by_cases h8k : 8 ≤ k + 5
        · obtain ⟨m, hm⟩ : ∃ m, k + 5 = 8 + m := ⟨k + 5 - 8, by omega⟩
          have hm8 : m < 8 := by omega
          obtain ⟨M, hM, hM2, q1, q2⟩ := pow_at m hm8
          have hd : (sg (strV 5 (bl S) (bl s)) (8 * q) (k + 5) : Int) / (M : Int) = (sg (strV 5 (bl S) (bl s)) (8 * q) 8 : Nat) := by
            rw [← hM, hm, ← sg_div _ (strV_bit 5 (bl S) (bl s)) (8 * q) 8 m]; simp
          have hy := sg_lt (strV 5 (bl S) (bl s)) (strV_bit _ _ _) (8 * q) 8
          have hz := sg_lt (strV 5 (bl S) (bl s)) (strV_bit _ _ _) (8 * q) (k + 5)
          have hz2 : sg (strV 5 (bl S) (bl s)) (8 * q) (k + 5) < 8192 := Nat.lt_of_lt_of_le hz (Nat.pow_le_pow_right (by decide) (by omega : k + 5 ≤ 13))
          have HM : Hid (bits .and .i64 (sg (strV 5 (bl S) (bl s)) (8 * q) (k + 5) : Nat) ((M : Int) - 1) = (sg (strV 5 (bl S) (bl s)) (8 * (q + 1)) m : Nat)) := by
            show _ = _
            rw [← hM, mask_nat _ _ (by omega) (by omega), hm, sg_mod _ (strV_bit 5 (bl S) (bl s))]
            rfl
          have hki : (k : Int) + 5 - 8 = (m : Int) := by omega
          have hl : (Lib.byteCells (outP 5 (bl S) (bl s) q)).length + 1 ≤ 140737488355328 := by rw [byteCells_len, outP_len]; omega
          have HLN := Lib.hid hl
          have hxo := HX.out
          have HN := Lib.hid hm
          clear hz hM2 hl hm
          generalize (bl S).idxOf s[n] = v at hv2 HV HX hxo
          go_wp2_with fail
          refine (index_any _ _ _).mono ?_
          rintro e' w1 ⟨rfl, rfl⟩
          rw [u8_back, index_val, HV.out]
          go_wp2_with fail
          refine (bbyte_any _ _ _ (sg (strV 5 (bl S) (bl s)) (8 * q) 8 : Nat) _ HE.out.1 HLN.out HE.out.2.size).mono ?_
          rintro e' w1 ⟨rfl, hB1, hb1⟩
          rw [← outP_next] at hB1
          have HB := Lib.hid (And.intro hB1 (HE.out.2.trans hb1))
          clear hB1 hb1
          go_wp2
          go_roundw
          case rel => exact ⟨n + 1, by omega, by go_num, HA2.out, q + 1, m, by have h1 := HQ.out; have h2 := HN.out; omega, hm8, int_eq (by first | exact HM.out | (rw [wrap_two M q1 q2]; exact HM.out)), int_eq (by omega), .inr HB.out.1, HB.out.2⟩
          case measure => simp [intOf]; omega
        · have hz := sg_lt (strV 5 (bl S) (bl s)) (strV_bit _ _ _) (8 * q) (k + 5)
          generalize (bl S).idxOf s[n] = v at hv2 HV HX
          go_wp2_with fail
          refine (index_any _ _ _).mono ?_
          rintro e' w1 ⟨rfl, rfl⟩
          rw [u8_back, index_val, HV.out]
          go_wp2
          go_roundw
          case rel => exact ⟨n + 1, by omega, by go_num, HA2.out, q, k + 5, by have h1 := HQ.out; omega, by omega, int_eq HX.out, by go_num, HE.out⟩
          case measure => simp [intOf]; omega
    · obtain rfl : n = s.size := by omega
      have hall : allIn (bl S) (bl s) = true := all_in fun j hj => HA.out j (by rw [HL.out] at hj; exact hj)
      have hqe : 5 * (bl s).length / 8 = q := by rw [HL.out]; omega
      have hke : 5 * (bl s).length % 8 = k := by rw [HL.out]; omega
      have hok : okB 5 (bl S) (bl s) = (decide (k < 5) && (sg (strV 5 (bl S) (bl s)) (8 * q) k == 0)) := by
        unfold okB tail0
        rw [hall, hqe, hke]
        rfl
      by_cases h1 : 5 ≤ k
      · have HD := Lib.hid (bad_no (w := 5) (D := bl S) (t := bl s) (by rw [hok, decide_eq_false (by omega)]; rfl))
        clear hq hqe hke hall hok
        go_wp2
        go_ret2
        exact ⟨tuple_eq (by rw [HD.out.1]) HD.out.2.symm, HE.out.2⟩
      · by_cases h2 : sg (strV 5 (bl S) (bl s)) (8 * q) k = 0
        · have HD := Lib.hid (good_yes (w := 5) (D := bl S) (t := bl s) (by rw [hok, decide_eq_true (by omega), h2]; rfl))
          have HO : Hid (outP 5 (bl S) (bl s) q = outB 5 (bl S) (bl s)) := by
            show outP _ _ _ q = outP _ _ _ _
            rw [hqe]
          have g2 : ((sg (strV 5 (bl S) (bl s)) (8 * q) k : Int) != 0) = false := by rw [h2]; rfl
          clear hq hqe hke hall hok h2
          go_wp2_with fail
          refine (Try.Builder_String_any _ _ (outB 5 (bl S) (bl s)) _ (by rw [← HO.out]; exact HE.out.1) HE.out.2.size).mono ?_
          rintro e' w1 ⟨rfl, hb1⟩
          have HB := Lib.hid (HE.out.2.trans hb1)
          clear hb1
          go_wp2
          go_ret2
          exact ⟨tuple_eq (by rw [HD.out.1]) HD.out.2.symm, HB.out⟩
        · have HD := Lib.hid (bad_no (w := 5) (D := bl S) (t := bl s) (by rw [hok, beq_eq_false_iff_ne.2 h2, Bool.and_false]))
          have g2 : ((sg (strV 5 (bl S) (bl s)) (8 * q) k : Int) != 0) = true := by rw [bne_iff_ne]; omega
          clear hq hqe hke hall hok h2
          go_wp2
          go_ret2
          exact ⟨tuple_eq (by rw [HD.out.1]) HD.out.2.symm, HE.out.2⟩
set_option maxRecDepth 100000 in
set_option maxHeartbeats 1000000 in
theorem decode_4 (s S : ByteArray) (w : World) (T : Tab 4 (bl S)) (hs : s.size ≤ 100000) :
    Calls Try.prog 19 #[.string s, .string S, .int .i64 4] w fun e w' => e = .returned (.tuple #[.string (ba (dec 4 (bl S) (bl s))), .int .i64 (codeOf 4 (bl S) (bl s))]) ∧ Below w.heap.size w w' := by
  have hlen := bl_len s
  have HI : Hid (DecOut 4 (bl S) s w (.int .i64 0) (.int .i64 0) (.int .i64 0) (w.alloc (.cells #[.pointer none, .slice none 0 0] 47))) :=
    ⟨0, Nat.zero_le _, rfl, fun j h => absurd h (Nat.not_lt_zero j), 0, 0, rfl, by omega, rfl, rfl, fresh w, (Below.refl _ _).alloc (Nat.le_refl _) _⟩
  have HL := Lib.hid hlen
  clear hlen
  go_enter Try.func19, Try.ntmps19
  go_wp2
  go_loopw [9, 10, 11, 12, 15] (fun b h _ _ i wr => DecOut 4 (bl S) s w b h i wr) (fun _ _ _ _ i _ => s.size - (intOf i).toNat)
  case atStart => exact HI.out
  case round =>
    clear HI
    obtain ⟨n, hn, rfl, hall, q, k, hq, hk, rfl, rfl, hB, hb⟩ := hrel
    have HE := Lib.hid (And.intro hB hb)
    have HA := Lib.hid hall
    clear hB hb hall
    have hx := sg_lt (strV 4 (bl S) (bl s)) (strV_bit _ _ _) (8 * q) k
    have hx2 : sg (strV 4 (bl S) (bl s)) (8 * q) k < 256 := Nat.lt_of_lt_of_le hx (Nat.pow_le_pow_right (by decide) (by omega : k ≤ 8))
    clear hx
    by_cases hlt : n < s.size
    · have h8 : s[n].toNat < 256 := s[n].toNat_lt
      have hgd := str_getD s n hlt
      cases hc : (bl S).contains s[n] with
      | false =>
        have HV : Hid (valI (bl S) s[n] = -1) := by
          show _ = _
          unfold valI; rw [hc]; rfl
        have HD := Lib.hid (bad_no (w := 4) (ok_no (not_in n (by rw [HL.out]; exact hlt) (by rw [hgd]; exact hc))))
        clear hgd hc hq
        go_wp2_with fail
        refine (index_any _ _ _).mono ?_
        rintro e' w1 ⟨rfl, rfl⟩
        rw [u8_back, index_val, HV.out]
        go_wp2
        go_ret2
        exact ⟨tuple_eq (by rw [HD.out.1]) HD.out.2.symm, HE.out.2⟩
      | true =>
        have HV : Hid (valI (bl S) s[n] = ((bl S).idxOf s[n] : Nat)) := val_of hc
        have hv := idx_lt T hc
        have hv2 : (bl S).idxOf s[n] < 32 := Nat.lt_of_lt_of_le hv (by decide)
        have HX : Hid (bits .or .i64 ((sg (strV 4 (bl S) (bl s)) (8 * q) k : Nat) * 16 : Int) ((bl S).idxOf s[n] : Nat) = (sg (strV 4 (bl S) (bl s)) (8 * q) (k + 4) : Nat)) := by
          show _ = _
          have h3 := join_nat (sg (strV 4 (bl S) (bl s)) (8 * q) k) ((bl S).idxOf s[n]) 4 (by decide) (by omega) hv
          rw [sg_add, ← hq, strV_word 4 _ _ n (by rw [HL.out]; exact hlt) (by rw [hgd]; exact hv), hgd]
          exact h3
        have HA2 : Hid (∀ j, j < n + 1 → (bl S).contains ((bl s).getD j 0) = true) := by
          intro j hj
          by_cases e : j = n
          · subst e; rw [hgd]; exact hc
          · exact HA.out j (by omega)
        have HQ := Lib.hid hq
        have hqi : q ≤ 100000 := by omega
        clear hgd hc hq hv
        by_cases h8k : 8 ≤ k + 4
        · obtain ⟨m, hm⟩ : ∃ m, k + 4 = 8 + m := ⟨k + 4 - 8, by omega⟩
          have hm8 : m < 8 := by omega
          obtain ⟨M, hM, hM2, q1, q2⟩ := pow_at m hm8
          have hd : (sg (strV 4 (bl S) (bl s)) (8 * q) (k + 4) : Int) / (M : Int) = (sg (strV 4 (bl S) (bl s)) (8 * q) 8 : Nat) := by
            rw [← hM, hm, ← sg_div _ (strV_bit 4 (bl S) (bl s)) (8 * q) 8 m]; simp
          have hy := sg_lt (strV 4 (bl S) (bl s)) (strV_bit _ _ _) (8 * q) 8
          have hz := sg_lt (strV 4 (bl S) (bl s)) (strV_bit _ _ _) (8 * q) (k + 4)
          have hz2 : sg (strV 4 (bl S) (bl s)) (8 * q) (k + 4) < 8192 := Nat.lt_of_lt_of_le hz (Nat.pow_le_pow_right (by decide) (by omega : k + 4 ≤ 13))
          have HM : Hid (bits .and .i64 (sg (strV 4 (bl S) (bl s)) (8 * q) (k + 4) : Nat) ((M : Int) - 1) = (sg (strV 4 (bl S) (bl s)) (8 * (q + 1)) m : Nat)) := by
            show _ = _
            rw [← hM, mask_nat _ _ (by omega) (by omega), hm, sg_mod _ (strV_bit 4 (bl S) (bl s))]
            rfl
          have hki : (k : Int) + 4 - 8 = (m : Int) := by omega
          have hl : (Lib.byteCells (outP 4 (bl S) (bl s) q)).length + 1 ≤ 140737488355328 := by rw [byteCells_len, outP_len]; omega
          have HLN := Lib.hid hl
          have hxo := HX.out
          have HN := Lib.hid hm
          clear hz hM2 hl hm
          generalize (bl S).idxOf s[n] = v at hv2 HV HX hxo
          go_wp2_with fail
          refine (index_any _ _ _).mono ?_
          rintro e' w1 ⟨rfl, rfl⟩
          rw [u8_back, index_val, HV.out]
          go_wp2_with fail
          refine (bbyte_any _ _ _ (sg (strV 4 (bl S) (bl s)) (8 * q) 8 : Nat) _ HE.out.1 HLN.out HE.out.2.size).mono ?_
          rintro e' w1 ⟨rfl, hB1, hb1⟩
          rw [← outP_next] at hB1
          have HB := Lib.hid (And.intro hB1 (HE.out.2.trans hb1))
          clear hB1 hb1
          go_wp2
          go_roundw
          case rel => exact ⟨n + 1, by omega, by go_num, HA2.out, q + 1, m, by have h1 := HQ.out; have h2 := HN.out; omega, hm8, int_eq (by first | exact HM.out | (rw [wrap_two M q1 q2]; exact HM.out)), int_eq (by omega), .inr HB.out.1, HB.out.2⟩
          case measure => simp [intOf]; omega
        · have hz := sg_lt (strV 4 (bl S) (bl s)) (strV_bit _ _ _) (8 * q) (k + 4)
          generalize (bl S).idxOf s[n] = v at hv2 HV HX
          go_wp2_with fail
          refine (index_any _ _ _).mono ?_
          rintro e' w1 ⟨rfl, rfl⟩
          rw [u8_back, index_val, HV.out]
          go_wp2
          go_roundw
          case rel => exact ⟨n + 1, by omega, by go_num, HA2.out, q, k + 4, by have h1 := HQ.out; omega, by omega, int_eq HX.out, by go_num, HE.out⟩
          case measure => simp [intOf]; omega
    · obtain rfl : n = s.size := by omega
      have hall : allIn (bl S) (bl s) = true := all_in fun j hj => HA.out j (by rw [HL.out] at hj; exact hj)
      have hqe : 4 * (bl s).length / 8 = q := by rw [HL.out]; omega
      have hke : 4 * (bl s).length % 8 = k := by rw [HL.out]; omega
      have hok : okB 4 (bl S) (bl s) = (decide (k < 4) && (sg (strV 4 (bl S) (bl s)) (8 * q) k == 0)) := by
        unfold okB tail0
        rw [hall, hqe, hke]
        rfl
      by_cases h1 : 4 ≤ k
      · have HD := Lib.hid (bad_no (w := 4) (D := bl S) (t := bl s) (by rw [hok, decide_eq_false (by omega)]; rfl))
        clear hq hqe hke hall hok
        go_wp2
        go_ret2
        exact ⟨tuple_eq (by rw [HD.out.1]) HD.out.2.symm, HE.out.2⟩
      · by_cases h2 : sg (strV 4 (bl S) (bl s)) (8 * q) k = 0
        · have HD := Lib.hid (good_yes (w := 4) (D := bl S) (t := bl s) (by rw [hok, decide_eq_true (by omega), h2]; rfl))
          have HO : Hid (outP 4 (bl S) (bl s) q = outB 4 (bl S) (bl s)) := by
            show outP _ _ _ q = outP _ _ _ _
            rw [hqe]
          have g2 : ((sg (strV 4 (bl S) (bl s)) (8 * q) k : Int) != 0) = false := by rw [h2]; rfl
          clear hq hqe hke hall hok h2
          go_wp2_with fail
          refine (Try.Builder_String_any _ _ (outB 4 (bl S) (bl s)) _ (by rw [← HO.out]; exact HE.out.1) HE.out.2.size).mono ?_
          rintro e' w1 ⟨rfl, hb1⟩
          have HB := Lib.hid (HE.out.2.trans hb1)
          clear hb1
          go_wp2
          go_ret2
          exact ⟨tuple_eq (by rw [HD.out.1]) HD.out.2.symm, HB.out⟩
        · have HD := Lib.hid (bad_no (w := 4) (D := bl S) (t := bl s) (by rw [hok, beq_eq_false_iff_ne.2 h2, Bool.and_false]))
          have g2 : ((sg (strV 4 (bl S) (bl s)) (8 * q) k : Int) != 0) = true := by rw [bne_iff_ne]; omega
          clear hq hqe hke hall hok h2
          go_wp2
          go_ret2
          exact ⟨tuple_eq (by rw [HD.out.1]) HD.out.2.symm, HE.out.2⟩
end Go.Proofs.Ytpkgbjbjdbjlhaa.Code
