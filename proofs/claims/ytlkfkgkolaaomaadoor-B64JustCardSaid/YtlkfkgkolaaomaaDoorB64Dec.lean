/-
  Walks: withoutSpace, textOf, Decode.
-/
import Derived.Test.YtlkfkgkolaaomaaDoorB64Enc
import Derived.Test.YtlkfkgkolaaomaaDoorB64Trim
namespace Go.Proofs.YtlkfkgkolaaomaaDoor.B64
open Go Go.RowKit
open Go.Proofs.YtlkfkgkolaaomaaDoor.Code
open Go.Proofs.YtlkfkgkolaaomaaDoor.Lex (bl ba bl_len ba_size bl_ba ba_bl bl_extract bl_from drop_cons drop_end index_any BuiltAt wbyte wstr wend)

/-! withoutSpace. -/
def d4 : List UInt8 := [32, 9, 13, 10]
abbrev whiteB : ByteArray := ⟨#[32, 9, 13, 10]⟩
theorem ws_neg (c : UInt8) : decide (valI d4 c < 0) = !wsB c := by
  have := all256 (p := fun n => decide (valI d4 (UInt8.ofNat n) < 0) == !wsB (UInt8.ofNat n)) (by decide +kernel) c.toNat c.toNat_lt
  simpa using this
structure WsAt (s : ByteArray) (w wr : World) (k : Nat) (acc : List UInt8) : Prop where
  eq : bareL (bl s) = acc ++ bareL ((bl s).drop k)
  built : BuiltAt w wr acc
  few : acc.length ≤ k
set_option maxRecDepth 100000 in
set_option maxHeartbeats 2000000 in
theorem without_any (s : ByteArray) (w : World) (hs : s.size ≤ 100000000) :
    Calls Tryd.prog 14 #[.string s] w fun e w' => e = .returned (.string (ba (bareL (bl s)))) ∧ Below w.heap.size w w' := by
  have HI : Hid (WsAt s w (w.alloc (.cells #[.pointer none, .slice none 0 0] 38)) 0 []) := Lib.hid ⟨by simp, BuiltAt.start w, Nat.le_refl _⟩
  go_enter Tryd.func14, Tryd.ntmps14
  go_wp2_with fail
  go_loopw [4, 7] (fun _ i wr => ∃ (k : Nat) (acc : List UInt8), k ≤ s.size ∧ i = .int .i64 k ∧ Hid (WsAt s w wr k acc)) (fun _ i _ => s.size - (intOf i).toNat)
  case atStart => exact ⟨0, [], Nat.zero_le _, rfl, HI⟩
  case round =>
    clear HI
    obtain ⟨k, acc, hk, rfl, HA⟩ := hrel
    by_cases hlt : k < s.size
    · have HX := Lib.hid (fun W => index_any whiteB (s[k].toNat : Int) W)
      have hv : Lib.indexByte whiteB.data.toList ((s[k].toNat : Int).toNat).toUInt8 = valI d4 s[k] := by
        rw [u8_back, index_val]
        rfl
      rw [hv] at HX
      have hneg := ws_neg s[k]
      have heq := HA.out.eq
      rw [drop_cons s k hlt] at heq
      clear hv
      cases hw : wsB s[k]
      · rw [bare_cons_in _ hw] at heq
        rw [hw] at hneg
        have hng : valI d4 s[k] < 0 := by simpa using hneg
        have HW := Lib.hid (wbyte w wr acc s[k] HA.out.built (by have := HA.out.few; omega))
        have HN : Hid (∀ W, BuiltAt w W (acc ++ [s[k]]) → WsAt s w W (k + 1) (acc ++ [s[k]])) := Lib.hid (fun W h => ⟨by rw [heq]; simp, h, by
          rw [List.length_append]
          have := HA.out.few
          show acc.length + 1 ≤ _
          omega⟩)
        clear heq hneg hw
        generalize valI d4 s[k] = v at *
        go_wp2_with fail
        refine (HX.out _).mono ?_
        rintro e w1 ⟨rfl, rfl⟩
        go_wp2_with fail
        refine HW.out.mono ?_
        rintro e w1 ⟨rfl, hb⟩
        have HB := Lib.hid (HN.out w1 hb)
        clear hb
        go_wp2_with fail
        go_roundw
        case rel => exact ⟨k + 1, _, by omega, by go_num, HB⟩
        case measure => simp [intOf]; omega
      · rw [bare_cons_out _ hw] at heq
        rw [hw] at hneg
        have hng : ¬ valI d4 s[k] < 0 := by simpa using hneg
        have HN : Hid (WsAt s w wr (k + 1) acc) := Lib.hid ⟨heq, HA.out.built, by have := HA.out.few; omega⟩
        clear heq hneg hw
        generalize valI d4 s[k] = v at *
        go_wp2_with fail
        refine (HX.out _).mono ?_
        rintro e w1 ⟨rfl, rfl⟩
        go_wp2_with fail
        go_roundw
        case rel => exact ⟨k + 1, _, by omega, by go_num, HN⟩
        case measure => simp [intOf]; omega
    · have HE : Hid (bareL (bl s) = acc) := Lib.hid (by
        rw [HA.out.eq, drop_end s k hlt]
        show acc ++ [] = acc
        simp)
      have HW := Lib.hid (wend w wr acc HA.out.built)
      clear HA
      go_wp2_with fail
      refine HW.out.mono ?_
      rintro e w1 ⟨rfl, hb⟩
      have HB := Lib.hid hb
      clear hb
      go_wp2_with fail
      go_ret
      exact ⟨ret_str (congrArg ba HE.out.symm), HB.out⟩

/-! textOf. -/
/-- The first so many bytes of letters. -/
def outQ (F : List UInt8) (q : Nat) : List UInt8 := (List.range q).map fun i => byt (sg (strV 6 d64 F) (8 * i) 8)
theorem outQ_len (F : List UInt8) (q : Nat) : (outQ F q).length = q := by simp [outQ]
theorem outQ_done (F : List UInt8) (q : Nat) (h : 6 * F.length / 8 = q) : outQ F q = outB 6 d64 F := by
  subst h
  rfl
theorem outQ_next (F : List UInt8) (q : Nat) : outQ F q ++ [byt (sg (strV 6 d64 F) (8 * q) 8)] = outQ F (q + 1) := by
  unfold outQ
  rw [List.range_succ]
  simp
def rightS (t : List UInt8) : Bool := allIn d64 t
def textV (t : List UInt8) : List UInt8 := if rightS t then outB 6 d64 t else []
theorem not_in {t : List UInt8} (j : Nat) (hj : j < t.length) (h : d64.contains (t.getD j 0) = false) : rightS t = false := by
  unfold rightS
  rw [Bool.eq_false_iff]
  intro ha
  rw [allIn_at ha j hj] at h
  cases h
theorem all_in {t : List UInt8} (h : ∀ j, j < t.length → d64.contains (t.getD j 0) = true) : rightS t = true := by
  unfold rightS allIn
  rw [List.all_eq_true]
  intro c hc
  obtain ⟨j, hj, rfl⟩ := List.getElem_of_mem hc
  have := h j hj
  rwa [List.getD_eq_getElem?_getD, List.getElem?_eq_getElem hj] at this
theorem str_getD (s : ByteArray) (n : Nat) (h : n < s.size) : (bl s).getD n 0 = s[n] := by
  rw [List.getD_eq_getElem?_getD, List.getElem?_eq_getElem (by rw [bl_len]; exact h)]; rfl
theorem strV_word (t : List UInt8) (j : Nat) (hj : j < t.length) (h : d64.idxOf (t.getD j 0) < 64) : sg (strV 6 d64 t) (6 * j) 6 = d64.idxOf (t.getD j 0) := by
  have e : vAt d64 t j = d64.idxOf (t.getD j 0) := if_pos hj
  rw [← e] at h ⊢
  exact sg_strm 6 _ j h
theorem pow_at (m : Nat) (h : m < 8) : ∃ M : Nat, (2 : Int) ^ m = (M : Int) ∧ 2 ^ m = M ∧ 1 ≤ M ∧ M ≤ 128 := by
  have h1 : 2 ^ m ≤ 2 ^ 7 := Nat.pow_le_pow_right (by decide) (by omega)
  exact ⟨2 ^ m, by simp, rfl, Nat.two_pow_pos m, h1⟩
theorem wrap_two (M : Nat) (h1 : 1 ≤ M) (h2 : M ≤ 128) : wrap64 (wrap64 (M : Int) - 1) = (M : Int) - 1 := by
  unfold wrap64
  omega
theorem tupT {a b : ByteArray} {x y : Bool} (h : a = b) (k : x = y) : Ending.returned (.tuple #[.string a, .bool x]) = .returned (.tuple #[.string b, .bool y]) := by rw [h, k]
/-- The decoder's state: q bytes are out, k bits are left. -/
def TxAt (s : ByteArray) (w : World) (b h i : Value) (wr : World) : Prop :=
  ∃ n q k : Nat, n ≤ s.size ∧ i = .int .i64 n ∧ Hid (∀ j, j < n → d64.contains ((bl s).getD j 0) = true) ∧ Hid (6 * n = 8 * q + k) ∧ q ≤ n ∧ k < 8 ∧ b = .int .i64 (sg (strV 6 d64 (bl s)) (8 * q) k : Nat) ∧ h = .int .i64 k ∧ Hid (BuiltAt w wr (outQ (bl s) q))
set_option maxRecDepth 100000 in
set_option maxHeartbeats 2000000 in
theorem text_any (s : ByteArray) (w : World) (hs : s.size ≤ 100000000) :
    Calls Tryd.prog 15 #[.string s] w fun e w' => e = .returned (.tuple #[.string (ba (textV (bl s))), .bool (rightS (bl s))]) ∧ Below w.heap.size w w' := by
  have HI : Hid (TxAt s w (.int .i64 0) (.int .i64 0) (.int .i64 0) (w.alloc (.cells #[.pointer none, .slice none 0 0] 38))) := Lib.hid
    ⟨0, 0, 0, Nat.zero_le _, rfl, Lib.hid (fun j h => absurd h (Nat.not_lt_zero j)), Lib.hid rfl, Nat.le_refl _, by omega, rfl, rfl, Lib.hid (BuiltAt.start w)⟩
  have HL := Lib.hid (bl_len s)
  go_enter Tryd.func15, Tryd.ntmps15
  go_wp2_with fail
  go_loopw [5, 6, 7, 8, 11] (fun b h _ _ i wr => TxAt s w b h i wr) (fun _ _ _ _ i _ => s.size - (intOf i).toNat)
  case atStart => exact HI.out
  case round =>
    clear HI
    obtain ⟨n, q, k, hn, rfl, HA, HQ, hqn, hk, rfl, rfl, HB⟩ := hrel
    have hx := sg_lt (strV 6 d64 (bl s)) (strV_bit _ _ _) (8 * q) k
    have hx2 : sg (strV 6 d64 (bl s)) (8 * q) k < 256 := Nat.lt_of_lt_of_le hx (Nat.pow_le_pow_right (by decide) (by omega : k ≤ 8))
    clear hx
    by_cases hlt : n < s.size
    · have h8 : s[n].toNat < 256 := s[n].toNat_lt
      have hgd := str_getD s n hlt
      have HX := Lib.hid (fun W => index_any tabB (s[n].toNat : Int) W)
      have hv : Lib.indexByte tabB.data.toList ((s[n].toNat : Int).toNat).toUInt8 = valI d64 s[n] := by
        rw [u8_back, index_val]
        rfl
      rw [hv] at HX
      clear hv
      cases hc : d64.contains s[n] with
      | false =>
        rw [val_out hc] at HX
        have hno := not_in n (by rw [HL.out]; exact hlt) (by rw [hgd]; exact hc)
        have HD : Hid (textV (bl s) = [] ∧ rightS (bl s) = false) := Lib.hid ⟨by unfold textV; rw [hno]; rfl, hno⟩
        have HBB := Lib.hid HB.out.2
        clear hgd hc hno HQ HB
        go_wp2_with fail
        refine (HX.out _).mono ?_
        rintro e' w1 ⟨rfl, rfl⟩
        go_wp2_with fail
        go_ret2
        exact ⟨tupT (by rw [HD.out.1]) HD.out.2.symm, HBB.out⟩
      | true =>
        rw [val_in hc] at HX
        have hv2 := idx64 hc
        have HJ : Hid (bits .or .i64 ((sg (strV 6 d64 (bl s)) (8 * q) k : Nat) * 64 : Int) (d64.idxOf s[n] : Nat) = (sg (strV 6 d64 (bl s)) (8 * q) (k + 6) : Nat)) := Lib.hid (by
          have h3 := join_nat (sg (strV 6 d64 (bl s)) (8 * q) k) (d64.idxOf s[n]) 6 (by decide) (by omega) hv2
          rw [sg_add, ← HQ.out, strV_word _ n (by rw [HL.out]; exact hlt) (by rw [hgd]; exact hv2), hgd]
          exact h3)
        have HA2 : Hid (∀ j, j < n + 1 → d64.contains ((bl s).getD j 0) = true) := Lib.hid (by
          intro j hj
          by_cases e : j = n
          · subst e; rw [hgd]; exact hc
          · exact HA.out j (by omega))
        clear hgd hc HA
        by_cases h8k : 8 ≤ k + 6
        · obtain ⟨m, hm⟩ : ∃ m, k + 6 = 8 + m := ⟨k + 6 - 8, by omega⟩
          have hm8 : m < 8 := by omega
          obtain ⟨M, hM, hM2, q1, q2⟩ := pow_at m hm8
          have hd : (sg (strV 6 d64 (bl s)) (8 * q) (k + 6) : Int) / (M : Int) = (sg (strV 6 d64 (bl s)) (8 * q) 8 : Nat) := by
            rw [← hM, hm, ← sg_div _ (strV_bit 6 d64 (bl s)) (8 * q) 8 m]; simp
          have hy := sg_lt (strV 6 d64 (bl s)) (strV_bit _ _ _) (8 * q) 8
          have hz := sg_lt (strV 6 d64 (bl s)) (strV_bit _ _ _) (8 * q) (k + 6)
          have hz2 : sg (strV 6 d64 (bl s)) (8 * q) (k + 6) < 16384 := Nat.lt_of_lt_of_le hz (Nat.pow_le_pow_right (by decide) (by omega : k + 6 ≤ 14))
          have HM : Hid (bits .and .i64 (sg (strV 6 d64 (bl s)) (8 * q) (k + 6) : Nat) ((M : Int) - 1) = (sg (strV 6 d64 (bl s)) (8 * (q + 1)) m : Nat)) := Lib.hid (by
            rw [← hM, mask_nat _ _ (by omega) (by omega), hm, sg_mod _ (strV_bit 6 d64 (bl s))]
            rfl)
          have hki : (k : Int) + 6 - 8 = (m : Int) := by omega
          have hxo := HJ.out
          have HN := Lib.hid hm
          have hyb : (byt (sg (strV 6 d64 (bl s)) (8 * q) 8)).toNat = sg (strV 6 d64 (bl s)) (8 * q) 8 := byt_toNat _ hy
          have HW := Lib.hid (wbyte w wr _ (byt (sg (strV 6 d64 (bl s)) (8 * q) 8)) HB.out (by rw [outQ_len]; omega))
          rw [hyb, outQ_next] at HW
          clear hz hM2 hm hyb
          generalize d64.idxOf s[n] = v at hv2 HX HJ hxo
          go_wp2_with fail
          refine (HX.out _).mono ?_
          rintro e' w1 ⟨rfl, rfl⟩
          go_wp2_with fail
          refine HW.out.mono ?_
          rintro e' w1 ⟨rfl, hb⟩
          have HB1 := Lib.hid hb
          clear hb
          go_wp2_with fail
          go_roundw
          case rel => exact ⟨n + 1, q + 1, m, by omega, by go_num, HA2, Lib.hid (by have h1 := HQ.out; have h2 := HN.out; omega), by omega, hm8, int_eq (by first | exact HM.out | (rw [wrap_two M q1 q2]; exact HM.out)), int_eq (by omega), HB1⟩
          case measure => simp [intOf]; omega
        · generalize d64.idxOf s[n] = v at hv2 HX HJ
          go_wp2_with fail
          refine (HX.out _).mono ?_
          rintro e' w1 ⟨rfl, rfl⟩
          go_wp2_with fail
          go_roundw
          case rel => exact ⟨n + 1, q, k + 6, by omega, by go_num, HA2, Lib.hid (by have h1 := HQ.out; omega), by omega, by omega, int_eq HJ.out, by go_num, HB⟩
          case measure => simp [intOf]; omega
    · have hns : n = s.size := by omega
      have hall : rightS (bl s) = true := all_in fun j hj => HA.out j (by rw [HL.out] at hj; omega)
      have hqe : 6 * (bl s).length / 8 = q := by rw [HL.out]; have := HQ.out; omega
      have HD : Hid (textV (bl s) = outQ (bl s) q ∧ rightS (bl s) = true) := Lib.hid ⟨by unfold textV; rw [hall, if_pos rfl, outQ_done _ _ hqe], hall⟩
      have HW := Lib.hid (wend w wr _ HB.out)
      clear hall hqe hns HA HQ HB
      go_wp2_with fail
      refine HW.out.mono ?_
      rintro e' w1 ⟨rfl, hb⟩
      have HB1 := Lib.hid hb
      clear hb
      go_wp2_with fail
      go_ret2
      exact ⟨tupT (by rw [HD.out.1]) HD.out.2.symm, HB1.out⟩

/-! Decode. -/
/-- What Decode tells of a text. -/
def DcPost (s : ByteArray) (w : World) (e : Ending) (w' : World) : Prop := e = .returned (.tuple #[.string (ba (decV (bl s))), .int .i64 (decC (bl s))]) ∧ Below w.heap.size w w'
theorem tupC {a b : ByteArray} {x y : Int} (h : a = b) (k : x = y) : Ending.returned (.tuple #[.string a, .int .i64 x]) = .returned (.tuple #[.string b, .int .i64 y]) := by rw [h, k]
theorem bel {w w1 w2 : World} (h : Below w.heap.size w w1) (k : Below w1.heap.size w1 w2) : Below w.heap.size w w2 := h.trans (k.mono h.size)
set_option maxRecDepth 100000 in
set_option maxHeartbeats 2000000 in
theorem decode_any (s : ByteArray) (w : World) (hs : s.size ≤ 1000000) :
    Calls Tryd.prog 7 #[.string s] w (DcPost s w) := by
  have HW := Lib.hid (without_any s w (by omega))
  have hb := bare_len (bl s)
  rw [bl_len] at hb
  have htz : (ba (bareL (bl s))).size ≤ 1000000 := by rw [ba_size]; omega
  have HT : Hid (bl (ba (bareL (bl s))) = bareL (bl s)) := Lib.hid (bl_ba _)
  clear hb
  generalize ba (bareL (bl s)) = t at *
  have HR := Lib.hid (fun W => trim_any t W (by omega))
  have hr := trim_len (bl t)
  rw [bl_len] at hr
  have hrz : (ba (trimL (bl t))).size ≤ 1000000 := by rw [ba_size]; omega
  have HU : Hid (bl (ba (trimL (bl t))) = trimL (bl t)) := Lib.hid (bl_ba _)
  clear hr
  generalize ba (trimL (bl t)) = u at *
  have HX := Lib.hid (fun W => text_any u W (by omega))
  have hv : (ba (textV (bl u))).size ≤ 1000000 := by
    rw [ba_size]
    unfold textV
    split
    · have := out_len (bl u)
      rw [bl_len] at this
      omega
    · exact Nat.zero_le _
  obtain ⟨h1, h2⟩ := dec_trim (s := bl s) (t := bl t) HT.out.symm
  rw [← HU.out] at h1 h2
  unfold DcPost
  cases hr : rightS (bl u)
  · have HD : Hid (decV (bl s) = [] ∧ decC (bl s) = 3) := Lib.hid (by
      have e : decS (bl s) = false := by
        rw [h1]
        unfold rightS at hr
        rw [hr]
        rfl
      unfold decV decC
      rw [e]
      exact ⟨rfl, rfl⟩)
    rw [hr] at HX
    clear h1 h2 hr
    generalize ba (textV (bl u)) = x at *
    go_enter Tryd.func7, Tryd.ntmps7
    go_wp2_with fail
    refine HW.out.mono ?_
    rintro e w1 ⟨rfl, hb⟩
    have HB := Lib.hid hb
    clear hb
    go_wp2_with fail
    refine (HR.out w1).mono ?_
    rintro e w2 ⟨rfl, rfl⟩
    go_wp2_with fail
    refine (HX.out w1).mono ?_
    rintro e w3 ⟨rfl, hb⟩
    have HB3 := Lib.hid (bel HB.out hb)
    clear hb
    go_wp2_with fail
    go_ret2
    exact ⟨tupC (by rw [HD.out.1]) (by rw [HD.out.2]; rfl), HB3.out⟩
  · have hx : textV (bl u) = outB 6 d64 (bl u) := by unfold textV; rw [hr, if_pos rfl]
    have HXV : Hid (bl (ba (textV (bl u))) = outB 6 d64 (bl u)) := Lib.hid (by rw [bl_ba, hx])
    have HE : Hid (decV (bl s) = if decS (bl s) = true then textV (bl u) else []) := Lib.hid (by
      cases e : decS (bl s)
      · unfold decV; rw [e]; rfl
      · rw [if_pos rfl, h2 e, hx])
    have hcmp : ((ba (plainL (bl (ba (textV (bl u)))))).toList == t.toList) = decS (bl s) := by
      rw [toList_bl, toList_bl, bl_ba, HXV.out, h1]
      unfold rightS at hr
      rw [hr]
      rfl
    have HP := Lib.hid (fun W => plain_any (ba (textV (bl u))) W (by omega))
    rw [hr] at HX
    have HBX : Hid (bl (ba (textV (bl u))) = textV (bl u)) := Lib.hid (bl_ba _)
    clear h1 h2 hr hx HXV
    generalize hxx : ba (textV (bl u)) = x at *
    clear hxx
    generalize hXX : ba (plainL (bl x)) = X at *
    clear hXX
    rw [← HBX.out] at HE
    cases hds : decS (bl s)
    · have HD : Hid (decV (bl s) = [] ∧ decC (bl s) = 3) := Lib.hid ⟨by rw [HE.out, hds]; rfl, by unfold decC; rw [hds]; rfl⟩
      rw [hds] at hcmp
      clear hds HE
      go_enter Tryd.func7, Tryd.ntmps7
      go_wp2_with fail
      refine HW.out.mono ?_
      rintro e w1 ⟨rfl, hb⟩
      have HB := Lib.hid hb
      clear hb
      go_wp2_with fail
      refine (HR.out w1).mono ?_
      rintro e w2 ⟨rfl, rfl⟩
      go_wp2_with fail
      refine (HX.out w1).mono ?_
      rintro e w3 ⟨rfl, hb⟩
      have HB3 := Lib.hid (bel HB.out hb)
      clear hb
      go_wp2_with fail
      refine (HP.out w3).mono ?_
      rintro e w4 ⟨rfl, hb⟩
      have HB4 := Lib.hid (bel HB3.out hb)
      clear hb
      go_wp2_with fail
      go_ret2
      exact ⟨tupC (by rw [HD.out.1]) (by rw [HD.out.2]; rfl), HB4.out⟩
    · have HD : Hid (decV (bl s) = bl x ∧ decC (bl s) = 0) := Lib.hid ⟨by rw [HE.out, hds]; rfl, by unfold decC; rw [hds]; rfl⟩
      rw [hds] at hcmp
      clear hds HE
      go_enter Tryd.func7, Tryd.ntmps7
      go_wp2_with fail
      refine HW.out.mono ?_
      rintro e w1 ⟨rfl, hb⟩
      have HB := Lib.hid hb
      clear hb
      go_wp2_with fail
      refine (HR.out w1).mono ?_
      rintro e w2 ⟨rfl, rfl⟩
      go_wp2_with fail
      refine (HX.out w1).mono ?_
      rintro e w3 ⟨rfl, hb⟩
      have HB3 := Lib.hid (bel HB.out hb)
      clear hb
      go_wp2_with fail
      refine (HP.out w3).mono ?_
      rintro e w4 ⟨rfl, hb⟩
      have HB4 := Lib.hid (bel HB3.out hb)
      clear hb
      go_wp2_with fail
      go_ret2
      exact ⟨tupC (by rw [HD.out.1, ba_bl]) (by rw [HD.out.2]; rfl), HB4.out⟩
end Go.Proofs.YtlkfkgkolaaomaaDoor.B64
