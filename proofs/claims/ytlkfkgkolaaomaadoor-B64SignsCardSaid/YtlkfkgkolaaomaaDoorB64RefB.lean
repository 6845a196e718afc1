/-
  Walks: the document's Encode, Decode.
-/
import Derived.Test.YtlkfkgkolaaomaaDoorB64RefA
namespace Go.Proofs.YtlkfkgkolaaomaaDoor.B64
open Go Go.RowKit
open Go.Proofs.YtlkfkgkolaaomaaDoor.Code
open Go.Proofs.YtlkfkgkolaaomaaDoor.Lex (bl ba bl_len ba_size bl_ba ba_bl bl_extract bl_from drop_cons drop_end index_any)

/-! Encode. -/
def EnAt (t : ByteArray) (w : World) (o i : Value) (wr : World) : Prop :=
  ∃ (k : Nat) (x : ByteArray), k ≤ t.size ∧ i = .int .i64 k ∧ o = .string x ∧ x.size ≤ 3 * k ∧ Hid (lnL 0 (bl t) = bl x ++ lnL (k % 76) ((bl t).drop k)) ∧ w = wr
abbrev crB : ByteArray := ⟨#[13, 10]⟩
theorem drop_last (s : ByteArray) (k : Nat) : ((bl s).drop (k + 1)).isEmpty = decide (s.size ≤ k + 1) := by
  rw [Bool.eq_iff_iff, List.isEmpty_iff, List.drop_eq_nil_iff, bl_len, decide_eq_true_iff]
set_option maxRecDepth 100000 in
set_option maxHeartbeats 1000000 in
theorem rencode_any (s : ByteArray) (w : World) (hs : s.size ≤ 5000) :
    Calls Tryd.prog 12 #[.string s] w fun e w' => e = .returned (.string (ba (linesL (bl s)))) ∧ Below w.heap.size w w' := by
  have HP := Lib.hid (rplain_any s w hs)
  have hz : (ba (plainL (bl s))).size ≤ 20000 := by
    rw [ba_size]
    have := plain_len (bl s)
    rw [bl_len] at this
    omega
  have HE : Hid (ba (linesL (bl s)) = ba (lnL 0 (bl (ba (plainL (bl s)))))) := Lib.hid (by rw [bl_ba]; rfl)
  generalize ba (plainL (bl s)) = t at *
  have HI : ∀ w, Hid (EnAt t w (.string ⟨#[]⟩) (.int .i64 0) w) := fun w => Lib.hid ⟨0, ⟨#[]⟩, Nat.zero_le _, rfl, rfl, Nat.le_refl _, Lib.hid rfl, rfl⟩
  go_enter Tryd.func12, Tryd.ntmps12
  go_wp2_with fail
  refine HP.out.mono ?_
  rintro e w1 ⟨rfl, hb⟩
  have HB := Lib.hid hb
  clear hb
  go_wp2_with fail
  go_loopw [4, 5] (fun o i wr => EnAt t w1 o i wr) (fun _ i _ => t.size - (intOf i).toNat)
  case atStart => exact (HI w1).out
  case round =>
    clear HI
    obtain ⟨k, x, hk, rfl, rfl, hxz, HX, rfl⟩ := hrel
    by_cases hlt : k < t.size
    · have hez : (t.extract k (k + 1)).size = 1 := by rw [ByteArray.size_extract]; omega
      have HO := Lib.hid (one_cut t k hlt)
      have hstep : lnL (k % 76) ((bl t).drop k) = t[k] :: (if (k % 76 == 75 || decide (t.size ≤ k + 1)) = true then 13 :: 10 :: lnL 0 ((bl t).drop (k + 1)) else lnL (k % 76 + 1) ((bl t).drop (k + 1))) := by
        rw [drop_cons t k hlt, lnL, drop_last]
      by_cases h1 : k % 76 = 75
      · have d1 : ((k : Int) % 76 == 75) = true := by rw [beq_iff_eq]; omega
        have hc : (k % 76 == 75 || decide (t.size ≤ k + 1)) = true := by simp [h1]
        rw [if_pos hc] at hstep
        have HN : Hid (lnL 0 (bl t) = bl ((x ++ t.extract k (k + 1)) ++ crB) ++ lnL ((k + 1) % 76) ((bl t).drop (k + 1))) := Lib.hid (by
          rw [HX.out, hstep, bl_app, bl_app, HO.out, show (k + 1) % 76 = 0 by omega]
          show _ = ((_ ++ [t[k]]) ++ [13, 10]) ++ _
          simp)
        have hzz : ((x ++ t.extract k (k + 1)) ++ crB).size ≤ 3 * (k + 1) := by
          rw [ByteArray.size_append, ByteArray.size_append, hez, show crB.size = 2 from rfl]
          omega
        clear hstep hc h1
        go_wp2
        go_roundw
        case rel => exact ⟨k + 1, _, by omega, by go_num, rfl, hzz, HN, rfl⟩
        case measure => simp [intOf]; omega
      · have d1 : ((k : Int) % 76 == 75) = false := by rw [beq_eq_false_iff_ne]; omega
        by_cases h2 : k + 1 = t.size
        · have d2 : ((k : Int) + 1 == (t.size : Int)) = true := by rw [beq_iff_eq]; omega
          have hc : (k % 76 == 75 || decide (t.size ≤ k + 1)) = true := by simp; omega
          rw [if_pos hc] at hstep
          have HN : Hid (lnL 0 (bl t) = bl ((x ++ t.extract k (k + 1)) ++ crB) ++ lnL ((k + 1) % 76) ((bl t).drop (k + 1))) := Lib.hid (by
            rw [HX.out, hstep, bl_app, bl_app, HO.out, drop_end t (k + 1) (by omega)]
            show _ = ((_ ++ [t[k]]) ++ [13, 10]) ++ []
            simp [lnL])
          have hzz : ((x ++ t.extract k (k + 1)) ++ crB).size ≤ 3 * (k + 1) := by
            rw [ByteArray.size_append, ByteArray.size_append, hez, show crB.size = 2 from rfl]
            omega
          have H2 := Lib.hid h2
          clear hstep hc h1 h2
          go_wp2
          go_roundw
          case rel => exact ⟨k + 1, _, by have := H2.out; omega, by go_num, rfl, hzz, HN, rfl⟩
          case measure => simp [intOf]; omega
        · have d2 : ((k : Int) + 1 == (t.size : Int)) = false := by rw [beq_eq_false_iff_ne]; omega
          have hc : ¬ (k % 76 == 75 || decide (t.size ≤ k + 1)) = true := by simp; omega
          rw [if_neg hc] at hstep
          have HN : Hid (lnL 0 (bl t) = bl (x ++ t.extract k (k + 1)) ++ lnL ((k + 1) % 76) ((bl t).drop (k + 1))) := Lib.hid (by
            rw [HX.out, hstep, bl_app, HO.out, show (k + 1) % 76 = k % 76 + 1 by omega]
            simp)
          have hzz : (x ++ t.extract k (k + 1)).size ≤ 3 * (k + 1) := by
            rw [ByteArray.size_append, hez]
            omega
          clear hstep hc h1 h2
          go_wp2
          go_roundw
          case rel => exact ⟨k + 1, _, by omega, by go_num, rfl, hzz, HN, rfl⟩
          case measure => simp [intOf]; omega
    · have HD : Hid (x = ba (linesL (bl s))) := Lib.hid (by
        rw [HE.out]
        exact bl_inj (by
          rw [bl_ba, HX.out, drop_end t k hlt]
          show _ = _ ++ []
          rw [List.append_nil]))
      clear HX
      go_wp2
      go_ret
      exact ⟨ret_str HD.out, HB.out⟩

/-! Decode. -/
/-- The first so many bytes of letters. -/
def outP (F : List UInt8) (q : Nat) : List UInt8 := (List.range q).map fun i => byt (sg (strV 6 d64 F) (8 * i) 8)
theorem outP_len (F : List UInt8) (q : Nat) : (outP F q).length = q := by simp [outP]
theorem outP_done (F : List UInt8) (q : Nat) (h : 6 * F.length / 8 = q) : outP F q = outB 6 d64 F := by
  subst h
  rfl
theorem outP_add (F : List UInt8) (q : Nat) : ba (outP F q) ++ ba [byt (sg (strV 6 d64 F) (8 * q) 8)] = ba (outP F (q + 1)) := by
  rw [ba_app]
  unfold outP
  rw [List.range_succ]
  simp
theorem strV_at (F : List UInt8) (n d m : Nat) (hn : n < F.length) (hw : d + m + 1 = 6) : strV 6 d64 F (6 * n + d) = d64.idxOf (F.getD n 0) / 2 ^ m % 2 := by
  unfold strV strm
  rw [Nat.mul_add_div (by omega), Nat.div_eq_of_lt (by omega : d < 6), Nat.add_zero, Nat.mul_add_mod, Nat.mod_eq_of_lt (by omega : d < 6), show 6 - 1 - d = m by omega]
  unfold vAt
  rw [if_pos hn]
theorem half_pow : ∀ d, d < 6 → ∃ m, d + m + 1 = 6 ∧ 32 / 2 ^ d = 2 ^ m := by
  intro d h
  exact ⟨5 - d, by omega, by
    match d, h with
    | 0, _ => rfl
    | 1, _ => rfl
    | 2, _ => rfl
    | 3, _ => rfl
    | 4, _ => rfl
    | 5, _ => rfl⟩
/-- The document's state within a letter: q bytes are out, k bits are held. -/
def OfBit (F : List UInt8) (n : Nat) (w : World) (o b c z : Value) (wr : World) : Prop :=
  ∃ d q k : Nat, d ≤ 6 ∧ z = .int .i64 (32 / 2 ^ d : Nat) ∧ 6 * n + d = 8 * q + k ∧ k < 8 ∧ o = .string (ba (outP F q)) ∧ b = .int .i64 (sg (strV 6 d64 F) (8 * q) k : Nat) ∧ c = .int .i64 k ∧ Below w.heap.size w wr
/-- .. between letters: n of them are read, i signs are gone. -/
def OfAt (t : ByteArray) (w : World) (o b c i : Value) (wr : World) : Prop :=
  ∃ a n q k : Nat, a ≤ t.size ∧ i = .int .i64 a ∧ n ≤ (letL (bl t)).length ∧ n ≤ a ∧ Hid ((letL (bl t)).drop n = letL ((bl t).drop a)) ∧ Hid (6 * n = 8 * q + k) ∧ q ≤ a ∧ k < 8 ∧ o = .string (ba (outP (letL (bl t)) q)) ∧ b = .int .i64 (sg (strV 6 d64 (letL (bl t))) (8 * q) k : Nat) ∧ c = .int .i64 k ∧ Hid (Below w.heap.size w wr)
theorem tupB {a b : ByteArray} {x y : Bool} (h : a = b) (k : x = y) : Ending.returned (.tuple #[.string a, .bool x]) = .returned (.tuple #[.string b, .bool y]) := by rw [h, k]
theorem drop_let {F : List UInt8} {n : Nat} {c : UInt8} {r : List UInt8} (h : F.drop n = c :: r) : n < F.length ∧ F.getD n 0 = c ∧ F.drop (n + 1) = r := by
  have hn : n < F.length := by
    rcases Nat.lt_or_ge n F.length with h1 | h1
    · exact h1
    · rw [List.drop_eq_nil_of_le h1] at h
      exact absurd h (by simp)
  rw [List.drop_eq_getElem_cons hn] at h
  obtain ⟨e1, e2⟩ := List.cons.inj h
  refine ⟨hn, ?_, e2⟩
  rw [List.getD_eq_getElem?_getD, List.getElem?_eq_getElem hn]
  exact e1
set_option maxRecDepth 100000 in
set_option maxHeartbeats 2000000 in
theorem rdecode_any (s : ByteArray) (w : World) (hs : s.size ≤ 5000) :
    Calls Tryd.prog 8 #[.string s] w fun e w' => e = .returned (.tuple #[.string (ba (decV (bl s))), .bool (decS (bl s))]) ∧ Below w.heap.size w w' := by
  have HBR := Lib.hid (rbare_any s w (by omega))
  have htz : (ba (bareL (bl s))).size ≤ 5000 := by
    rw [ba_size]
    have := bare_len (bl s)
    rw [bl_len] at this
    omega
  have HT : Hid (bl (ba (bareL (bl s))) = bareL (bl s)) := Lib.hid (bl_ba _)
  generalize ba (bareL (bl s)) = t at *
  have HI : Hid (OfAt t w (.string ⟨#[]⟩) (.int .i64 0) (.int .i64 0) (.int .i64 0) w) := Lib.hid
    ⟨0, 0, 0, 0, Nat.zero_le _, rfl, Nat.zero_le _, Nat.le_refl _, Lib.hid rfl, Lib.hid rfl, Nat.le_refl _, by omega, rfl, rfl, rfl, Lib.hid (Below.refl _ _)⟩
  go_enter Tryd.func8, Tryd.ntmps8
  go_wp2_with fail
  refine HBR.out.mono ?_
  rintro e w1 ⟨rfl, rfl⟩
  go_wp2_with fail
  go_loopw [5, 6, 7, 8, 9, 10] (fun o b c i _ _ wr => OfAt t w o b c i wr) (fun _ _ _ i _ _ _ => t.size - (intOf i).toNat)
  case atStart => exact HI.out
  case round =>
    clear HI HBR
    obtain ⟨a, n, q, k, ha, rfl, hn, hna, HF, HQ, hqa, hk, rfl, rfl, rfl, HB⟩ := hrel
    have hx := sg_lt (strV 6 d64 (letL (bl t))) (strV_bit _ _ _) (8 * q) k
    have hx2 : sg (strV 6 d64 (letL (bl t))) (8 * q) k < 256 := Nat.lt_of_lt_of_le hx (Nat.pow_le_pow_right (by decide) (by omega : k ≤ 8))
    clear hx
    by_cases hlt : a < t.size
    · have hf := HF.out
      rw [drop_cons t a hlt] at hf
      cases hc : d64.contains t[a] with
      | false =>
        rw [let_out _ hc] at hf
        have HF2 := Lib.hid hf
        have HV : Hid (valI d64 t[a] = -1) := Lib.hid (val_out hc)
        clear hf HF hc
        go_wp2_with fail
        refine (value_any t[a] _).mono ?_
        rintro e' w1 ⟨rfl, rfl⟩
        rw [HV.out]
        go_wp2
        have HI : Hid (∃ z, z = Value.int .i64 32) := Lib.hid ⟨_, rfl⟩
        go_loopw [5, 6, 7, 10] (fun o b c z w' => o = .string (ba (outP (letL (bl t)) q)) ∧ b = .int .i64 (sg (strV 6 d64 (letL (bl t))) (8 * q) k : Nat) ∧ c = .int .i64 k ∧ z = .int .i64 32 ∧ wr = w') (fun _ _ _ _ _ => 0)
        case atStart => exact ⟨rfl, rfl, rfl, rfl, rfl⟩
        case round =>
          clear HI
          obtain ⟨rfl, rfl, rfl, rfl, rfl⟩ := hrel
          go_wp2
          go_roundw
          case rel => exact ⟨a + 1, n, q, k, by omega, by go_num, hn, by omega, HF2, HQ, by omega, hk, rfl, rfl, rfl, HB⟩
          case measure => (simp [intOf]; try omega)
      | true =>
        rw [let_in _ hc] at hf
        obtain ⟨hn2, hgd, hf2⟩ := drop_let hf
        have HF2 := Lib.hid hf2
        have HV : Hid (valI d64 t[a] = (d64.idxOf t[a] : Nat)) := Lib.hid (val_in hc)
        have hv2 := idx64 hc
        have HW : Hid (∀ d m, d + m + 1 = 6 → strV 6 d64 (letL (bl t)) (6 * n + d) = d64.idxOf t[a] / 2 ^ m % 2) := Lib.hid (by
          intro d m h
          rw [strV_at (letL (bl t)) n d m hn2 h, hgd])
        have HI : Hid (OfBit (letL (bl t)) n wr (.string (ba (outP (letL (bl t)) q))) (.int .i64 (sg (strV 6 d64 (letL (bl t))) (8 * q) k : Nat)) (.int .i64 k) (.int .i64 32) wr) := Lib.hid
          ⟨0, q, k, by omega, rfl, by have := HQ.out; omega, hk, rfl, rfl, rfl, Below.refl _ _⟩
        clear hgd hc hf hf2 HF
        generalize d64.idxOf t[a] = v at HV HW hv2
        generalize hFF : letL (bl t) = F at *
        have HFF := Lib.hid hFF
        clear hFF
        go_wp2_with fail
        refine (value_any t[a] _).mono ?_
        rintro e' w1 ⟨rfl, rfl⟩
        rw [HV.out]
        go_wp2
        go_loopw [5, 6, 7, 10] (fun o b c z w' => OfBit F n wr o b c z w') (fun _ _ _ z _ => (intOf z).toNat)
        case atStart => exact HI.out
        case round =>
          clear HI hk hx2 HQ hqa
          obtain ⟨d, q, k, hd, rfl, hq, hk, rfl, rfl, rfl, hb⟩ := hrel
          have HQ := Lib.hid hq
          have HC := Lib.hid (HB.out.trans (hb.mono HB.out.size))
          have HC2 := Lib.hid hb
          have hqq : q ≤ a + 1 := by omega
          clear hq hb
          have hx := sg_lt (strV 6 d64 F) (strV_bit _ _ _) (8 * q) k
          have hx2 : sg (strV 6 d64 F) (8 * q) k < 128 := Nat.lt_of_lt_of_le hx (Nat.pow_le_pow_right (by decide) (by omega : k ≤ 7))
          clear hx
          have hos : (ba (outP F q)).size ≤ 10000 := by rw [ba_size, outP_len]; omega
          by_cases hd6 : d < 6
          · obtain ⟨m, hdm, hpm⟩ := half_pow d hd6
            have HS : Hid (sg (strV 6 d64 F) (8 * q) (k + 1) = 2 * sg (strV 6 d64 F) (8 * q) k + v / (32 / 2 ^ d) % 2) := Lib.hid (by
              show 2 * sg (strV 6 d64 F) (8 * q) k + strV 6 d64 F (8 * q + k) = _
              rw [← HQ.out, HW.out d m hdm, hpm])
            have HM : Hid (32 / 2 ^ (d + 1) = 32 / 2 ^ d / 2) := Lib.hid (by rw [Nat.pow_succ, Nat.div_div_eq_div_mul])
            have hM1 : 1 ≤ 32 / 2 ^ d := by rw [hpm]; exact Nat.two_pow_pos m
            have hM2 : 32 / 2 ^ d ≤ 32 := Nat.div_le_self _ _
            have HO := Lib.hid (outP_add F q)
            clear hdm hpm
            generalize 32 / 2 ^ d = M at *
            have hdv : (v : Int) / (M : Int) = ((v / M : Nat) : Int) := by simp
            have hy : v / M < 64 := Nat.lt_of_le_of_lt (Nat.div_le_self _ _) hv2
            generalize v / M = y at *
            by_cases hk7 : k = 7
            · subst hk7
              have hz : sg (strV 6 d64 F) (8 * q) (7 + 1) < 2 ^ (7 + 1) := sg_lt _ (strV_bit _ _ _) _ _
              have hyt := byt_toNat _ hz
              have hcv := one_laid wr (byt (sg (strV 6 d64 F) (8 * q) (7 + 1)))
              rw [hyt] at hcv
              have hzs : (ba [byt (sg (strV 6 d64 F) (8 * q) (7 + 1))]).size = 1 := rfl
              rw [HS.out] at hcv hz
              have hcast : ((2 * sg (strV 6 d64 F) (8 * q) 7 + y % 2 : Nat) : Int) = 2 * (sg (strV 6 d64 F) (8 * q) 7 : Int) + (y : Int) % 2 := by omega
              rw [hcast] at hcv
              have hbd : 2 * (sg (strV 6 d64 F) (8 * q) 7 : Int) + (y : Int) % 2 < 256 := by omega
              have HO : Hid (ba (outP F q) ++ ba [byt (sg (strV 6 d64 F) (8 * q) (7 + 1))] = ba (outP F (q + 1))) := HO
              clear hyt hz hcast
              rw [HS.out] at HO hzs
              generalize ba [byt (2 * sg (strV 6 d64 F) (8 * q) 7 + y % 2)] = u at hcv HO hzs
              generalize ba (outP F q) = o at hos HO ⊢
              clear HS HW
              generalize sg (strV 6 d64 F) (8 * q) 7 = g at hx2 hcv hbd ⊢
              go_wp2
              go_roundw
              case rel => exact ⟨d + 1, q + 1, 0, by omega, int_eq (by rw [HM.out]; omega), by have := HQ.out; omega, by omega, by rw [HO.out], rfl, rfl, HC2.out.alloc HC2.out.size _⟩
              case measure => (simp [intOf]; try omega)
            · have hk7i : (k : Int) + 1 ≠ 8 := by omega
              have hk7b : ((k : Int) + 1 == 8) = false := beq_eq_false_iff_ne.2 hk7i
              clear hk7i
              have HS2 : Hid ((sg (strV 6 d64 F) (8 * q) (k + 1) : Int) = 2 * (sg (strV 6 d64 F) (8 * q) k : Int) + (y : Int) % 2) := Lib.hid (by
                rw [HS.out]; omega)
              clear HS HW HO
              go_wp2
              go_roundw
              case rel => exact ⟨d + 1, q, k + 1, by omega, int_eq (by rw [HM.out]; omega), by have := HQ.out; omega, by omega, rfl, int_eq HS2.out.symm, by go_num, HC2.out⟩
              case measure => (simp [intOf]; try omega)
          · obtain rfl : d = 6 := by omega
            go_wp2
            have hFF := HFF.out
            subst hFF
            go_roundw
            case rel => exact ⟨a + 1, n + 1, q, k, by omega, by go_num, hn2, by omega, HF2, Lib.hid (by have := HQ.out; omega), by omega, hk, rfl, rfl, rfl, HC⟩
            case measure => (simp [intOf]; try omega)
    · have hnl : (letL (bl t)).length = n := by
        have h := HF.out
        rw [drop_end t a hlt] at h
        have h := List.drop_eq_nil_iff.1 (show (letL (bl t)).drop n = [] from h)
        omega
      have hqe : 6 * (letL (bl t)).length / 8 = q := by rw [hnl]; have := HQ.out; omega
      have hO : outP (letL (bl t)) q = readL (bareL (bl s)) := by
        rw [outP_done _ _ hqe, HT.out]
        rfl
      rw [hO]
      have hosz : (ba (readL (bareL (bl s)))).size ≤ 5000 := by rw [ba_size, ← hO, outP_len]; omega
      have HP := Lib.hid (fun w => rplain_any (ba (readL (bareL (bl s)))) w hosz)
      have hcmp : ((ba (plainL (bl (ba (readL (bareL (bl s))))))).toList == t.toList) = decS (bl s) := by
        rw [toList_bl, toList_bl, bl_ba, bl_ba, HT.out]
        rfl
      have HD : Hid (decV (bl s) = if decS (bl s) = true then readL (bareL (bl s)) else []) := Lib.hid rfl
      clear hnl hqe hO HF HQ hx2 hk hqa
      generalize hX : ba (plainL (bl (ba (readL (bareL (bl s)))))) = X at hcmp HP
      clear hX
      generalize readL (bareL (bl s)) = r at *
      cases hds : decS (bl s)
      · rw [hds] at hcmp HD
        rw [if_neg (by decide)] at HD
        have HS := Lib.hid hds
        clear hds
        go_wp2_with fail
        refine (HP.out _).mono ?_
        rintro e' w1 ⟨rfl, hb1⟩
        have HC := Lib.hid (HB.out.trans (hb1.mono HB.out.size))
        clear hb1
        go_wp2
        go_ret2
        exact ⟨tupB (by rw [HD.out]) HS.out.symm, HC.out⟩
      · rw [hds] at hcmp HD
        rw [if_pos rfl] at HD
        have HS := Lib.hid hds
        clear hds
        go_wp2_with fail
        refine (HP.out _).mono ?_
        rintro e' w1 ⟨rfl, hb1⟩
        have HC := Lib.hid (HB.out.trans (hb1.mono HB.out.size))
        clear hb1
        go_wp2
        go_ret2
        exact ⟨tupB (by rw [HD.out]) HS.out.symm, HC.out⟩
end Go.Proofs.YtlkfkgkolaaomaaDoor.B64
