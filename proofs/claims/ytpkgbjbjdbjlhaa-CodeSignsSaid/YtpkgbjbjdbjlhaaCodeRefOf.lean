/-
  The document's bytes of signs.
-/
import Derived.Test.YtpkgbjbjdbjlhaaCodeRefTo16
namespace Go.Proofs.Ytpkgbjbjdbjlhaa.Code
open Go.RowKit

/-- The document's state within a sign: q bytes are out, k bits are held. -/
def OfBit (wd : Nat) (D t : List UInt8) (n : Nat) (w : World) (o b c z : Value) (wr : World) : Prop :=
  ∃ (d q k : Nat) (y : Int), d ≤ wd ∧ y = (wd : Int) - 1 - d ∧ z = .int .i64 y ∧ wd * n + d = 8 * q + k ∧ k < 8 ∧ o = .string (ba (outP wd D t q)) ∧ b = .int .i64 (sg (strV wd D t) (8 * q) k : Nat) ∧ c = .int .i64 k ∧ Below w.heap.size w wr
def OfAt (wd : Nat) (D : List UInt8) (s : ByteArray) (w : World) (o b c i : Value) (wr : World) : Prop :=
  ∃ n q k : Nat, n ≤ s.size ∧ i = .int .i64 n ∧ (∀ j, j < n → D.contains ((bl s).getD j 0) = true) ∧ wd * n = 8 * q + k ∧ k < 8 ∧ o = .string (ba (outP wd D (bl s) q)) ∧ b = .int .i64 (sg (strV wd D (bl s)) (8 * q) k : Nat) ∧ c = .int .i64 k ∧ Below w.heap.size w wr
def PartAt (v m : Nat) (w : World) (p j : Value) (wr : World) : Prop := ∃ i : Nat, i ≤ m ∧ p = .int .i64 (v / 2 ^ i : Nat) ∧ j = .int .i64 i ∧ w = wr
theorem outP_add (w : Nat) (D t : List UInt8) (q : Nat) : ba (outP w D t q) ++ ba [byt (sg (strV w D t) (8 * q) 8)] = ba (outP w D t (q + 1)) := by
  rw [ba_append]
  unfold outP
  rw [List.range_succ]
  simp
theorem strV_at (w : Nat) (D t : List UInt8) (n d m : Nat) (hn : n < t.length) (hw : d + m + 1 = w) : strV w D t (w * n + d) = D.idxOf (t.getD n 0) / 2 ^ m % 2 := by
  unfold strV strm
  rw [Nat.mul_add_div (by omega), Nat.div_eq_of_lt (by omega : d < w), Nat.add_zero, Nat.mul_add_mod, Nat.mod_eq_of_lt (by omega : d < w), show w - 1 - d = m by omega]
  unfold vAt
  rw [if_pos hn]
theorem tupleB_eq {a b : ByteArray} {x y : Bool} (h : a = b) (k : x = y) : Ending.returned (.tuple #[.string a, .bool x]) = .returned (.tuple #[.string b, .bool y]) := by rw [h, k]
theorem below_refl_of {w wr : World} (h : w = wr) : Below w.heap.size w wr := by subst h; exact Below.refl _ _

set_option maxRecDepth 100000 in
set_option maxHeartbeats 2000000 in
theorem refOf_5 (s : ByteArray) (w : World) (hs : s.size ≤ 5000) :
    Calls Try.prog 9 #[.string s, .int .i64 32] w fun e w' => e = .returned (.tuple #[.string (ba (dec 5 d32 (bl s))), .bool (okB 5 d32 (bl s))]) ∧ Below w.heap.size w w' := by
  have hlen := bl_len s
  have HI : Hid (OfAt 5 d32 s w (.string ⟨#[]⟩) (.int .i64 0) (.int .i64 0) (.int .i64 0) w) :=
    ⟨0, 0, 0, by omega, rfl, fun j h => absurd h (Nat.not_lt_zero j), rfl, by omega, rfl, rfl, rfl, Below.refl _ _⟩
  have HL := Lib.hid hlen
  clear hlen
  go_enter Try.func9, Try.ntmps9
  go_wp2
  go_loopw [7, 8, 9, 10, 11, 12, 13, 14] (fun o b c i _ _ _ _ wr => OfAt 5 d32 s w o b c i wr) (fun _ _ _ i _ _ _ _ _ => s.size - (intOf i).toNat)
  case atStart => exact HI.out
  case round =>
    clear HI
    obtain ⟨n, q, k, hn, rfl, hall, hq, hk, rfl, rfl, rfl, hb⟩ := hrel
    have HB := Lib.hid hb
    have HA := Lib.hid hall
    clear hb hall
    have hx := sg_lt (strV 5 d32 (bl s)) (strV_bit _ _ _) (8 * q) k
    have hx2 : sg (strV 5 d32 (bl s)) (8 * q) k < 256 := Nat.lt_of_lt_of_le hx (Nat.pow_le_pow_right (by decide) (by omega : k ≤ 8))
    clear hx
    by_cases hlt : n < s.size
    · have hgd := str_getD s n hlt
      cases hc : d32.contains s[n] with
      | false =>
        have HV : Hid (valI d32 s[n] = -1) := by
          show _ = _
          unfold valI; rw [hc]; rfl
        have hno : okB 5 d32 (bl s) = false := ok_no (not_in n (by rw [HL.out]; exact hlt) (by rw [hgd]; exact hc))
        have HD := Lib.hid (And.intro (bad_no hno).1 hno)
        clear hgd hc hq hno
        go_wp2_with fail
        refine (value_32 s[n] _).mono ?_
        rintro e' w1 ⟨rfl, rfl⟩
        rw [HV.out]
        go_wp2
        go_ret2
        exact ⟨tupleB_eq (by rw [HD.out.1]) HD.out.2.symm, HB.out⟩
      | true =>
        have HV : Hid (valI d32 s[n] = (d32.idxOf s[n] : Nat)) := val_of hc
        have hv := idx_lt tab32 hc
        have HA2 : Hid (∀ j, j < n + 1 → d32.contains ((bl s).getD j 0) = true) := by
          intro j hj
          by_cases e : j = n
          · subst e; rw [hgd]; exact hc
          · exact HA.out j (by omega)
        have HW : Hid (∀ d m, d + m + 1 = 5 → strV 5 d32 (bl s) (5 * n + d) = d32.idxOf s[n] / 2 ^ m % 2) := by
          intro d m h
          rw [strV_at 5 d32 (bl s) n d m (by rw [HL.out]; exact hlt) h, hgd]
        have HI : Hid (OfBit 5 d32 (bl s) n wr (.string (ba (outP 5 d32 (bl s) q))) (.int .i64 (sg (strV 5 d32 (bl s)) (8 * q) k : Nat)) (.int .i64 k) (.int .i64 4) wr) :=
          ⟨0, q, k, 4, by omega, by decide, rfl, by omega, hk, rfl, rfl, rfl, Below.refl _ _⟩
        have hv2 : d32.idxOf s[n] < 32 := hv
        clear hgd hc hq hv HA
        generalize d32.idxOf s[n] = v at HV HW hv2
        have ho : Hid (True) := trivial
        go_wp2_with fail
        refine (value_32 s[n] _).mono ?_
        rintro e' w1 ⟨rfl, rfl⟩
        rw [HV.out]
        go_wp2
        go_loopw [7, 8, 9, 12, 13, 14] (fun o b c z _ _ w' => OfBit 5 d32 (bl s) n wr o b c z w') (fun _ _ _ z _ _ _ => (intOf z + 1).toNat)
        case atStart => exact HI.out
        case round =>
          clear HI hk hx2 ho
          obtain ⟨d, q, k, y, hd, hy, rfl, hq, hk, rfl, rfl, rfl, hb⟩ := hrel
          have HY := Lib.hid hy
          have hy1 : -1 ≤ y := by omega
          have hy2 : y ≤ 4 := by omega
          have HQ := Lib.hid hq
          have HC := Lib.hid (HB.out.trans (hb.mono HB.out.size))
          have HC2 := Lib.hid hb
          have hqq : q ≤ 5000 := by omega
          clear hy hq hb
          have hx := sg_lt (strV 5 d32 (bl s)) (strV_bit _ _ _) (8 * q) k
          have hx2 : sg (strV 5 d32 (bl s)) (8 * q) k < 128 := Nat.lt_of_lt_of_le hx (Nat.pow_le_pow_right (by decide) (by omega : k ≤ 7))
          clear hx
          have hos : (ba (outP 5 d32 (bl s) q)).size ≤ 10000 := by rw [ba_size, outP_len]; omega
          by_cases hy0 : 0 ≤ y
          · obtain ⟨m, rfl⟩ : ∃ m : Nat, y = m := ⟨y.toNat, by omega⟩
            have hdm : d + m + 1 = 5 := by have := HY.out; omega
            have HS : Hid (sg (strV 5 d32 (bl s)) (8 * q) (k + 1) = 2 * sg (strV 5 d32 (bl s)) (8 * q) k + v / 2 ^ m % 2) := by
              show 2 * sg (strV 5 d32 (bl s)) (8 * q) k + strV 5 d32 (bl s) (8 * q + k) = _
              rw [← HQ.out, HW.out d m hdm]
            have HI : Hid (PartAt v m wr (.int .i64 v) (.int .i64 0) wr) := ⟨0, by omega, by simp, rfl, rfl⟩
            have HO := Lib.hid (outP_add 5 d32 (bl s) q)
            have HDM := Lib.hid hdm
            clear hdm
            go_wp2
            go_loopw [13, 14] (fun p j w' => PartAt v m wr p j w') (fun _ j _ => m - (intOf j).toNat)
            case atStart => exact HI.out
            case round =>
              clear HI
              obtain ⟨i, hi, rfl, rfl, rfl⟩ := hrel
              have hp : v / 2 ^ i < 32 := Nat.lt_of_le_of_lt (Nat.div_le_self _ _) hv2
              by_cases him : i < m
              · have HN : Hid (v / 2 ^ (i + 1) = v / 2 ^ i / 2) := by
                  show _ = _
                  rw [Nat.pow_succ, Nat.div_div_eq_div_mul]
                generalize v / 2 ^ i = x at hp HN ⊢
                go_wp2
                go_roundw
                case rel => exact ⟨i + 1, by omega, int_eq (by rw [HN.out]; omega), by go_num, rfl⟩
                case measure => (simp [intOf]; try omega)
              · obtain rfl : i = m := by omega
                generalize v / 2 ^ i = x at hp HS ⊢
                by_cases hk7 : k = 7
                · subst hk7
                  have hz : sg (strV 5 d32 (bl s)) (8 * q) (7 + 1) < 2 ^ (7 + 1) := sg_lt _ (strV_bit _ _ _) _ _
                  have hyt := byt_toNat _ hz
                  have hcv := one_laid wr (byt (sg (strV 5 d32 (bl s)) (8 * q) (7 + 1)))
                  rw [hyt] at hcv
                  have hzs : (ba [byt (sg (strV 5 d32 (bl s)) (8 * q) (7 + 1))]).size = 1 := rfl
                  rw [HS.out] at hcv hz
                  have hcast : ((2 * sg (strV 5 d32 (bl s)) (8 * q) 7 + x % 2 : Nat) : Int) = 2 * (sg (strV 5 d32 (bl s)) (8 * q) 7 : Int) + (x : Int) % 2 := by omega
                  rw [hcast] at hcv
                  have hbd : 2 * (sg (strV 5 d32 (bl s)) (8 * q) 7 : Int) + (x : Int) % 2 < 256 := by omega
                  have HO : Hid (ba (outP 5 d32 (bl s) q) ++ ba [byt (sg (strV 5 d32 (bl s)) (8 * q) (7 + 1))] = ba (outP 5 d32 (bl s) (q + 1))) := HO.out
                  clear hyt hz hcast
                  rw [HS.out] at HO hzs
                  generalize ba [byt (2 * sg (strV 5 d32 (bl s)) (8 * q) 7 + x % 2)] = u at hcv HO hzs
                  generalize ba (outP 5 d32 (bl s) q) = o at hos HO ⊢
                  clear HS HW
                  generalize sg (strV 5 d32 (bl s)) (8 * q) 7 = g at hx2 hcv hbd ⊢
                  go_wp2
                  go_roundw
                  case rel => exact ⟨d + 1, q + 1, 0, i - 1, by have := HDM.out; omega, by have := HDM.out; omega, rfl, by have := HQ.out; omega, by omega, by rw [HO.out], rfl, rfl, HC2.out.alloc HC2.out.size _⟩
                  case measure => (simp [intOf]; try omega)
                · have hk7i : (k : Int) + 1 ≠ 8 := by omega
                  have hk7b : ((k : Int) + 1 == 8) = false := beq_eq_false_iff_ne.2 hk7i
                  clear hk7i
                  have HS2 : Hid ((sg (strV 5 d32 (bl s)) (8 * q) (k + 1) : Int) = 2 * (sg (strV 5 d32 (bl s)) (8 * q) k : Int) + (x : Int) % 2) := by
                    show _ = _
                    rw [HS.out]; omega
                  go_wp2
                  go_roundw
                  case rel => exact ⟨d + 1, q, k + 1, i - 1, by have := HDM.out; omega, by have := HDM.out; omega, rfl, by have := HQ.out; omega, by omega, rfl, int_eq HS2.out.symm, by go_num, HC2.out⟩
                  case measure => (simp [intOf]; try omega)
          · have hd5 : d = 5 := by have := HY.out; omega
            subst hd5
            go_wp2
            go_roundw
            case rel => exact ⟨n + 1, q, k, by omega, by go_num, HA2.out, by have := HQ.out; omega, hk, rfl, rfl, rfl, HC.out⟩
            case measure => (simp [intOf]; try omega)
    · obtain rfl : n = s.size := by omega
      have hall : allIn d32 (bl s) = true := all_in fun j hj => HA.out j (by rw [HL.out] at hj; exact hj)
      have hqe : 5 * (bl s).length / 8 = q := by rw [HL.out]; omega
      have hok := ok_iff tab32 hall
      have hO : outP 5 d32 (bl s) q = outB 5 d32 (bl s) := by
        show outP _ _ _ q = outP _ _ _ _
        rw [hqe]
      have hosz : (ba (outB 5 d32 (bl s))).size ≤ 5000 := by rw [ba_size, outB_len, hqe]; omega
      have HT := Lib.hid (fun w => refTo32_any (ba (outB 5 d32 (bl s))) w hosz)
      rw [hO]
      have hcmp : ((ba (enc 5 d32 (bl (ba (outB 5 d32 (bl s)))))).toList == s.toList) = okB 5 d32 (bl s) := by
        rw [hok, toList_bl, toList_bl, bl_ba, bl_ba]
      clear hall hqe hok hO hosz
      cases hk : okB 5 d32 (bl s) with
      | true =>
        have HD := Lib.hid (And.intro (good_yes hk).1 hk)
        rw [hk] at hcmp
        clear hk hx2 hq
        generalize hX : ba (enc 5 d32 (bl (ba (outB 5 d32 (bl s))))) = X at hcmp HT
        clear hX
        go_wp2_with fail
        refine (HT.out _).mono ?_
        rintro e' w1 ⟨rfl, hb1⟩
        have HC := Lib.hid (HB.out.trans (hb1.mono HB.out.size))
        clear hb1
        go_wp2
        go_ret2
        exact ⟨tupleB_eq (by rw [HD.out.1]) HD.out.2.symm, HC.out⟩
      | false =>
        have HD := Lib.hid (And.intro (bad_no hk).1 hk)
        rw [hk] at hcmp
        clear hk hx2 hq
        generalize hX : ba (enc 5 d32 (bl (ba (outB 5 d32 (bl s))))) = X at hcmp HT
        clear hX
        go_wp2_with fail
        refine (HT.out _).mono ?_
        rintro e' w1 ⟨rfl, hb1⟩
        have HC := Lib.hid (HB.out.trans (hb1.mono HB.out.size))
        clear hb1
        go_wp2
        go_ret2
        exact ⟨tupleB_eq (by rw [HD.out.1]) HD.out.2.symm, HC.out⟩
set_option maxRecDepth 100000 in
set_option maxHeartbeats 2000000 in
theorem refOf_4 (s : ByteArray) (w : World) (hs : s.size ≤ 5000) :
    Calls Try.prog 9 #[.string s, .int .i64 16] w fun e w' => e = .returned (.tuple #[.string (ba (dec 4 d16 (bl s))), .bool (okB 4 d16 (bl s))]) ∧ Below w.heap.size w w' := by
  have hlen := bl_len s
  have HI : Hid (OfAt 4 d16 s w (.string ⟨#[]⟩) (.int .i64 0) (.int .i64 0) (.int .i64 0) w) :=
    ⟨0, 0, 0, by omega, rfl, fun j h => absurd h (Nat.not_lt_zero j), rfl, by omega, rfl, rfl, rfl, Below.refl _ _⟩
  have HL := Lib.hid hlen
  clear hlen
  go_enter Try.func9, Try.ntmps9
  go_wp2
  go_loopw [7, 8, 9, 10, 11, 12, 13, 14] (fun o b c i _ _ _ _ wr => OfAt 4 d16 s w o b c i wr) (fun _ _ _ i _ _ _ _ _ => s.size - (intOf i).toNat)
  case atStart => exact HI.out
  case round =>
    clear HI
    obtain ⟨n, q, k, hn, rfl, hall, hq, hk, rfl, rfl, rfl, hb⟩ := hrel
    have HB := Lib.hid hb
    have HA := Lib.hid hall
    clear hb hall
    have hx := sg_lt (strV 4 d16 (bl s)) (strV_bit _ _ _) (8 * q) k
    have hx2 : sg (strV 4 d16 (bl s)) (8 * q) k < 256 := Nat.lt_of_lt_of_le hx (Nat.pow_le_pow_right (by decide) (by omega : k ≤ 8))
    clear hx
    by_cases hlt : n < s.size
    · have hgd := str_getD s n hlt
      cases hc : d16.contains s[n] with
      | false =>
        have HV : Hid (valI d16 s[n] = -1) := by
          show _ = _
          unfold valI; rw [hc]; rfl
        have hno : okB 4 d16 (bl s) = false := ok_no (not_in n (by rw [HL.out]; exact hlt) (by rw [hgd]; exact hc))
        have HD := Lib.hid (And.intro (bad_no hno).1 hno)
        clear hgd hc hq hno
        go_wp2_with fail
        refine (value_16 s[n] _).mono ?_
        rintro e' w1 ⟨rfl, rfl⟩
        rw [HV.out]
        go_wp2
        go_ret2
        exact ⟨tupleB_eq (by rw [HD.out.1]) HD.out.2.symm, HB.out⟩
      | true =>
        have HV : Hid (valI d16 s[n] = (d16.idxOf s[n] : Nat)) := val_of hc
        have hv := idx_lt tab16 hc
        have HA2 : Hid (∀ j, j < n + 1 → d16.contains ((bl s).getD j 0) = true) := by
          intro j hj
          by_cases e : j = n
          · subst e; rw [hgd]; exact hc
          · exact HA.out j (by omega)
        have HW : Hid (∀ d m, d + m + 1 = 4 → strV 4 d16 (bl s) (4 * n + d) = d16.idxOf s[n] / 2 ^ m % 2) := by
          intro d m h
          rw [strV_at 4 d16 (bl s) n d m (by rw [HL.out]; exact hlt) h, hgd]
        have HI : Hid (OfBit 4 d16 (bl s) n wr (.string (ba (outP 4 d16 (bl s) q))) (.int .i64 (sg (strV 4 d16 (bl s)) (8 * q) k : Nat)) (.int .i64 k) (.int .i64 3) wr) :=
          ⟨0, q, k, 3, by omega, by decide, rfl, by omega, hk, rfl, rfl, rfl, Below.refl _ _⟩
        have hv2 : d16.idxOf s[n] < 16 := hv
        clear hgd hc hq hv HA
        generalize d16.idxOf s[n] = v at HV HW hv2
        have ho : Hid (True) := trivial
        go_wp2_with fail
        refine (value_16 s[n] _).mono ?_
        rintro e' w1 ⟨rfl, rfl⟩
        rw [HV.out]
        go_wp2
        go_loopw [7, 8, 9, 12, 13, 14] (fun o b c z _ _ w' => OfBit 4 d16 (bl s) n wr o b c z w') (fun _ _ _ z _ _ _ => (intOf z + 1).toNat)
        case atStart => exact HI.out
        case round =>
          clear HI hk hx2 ho
          obtain ⟨d, q, k, y, hd, hy, rfl, hq, hk, rfl, rfl, rfl, hb⟩ := hrel
          have HY := Lib.hid hy
          have hy1 : -1 ≤ y := by omega
          have hy2 : y ≤ 3 := by omega
          have HQ := Lib.hid hq
          have HC := Lib.hid (HB.out.trans (hb.mono HB.out.size))
          have HC2 := Lib.hid hb
          have hqq : q ≤ 5000 := by omega
          clear hy hq hb
          have hx := sg_lt (strV 4 d16 (bl s)) (strV_bit _ _ _) (8 * q) k
          have hx2 : sg (strV 4 d16 (bl s)) (8 * q) k < 128 := Nat.lt_of_lt_of_le hx (Nat.pow_le_pow_right (by decide) (by omega : k ≤ 7))
          clear hx
          have hos : (ba (outP 4 d16 (bl s) q)).size ≤ 10000 := by rw [ba_size, outP_len]; omega
          by_cases hy0 : 0 ≤ y
          · obtain ⟨m, rfl⟩ : ∃ m : Nat, y = m := ⟨y.toNat, by omega⟩
            have hdm : d + m + 1 = 4 := by have := HY.out; omega
            have HS : Hid (sg (strV 4 d16 (bl s)) (8 * q) (k + 1) = 2 * sg (strV 4 d16 (bl s)) (8 * q) k + v / 2 ^ m % 2) := by
              show 2 * sg (strV 4 d16 (bl s)) (8 * q) k + strV 4 d16 (bl s) (8 * q + k) = _
              rw [← HQ.out, HW.out d m hdm]
            have HI : Hid (PartAt v m wr (.int .i64 v) (.int .i64 0) wr) := ⟨0, by omega, by simp, rfl, rfl⟩
            have HO := Lib.hid (outP_add 4 d16 (bl s) q)
            have HDM := Lib.hid hdm
            clear hdm
            go_wp2
            go_loopw [13, 14] (fun p j w' => PartAt v m wr p j w') (fun _ j _ => m - (intOf j).toNat)
            case atStart => exact HI.out
            case round =>
              clear HI
              obtain ⟨i, hi, rfl, rfl, rfl⟩ := hrel
              have hp : v / 2 ^ i < 16 := Nat.lt_of_le_of_lt (Nat.div_le_self _ _) hv2
              by_cases him : i < m
              · have HN : Hid (v / 2 ^ (i + 1) = v / 2 ^ i / 2) := by
                  show _ = _
                  rw [Nat.pow_succ, Nat.div_div_eq_div_mul]
                generalize v / 2 ^ i = x at hp HN ⊢
                go_wp2
                go_roundw
                case rel => exact ⟨i + 1, by omega, int_eq (by rw [HN.out]; omega), by go_num, rfl⟩
                case measure => (simp [intOf]; try omega)
              · obtain rfl : i = m := by omega
                generalize v / 2 ^ i = x at hp HS ⊢
                by_cases hk7 : k = 7
                · subst hk7
                  have hz : sg (strV 4 d16 (bl s)) (8 * q) (7 + 1) < 2 ^ (7 + 1) := sg_lt _ (strV_bit _ _ _) _ _
                  have hyt := byt_toNat _ hz
                  have hcv := one_laid wr (byt (sg (strV 4 d16 (bl s)) (8 * q) (7 + 1)))
                  rw [hyt] at hcv
                  have hzs : (ba [byt (sg (strV 4 d16 (bl s)) (8 * q) (7 + 1))]).size = 1 := rfl
                  rw [HS.out] at hcv hz
                  have hcast : ((2 * sg (strV 4 d16 (bl s)) (8 * q) 7 + x % 2 : Nat) : Int) = 2 * (sg (strV 4 d16 (bl s)) (8 * q) 7 : Int) + (x : Int) % 2 := by omega
                  rw [hcast] at hcv
                  have hbd : 2 * (sg (strV 4 d16 (bl s)) (8 * q) 7 : Int) + (x : Int) % 2 < 256 := by omega
                  have HO : Hid (ba (outP 4 d16 (bl s) q) ++ ba [byt (sg (strV 4 d16 (bl s)) (8 * q) (7 + 1))] = ba (outP 4 d16 (bl s) (q + 1))) := HO.out
                  clear hyt hz hcast
                  rw [HS.out] at HO hzs
                  generalize ba [byt (2 * sg (strV 4 d16 (bl s)) (8 * q) 7 + x % 2)] = u at hcv HO hzs
                  generalize ba (outP 4 d16 (bl s) q) = o at hos HO ⊢
                  clear HS HW
                  generalize sg (strV 4 d16 (bl s)) (8 * q) 7 = g at hx2 hcv hbd ⊢
                  go_wp2
                  go_roundw
                  case rel => exact ⟨d + 1, q + 1, 0, i - 1, by have := HDM.out; omega, by have := HDM.out; omega, rfl, by have := HQ.out; omega, by omega, by rw [HO.out], rfl, rfl, HC2.out.alloc HC2.out.size _⟩
                  case measure => (simp [intOf]; try omega)
                · have hk7i : (k : Int) + 1 ≠ 8 := by omega
                  have hk7b : ((k : Int) + 1 == 8) = false := beq_eq_false_iff_ne.2 hk7i
                  clear hk7i
                  have HS2 : Hid ((sg (strV 4 d16 (bl s)) (8 * q) (k + 1) : Int) = 2 * (sg (strV 4 d16 (bl s)) (8 * q) k : Int) + (x : Int) % 2) := by
                    show _ = _
                    rw [HS.out]; omega
                  go_wp2
                  go_roundw
                  case rel => exact ⟨d + 1, q, k + 1, i - 1, by have := HDM.out; omega, by have := HDM.out; omega, rfl, by have := HQ.out; omega, by omega, rfl, int_eq HS2.out.symm, by go_num, HC2.out⟩
                  case measure => (simp [intOf]; try omega)
          · have hd5 : d = 4 := by have := HY.out; omega
            subst hd5
            go_wp2
            go_roundw
            case rel => exact ⟨n + 1, q, k, by omega, by go_num, HA2.out, by have := HQ.out; omega, hk, rfl, rfl, rfl, HC.out⟩
            case measure => (simp [intOf]; try omega)
    · obtain rfl : n = s.size := by omega
      have hall : allIn d16 (bl s) = true := all_in fun j hj => HA.out j (by rw [HL.out] at hj; exact hj)
      have hqe : 4 * (bl s).length / 8 = q := by rw [HL.out]; omega
      have hok := ok_iff tab16 hall
      have hO : outP 4 d16 (bl s) q = outB 4 d16 (bl s) := by
        show outP _ _ _ q = outP _ _ _ _
        rw [hqe]
      have hosz : (ba (outB 4 d16 (bl s))).size ≤ 5000 := by rw [ba_size, outB_len, hqe]; omega
      have HT := Lib.hid (fun w => refTo16_any (ba (outB 4 d16 (bl s))) w hosz)
      rw [hO]
      have hcmp : ((ba (enc 4 d16 (bl (ba (outB 4 d16 (bl s)))))).toList == s.toList) = okB 4 d16 (bl s) := by
        rw [hok, toList_bl, toList_bl, bl_ba, bl_ba]
      clear hall hqe hok hO hosz
      cases hk : okB 4 d16 (bl s) with
      | true =>
        have HD := Lib.hid (And.intro (good_yes hk).1 hk)
        rw [hk] at hcmp
        clear hk hx2 hq
        generalize hX : ba (enc 4 d16 (bl (ba (outB 4 d16 (bl s))))) = X at hcmp HT
        clear hX
        go_wp2_with fail
        refine (HT.out _).mono ?_
        rintro e' w1 ⟨rfl, hb1⟩
        have HC := Lib.hid (HB.out.trans (hb1.mono HB.out.size))
        clear hb1
        go_wp2
        go_ret2
        exact ⟨tupleB_eq (by rw [HD.out.1]) HD.out.2.symm, HC.out⟩
      | false =>
        have HD := Lib.hid (And.intro (bad_no hk).1 hk)
        rw [hk] at hcmp
        clear hk hx2 hq
        generalize hX : ba (enc 4 d16 (bl (ba (outB 4 d16 (bl s))))) = X at hcmp HT
        clear hX
        go_wp2_with fail
        refine (HT.out _).mono ?_
        rintro e' w1 ⟨rfl, hb1⟩
        have HC := Lib.hid (HB.out.trans (hb1.mono HB.out.size))
        clear hb1
        go_wp2
        go_ret2
        exact ⟨tupleB_eq (by rw [HD.out.1]) HD.out.2.symm, HC.out⟩
end Go.Proofs.Ytpkgbjbjdbjlhaa.Code
