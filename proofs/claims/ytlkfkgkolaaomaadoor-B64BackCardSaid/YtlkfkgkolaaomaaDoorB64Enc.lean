/-
  Walks: writeGroup, Plain, Encode.
-/
import Derived.Test.YtlkfkgkolaaomaaDoorB64Bits
import Derived.Test.YtlkfkgkolaaomaaDoorLexBuild
namespace Go.Proofs.YtlkfkgkolaaomaaDoor.B64
open Go Go.RowKit
open Go.Proofs.YtlkfkgkolaaomaaDoor.Code
open Go.Proofs.YtlkfkgkolaaomaaDoor.Lex (bl ba bl_len ba_size bl_ba ba_bl bl_extract bl_from drop_cons drop_end index_any BuiltAt wbyte wstr wend)

theorem i64_or_nat (a b : Nat) (ha : a < 4611686018427387904) (hb : b < 4611686018427387904) : bits .or .i64 (a : Int) (b : Int) = ((a ||| b : Nat) : Int) := by
  have hx : a ||| b < 2 ^ 62 := Nat.or_lt_two_pow (by omega) (by omega)
  show IntKind.i64.wrap ((BitVec.ofInt 64 (a : Int) ||| BitVec.ofInt 64 (b : Int)).toNat : Int) = _
  rw [BitVec.toNat_or, ofInt_u64 a (by omega), ofInt_u64 b (by omega), IntWalk.i64_in _ (by omega)]
theorem i64_and_nat (a b : Nat) (ha : a < 4611686018427387904) (hb : b < 4611686018427387904) : bits .and .i64 (a : Int) (b : Int) = ((a &&& b : Nat) : Int) := by
  have hx : a &&& b < 2 ^ 62 := Nat.and_lt_two_pow _ (by omega)
  show IntKind.i64.wrap ((BitVec.ofInt 64 (a : Int) &&& BitVec.ofInt 64 (b : Int)).toNat : Int) = _
  rw [BitVec.toNat_and, ofInt_u64 a (by omega), ofInt_u64 b (by omega), IntWalk.i64_in _ (by omega)]
/- x·2^k and less than 2^k, joined. -/
theorem join_nat (x c k : Nat) (hk : k ≤ 8) (hx : x < 65536) (hc : c < 2 ^ k) : bits .or .i64 ((x : Int) * 2 ^ k) (c : Int) = ((x * 2 ^ k + c : Nat) : Int) := by
  have h1 : 2 ^ k ≤ 2 ^ 8 := Nat.pow_le_pow_right (by decide) hk
  have h2 : x * 2 ^ k ≤ 65536 * 2 ^ 8 := Nat.mul_le_mul (by omega) h1
  have e : (x : Int) * 2 ^ k = ((x * 2 ^ k : Nat) : Int) := by simp
  rw [e, i64_or_nat _ _ (by omega) (by omega), Nat.mul_comm, ← Nat.two_pow_add_eq_or_of_lt hc]
theorem mask_nat (x k : Nat) (hk : k ≤ 16) (hx : x < 1073741824) : bits .and .i64 (x : Int) ((2 : Int) ^ k - 1) = ((x % 2 ^ k : Nat) : Int) := by
  have h1 : 2 ^ k ≤ 2 ^ 16 := Nat.pow_le_pow_right (by decide) hk
  have h0 := Nat.two_pow_pos k
  have e : (2 : Int) ^ k - 1 = ((2 ^ k - 1 : Nat) : Int) := by
    rw [Int.ofNat_sub (by omega)]; simp
  rw [e, i64_and_nat _ _ (by omega) (by omega), Nat.and_two_pow_sub_one_eq_mod]
abbrev tabB : ByteArray := ⟨#[65, 66, 67, 68, 69, 70, 71, 72, 73, 74, 75, 76, 77, 78, 79, 80, 81, 82, 83, 84, 85, 86, 87, 88, 89, 90, 97, 98, 99, 100, 101, 102, 103, 104, 105, 106, 107, 108, 109, 110, 111, 112, 113, 114, 115, 116, 117, 118, 119, 120, 121, 122, 48, 49, 50, 51, 52, 53, 54, 55, 56, 57, 43, 47]⟩
theorem tab_at : ∀ k : Nat, (h : k < 64) → tabB[k]'(by have : tabB.size = 64 := rfl; omega) = digOf d64 k := by decide +kernel
theorem tab_run (k : Nat) (h : k < 64) (W : World) : (Instr.index 9 (.string tabB) (.int .i64 k)).run Tryd.prog W = .ok (.int .u8 (digOf d64 k).toNat) W := by
  have hz : tabB.size = 64 := rfl
  rw [run_index_string W 9 tabB .i64 k Tryd.underlying9, dif_pos ⟨by omega, by omega⟩]
  have e := tab_at k h
  rw [← e]
  rfl

/-! A group. -/
def BiAt (g : List UInt8) (w : World) (b i : Value) (wr : World) : Prop := ∃ k : Nat, k ≤ 3 ∧ i = .int .i64 k ∧ b = .int .i64 (sg (strL g) 0 (8 * k) : Nat) ∧ w = wr
def GrAt (g acc : List UInt8) (w : World) (i : Value) (wr : World) : Prop := ∃ k : Nat, k ≤ 4 ∧ i = .int .i64 k ∧ Hid (BuiltAt w wr (acc ++ (grpL g).take k))
theorem grp_next (g : List UInt8) (k : Nat) (h : k < 4) : (grpL g).take (k + 1) = (grpL g).take k ++ [if g.length < k then 61 else digOf d64 (sg (strL g) (6 * k) 6)] := by
  match k, h with
  | 0, _ => rfl
  | 1, _ => rfl
  | 2, _ => rfl
  | 3, _ => rfl
theorem sg24 (f : Nat → Nat) (hf : ∀ i, f i < 2) (k m : Nat) (h : 6 * k + 6 + m = 24) : sg f 0 24 / 2 ^ m % 64 = sg f (6 * k) 6 := by
  rw [← h, sg_div f hf 0 (6 * k + 6) m, show (64 : Nat) = 2 ^ 6 from rfl, sg_mod f hf 0 (6 * k) 6, Nat.zero_add]
set_option maxRecDepth 100000 in
set_option maxHeartbeats 2000000 in
theorem group_any (w wr : World) (acc : List UInt8) (g : ByteArray) (h : BuiltAt w wr acc) (ha : acc.length ≤ 100000000) :
    Calls Tryd.prog 19 #[.pointer (some ⟨w.heap.size, 0, none⟩), .string g] wr fun e w' => e = .returned (.tuple #[]) ∧ BuiltAt w w' (acc ++ grpL (bl g)) := by
  have HI : Hid (BiAt (bl g) wr (.int .i64 0) (.int .i64 0) wr) := Lib.hid ⟨0, by omega, rfl, rfl, rfl⟩
  have HJ : Hid (GrAt (bl g) acc w (.int .i64 0) wr) := Lib.hid ⟨0, by omega, rfl, Lib.hid (by simpa using h)⟩
  have HL := Lib.hid (bl_len g)
  clear h
  go_enter Tryd.func19, Tryd.ntmps19
  go_wp2_with fail
  go_loopw [4, 5, 8] (fun b _ i w' => BiAt (bl g) wr b i w') (fun _ _ i _ => 3 - (intOf i).toNat)
  case atStart => exact HI.out
  case round =>
    clear HI
    obtain ⟨k, hk, rfl, rfl, rfl⟩ := hrel
    by_cases hk3 : k < 3
    · have hx := sg_lt (strL (bl g)) (strL_bit _) 0 (8 * k)
      have hx2 : sg (strL (bl g)) 0 (8 * k) < 65536 := Nat.lt_of_lt_of_le hx (Nat.pow_le_pow_right (by decide) (by omega : 8 * k ≤ 16))
      clear hx
      have hadd : sg (strL (bl g)) 0 (8 * (k + 1)) = sg (strL (bl g)) 0 (8 * k) * 256 + byteAt (bl g) k := by
        rw [show 8 * (k + 1) = 8 * k + 8 by omega, sg_add, Nat.zero_add, strL_byte]
      by_cases hlt : k < g.size
      · have h8 : g[k].toNat < 256 := g[k].toNat_lt
        rw [byteAt_str g k hlt] at hadd
        have HX : Hid (bits .or .i64 ((sg (strL (bl g)) 0 (8 * k) : Nat) * 256 : Int) (g[k].toNat : Int) = (sg (strL (bl g)) 0 (8 * (k + 1)) : Nat)) := Lib.hid (by
          rw [hadd]
          exact join_nat (sg (strL (bl g)) 0 (8 * k)) g[k].toNat 8 (by decide) hx2 h8)
        clear hadd
        generalize sg (strL (bl g)) 0 (8 * k) = x at *
        go_wp2_with fail
        go_roundw
        case rel => exact ⟨k + 1, by omega, by go_num, int_eq HX.out, rfl⟩
        case measure => simp [intOf]; omega
      · rw [byteAt_out _ _ (by rw [HL.out]; omega)] at hadd
        have HX : Hid (((sg (strL (bl g)) 0 (8 * k) : Nat) * 256 : Int) = (sg (strL (bl g)) 0 (8 * (k + 1)) : Nat)) := Lib.hid (by rw [hadd]; simp)
        clear hadd
        generalize sg (strL (bl g)) 0 (8 * k) = x at *
        go_wp2_with fail
        go_roundw
        case rel => exact ⟨k + 1, by omega, by go_num, int_eq HX.out, rfl⟩
        case measure => simp [intOf]; omega
    · have e3 : 8 * k = 24 := by omega
      have hx : sg (strL (bl g)) 0 (8 * k) < 16777216 := by
        rw [e3]
        exact sg_lt (strL (bl g)) (strL_bit _) 0 24
      have HD : Hid (∀ j m, 6 * j + 6 + m = 24 → sg (strL (bl g)) 0 (8 * k) / 2 ^ m % 64 = sg (strL (bl g)) (6 * j) 6) := Lib.hid (by
        rw [e3]
        exact fun j m h => sg24 _ (strL_bit _) j m h)
      clear e3
      generalize sg (strL (bl g)) 0 (8 * k) = x at *
      go_wp2_with fail
      go_loopw [6, 7, 24] (fun _ _ i w' => GrAt (bl g) acc w i w') (fun _ _ i _ => 4 - (intOf i).toNat)
      case atStart => exact HJ.out
      case round =>
        clear HJ hk hk3
        obtain ⟨k, hk, rfl, HB⟩ := hrel
        by_cases hk4 : k < 4
        · have HN := Lib.hid (grp_next (bl g) k hk4)
          have hal : (acc ++ (grpL (bl g)).take k).length ≤ 1000000000 := by
            rw [List.length_append, List.length_take, grp_len]
            omega
          by_cases hgk : g.size < k
          · rw [if_pos (by rw [HL.out]; exact hgk)] at HN
            have hgi : (k : Int) > (g.size : Int) := by omega
            have HW := Lib.hid (wstr w wr _ ⟨#[61]⟩ HB.out hal (by decide))
            clear hal
            go_wp2_with fail
            refine HW.out.mono ?_
            rintro e w1 ⟨rfl, hb⟩
            have HB1 : Hid (BuiltAt w w1 (acc ++ (grpL (bl g)).take (k + 1))) := Lib.hid (by rw [HN.out, ← List.append_assoc]; exact hb)
            clear hb
            go_wp2_with fail
            go_roundw
            case rel => exact ⟨k + 1, by omega, by go_num, HB1⟩
            case measure => simp [intOf]; omega
          · rw [if_neg (by rw [HL.out]; exact hgk)] at HN
            have hgi : ¬ (k : Int) > (g.size : Int) := by omega
            obtain ⟨m, hm⟩ : ∃ m, 6 * k + 6 + m = 24 := ⟨18 - 6 * k, by omega⟩
            have hm18 : m ≤ 18 := by omega
            have hmi : 6 * (3 - (k : Int)) = (m : Int) := by omega
            obtain ⟨M, hM, hM2⟩ : ∃ M : Nat, (2 : Int) ^ m = (M : Int) ∧ 2 ^ m = M := ⟨2 ^ m, by simp, rfl⟩
            have hM0 : 0 < M := by rw [← hM2]; exact Nat.two_pow_pos m
            have hd := HD.out k m hm
            rw [hM2] at hd
            have hy : x / M < 16777216 := Nat.lt_of_le_of_lt (Nat.div_le_self _ _) hx
            have hdv : (x : Int) / (M : Int) = ((x / M : Nat) : Int) := by simp
            have hand : bits .and .i64 ((x / M : Nat) : Int) 63 = (sg (strL (bl g)) (6 * k) 6 : Nat) := by
              rw [← hd]
              exact mask_nat (x / M) 6 (by decide) (by omega)
            have hz : sg (strL (bl g)) (6 * k) 6 < 64 := sg_lt _ (strL_bit _) _ 6
            have hrun := tab_run (sg (strL (bl g)) (6 * k) 6) hz
            have HW := Lib.hid (wbyte w wr _ (digOf d64 (sg (strL (bl g)) (6 * k) 6)) HB.out hal)
            have HM := Lib.hid hm
            clear hal hd hM2 hm
            generalize digOf d64 (sg (strL (bl g)) (6 * k) 6) = c at *
            generalize sg (strL (bl g)) (6 * k) 6 = z at *
            generalize x / M = y at *
            go_wp2_with fail
            refine HW.out.mono ?_
            rintro e w1 ⟨rfl, hb⟩
            have HB1 : Hid (BuiltAt w w1 (acc ++ (grpL (bl g)).take (k + 1))) := Lib.hid (by rw [HN.out, ← List.append_assoc]; exact hb)
            clear hb
            go_wp2_with fail
            go_roundw
            case rel => exact ⟨k + 1, by omega, by go_num, HB1⟩
            case measure => simp [intOf]; omega
        · obtain rfl : k = 4 := by omega
          have HE : Hid (BuiltAt w wr (acc ++ grpL (bl g))) := Lib.hid HB.out
          go_wp2_with fail
          go_end0
          exact ⟨rfl, HE.out⟩

/-! Plain. -/
/-- What is written so far, and what is left. -/
structure PnAt (s : ByteArray) (w wr : World) (r : ByteArray) (acc : List UInt8) : Prop where
  eq : plainL (bl s) = acc ++ plainL (bl r)
  built : BuiltAt w wr acc
  few : acc.length + 4 * r.size ≤ 4 * s.size
theorem empty_not (s : ByteArray) (h : 0 < s.size) : s.toList.isEmpty = false := by
  rw [toList_bl, Bool.eq_false_iff, ne_eq, List.isEmpty_iff]
  intro e
  have := congrArg List.length e
  rw [bl_len] at this
  exact absurd this (by show ¬ s.size = 0; omega)
theorem empty_eq (s : ByteArray) (h : ¬ 0 < s.size) : s = ⟨#[]⟩ := bl_inj (List.eq_nil_of_length_eq_zero (by rw [bl_len]; omega))
theorem ne_nil (s : ByteArray) (h : 0 < s.size) : bl s ≠ [] := by
  intro e
  have := congrArg List.length e
  rw [bl_len] at this
  exact absurd this (by show ¬ s.size = 0; omega)
def strSz' : Value → Nat
  | .string s => s.size
  | _ => 0
set_option maxRecDepth 100000 in
set_option maxHeartbeats 2000000 in
theorem plain_any (s : ByteArray) (w : World) (hs : s.size ≤ 10000000) :
    Calls Tryd.prog 9 #[.string s] w fun e w' => e = .returned (.string (ba (plainL (bl s)))) ∧ Below w.heap.size w w' := by
  have HI : Hid (PnAt s w (w.alloc (.cells #[.pointer none, .slice none 0 0] 38)) s []) := Lib.hid ⟨by simp, BuiltAt.start w, by simp⟩
  go_enter Tryd.func9, Tryd.ntmps9
  go_wp2_with fail
  go_loopw [0, 4] (fun v _ wr => ∃ (r : ByteArray) (acc : List UInt8), v = .string r ∧ r.size ≤ s.size ∧ Hid (PnAt s w wr r acc)) (fun v _ _ => strSz' v)
  case atStart => exact ⟨s, [], rfl, Nat.le_refl _, HI⟩
  case round =>
    clear HI
    obtain ⟨r, acc, rfl, hrz, HP⟩ := hrel
    by_cases h0 : 0 < r.size
    · have he := empty_not r h0
      obtain ⟨k, hk3, hkr, hk0, hmin⟩ : ∃ k : Nat, k ≤ 3 ∧ k ≤ r.size ∧ 0 < k ∧ min (3 : Int) (r.size : Int) = (k : Int) ∧ bl (r.extract 0 k) = (bl r).take 3 ∧ bl (r.extract k r.size) = (bl r).drop 3 := by
        by_cases h3 : r.size ≤ 3
        · exact ⟨r.size, h3, Nat.le_refl _, h0, by omega, by rw [bl_extract, List.drop_zero, Nat.sub_zero, List.take_of_length_le (by rw [bl_len]; omega), List.take_of_length_le (by rw [bl_len]; omega)], by rw [bl_from, List.drop_eq_nil_of_le (by rw [bl_len]; omega), List.drop_eq_nil_of_le (by rw [bl_len]; omega)]⟩
        · exact ⟨3, by omega, by omega, by omega, by omega, by rw [bl_extract]; rfl, by rw [bl_from]⟩
      obtain ⟨hmin, ht, hdr⟩ := hmin
      have hfew := HP.out.few
      have hal : acc.length ≤ 100000000 := by omega
      have hrz2 : (r.extract k r.size).size < r.size := by rw [ByteArray.size_extract]; omega
      have hrk : (r.extract k r.size).size + k = r.size := by rw [ByteArray.size_extract]; omega
      have HG := Lib.hid (group_any w wr acc (r.extract 0 k) HP.out.built hal)
      have HN : Hid (∀ W, BuiltAt w W (acc ++ grpL (bl (r.extract 0 k))) → PnAt s w W (r.extract k r.size) (acc ++ grpL (bl (r.extract 0 k)))) := Lib.hid (fun W h => ⟨by
        rw [HP.out.eq, plain_cons (bl r) (ne_nil r h0), ht, hdr, List.append_assoc], h, by
        rw [List.length_append, grp_len]
        omega⟩)
      clear ht hdr hfew hrk
      go_wp2_with fail
      refine HG.out.mono ?_
      rintro e w1 ⟨rfl, hb⟩
      have HB := Lib.hid (HN.out w1 hb)
      clear hb HN
      go_wp2_with fail
      go_roundw
      case rel => exact ⟨_, _, rfl, by omega, HB⟩
      case measure => simp [strSz']; omega
    · obtain rfl := empty_eq r h0
      have HE : Hid (plainL (bl s) = acc) := Lib.hid (by
        rw [HP.out.eq]
        show acc ++ [] = acc
        simp)
      have HW := Lib.hid (wend w wr acc HP.out.built)
      clear HP
      go_wp2_with fail
      refine HW.out.mono ?_
      rintro e w1 ⟨rfl, hb⟩
      have HB := Lib.hid hb
      clear hb
      go_wp2_with fail
      go_ret
      exact ⟨by rw [HE.out]; rfl, HB.out⟩

/-! Encode. -/
structure EcAt (t : ByteArray) (w wr : World) (r : ByteArray) (acc : List UInt8) : Prop where
  eq : lnL 0 (bl t) = acc ++ lnL 0 (bl r)
  built : BuiltAt w wr acc
  few : acc.length + 3 * r.size ≤ 3 * t.size
set_option maxRecDepth 100000 in
set_option maxHeartbeats 2000000 in
theorem encode_any (s : ByteArray) (w : World) (hs : s.size ≤ 1000000) :
    Calls Tryd.prog 11 #[.string s] w fun e w' => e = .returned (.string (ba (linesL (bl s)))) ∧ Below w.heap.size w w' := by
  have HP := Lib.hid (fun W => plain_any s W (by omega))
  have hz : (ba (plainL (bl s))).size ≤ 3000000 := by
    rw [ba_size]
    have := plain_len (bl s)
    rw [bl_len] at this
    omega
  have HE : Hid (ba (linesL (bl s)) = ba (lnL 0 (bl (ba (plainL (bl s)))))) := Lib.hid (by rw [bl_ba]; rfl)
  generalize ba (plainL (bl s)) = t at *
  have HS := Lib.hid (BuiltAt.start w)
  go_enter Tryd.func11, Tryd.ntmps11
  go_wp2_with fail
  refine (HP.out _).mono ?_
  rintro e w1 ⟨rfl, hb⟩
  have HI : Hid (EcAt t w w1 t []) := Lib.hid ⟨by simp, HS.out.kept hb, by simp⟩
  clear hb HS HP
  go_wp2_with fail
  go_loopw [4, 5] (fun v _ wr => ∃ (r : ByteArray) (acc : List UInt8), v = .string r ∧ r.size ≤ t.size ∧ Hid (EcAt t w wr r acc)) (fun v _ _ => strSz' v)
  case atStart => exact ⟨t, [], rfl, Nat.le_refl _, HI⟩
  case round =>
    clear HI
    obtain ⟨r, acc, rfl, hrz, HC⟩ := hrel
    by_cases h0 : 0 < r.size
    · have he := empty_not r h0
      obtain ⟨k, hk3, hkr, hk0, hmin⟩ : ∃ k : Nat, k ≤ 76 ∧ k ≤ r.size ∧ 0 < k ∧ min (76 : Int) (r.size : Int) = (k : Int) ∧ bl (r.extract 0 k) = (bl r).take 76 ∧ bl (r.extract k r.size) = (bl r).drop 76 := by
        by_cases h3 : r.size ≤ 76
        · exact ⟨r.size, h3, Nat.le_refl _, h0, by omega, by rw [bl_extract, List.drop_zero, Nat.sub_zero, List.take_of_length_le (by rw [bl_len]; omega), List.take_of_length_le (by rw [bl_len]; omega)], by rw [bl_from, List.drop_eq_nil_of_le (by rw [bl_len]; omega), List.drop_eq_nil_of_le (by rw [bl_len]; omega)]⟩
        · exact ⟨76, by omega, by omega, by omega, by omega, by rw [bl_extract]; rfl, by rw [bl_from]⟩
      obtain ⟨hmin, ht, hdr⟩ := hmin
      have hfew := HC.out.few
      have hal : acc.length ≤ 100000000 := by omega
      have hez : (r.extract 0 k).size ≤ 76 := by rw [ByteArray.size_extract]; omega
      have hek : (r.extract 0 k).size = k := by rw [ByteArray.size_extract]; omega
      have hrz2 : (r.extract k r.size).size < r.size := by rw [ByteArray.size_extract]; omega
      have hrk : (r.extract k r.size).size + k = r.size := by rw [ByteArray.size_extract]; omega
      have HG := Lib.hid (wstr w wr acc (r.extract 0 k) HC.out.built (by omega) (by omega))
      have hal2 : (acc ++ bl (r.extract 0 k)).length ≤ 1000000000 := by rw [List.length_append, bl_len]; omega
      have HN : Hid (∀ W, BuiltAt w W ((acc ++ bl (r.extract 0 k)) ++ bl (⟨#[13, 10]⟩ : ByteArray)) → EcAt t w W (r.extract k r.size) ((acc ++ bl (r.extract 0 k)) ++ bl (⟨#[13, 10]⟩ : ByteArray))) := Lib.hid (fun W h => ⟨by
        rw [HC.out.eq, ln_take (bl r) 0 (ne_nil r h0) (by omega), ht, hdr]
        show acc ++ (List.take 76 (bl r) ++ 13 :: 10 :: lnL 0 (List.drop 76 (bl r))) = ((acc ++ List.take 76 (bl r)) ++ [13, 10]) ++ lnL 0 (List.drop 76 (bl r))
        simp, h, by
        rw [List.length_append, List.length_append, bl_len, hek, bl_len, show (⟨#[13, 10]⟩ : ByteArray).size = 2 from rfl]
        omega⟩)
      clear ht hdr hfew hrk hek
      go_wp2_with fail
      refine HG.out.mono ?_
      rintro e w1 ⟨rfl, hb⟩
      have HW := Lib.hid (wstr w w1 _ ⟨#[13, 10]⟩ hb hal2 (by decide))
      clear hb hal2
      go_wp2_with fail
      refine HW.out.mono ?_
      rintro e w2 ⟨rfl, hb⟩
      have HB := Lib.hid (HN.out w2 hb)
      clear hb HN
      go_wp2_with fail
      go_roundw
      case rel => exact ⟨_, _, rfl, by omega, HB⟩
      case measure => simp [strSz']; omega
    · obtain rfl := empty_eq r h0
      have HX : Hid (ba (linesL (bl s)) = ba acc) := Lib.hid (by
        rw [HE.out, HC.out.eq]
        show ba (acc ++ []) = ba acc
        simp)
      have HW := Lib.hid (wend w wr acc HC.out.built)
      clear HC HE
      go_wp2_with fail
      refine HW.out.mono ?_
      rintro e w1 ⟨rfl, hb⟩
      have HB := Lib.hid hb
      clear hb
      go_wp2_with fail
      go_ret
      exact ⟨ret_str HX.out.symm, HB.out⟩
end Go.Proofs.YtlkfkgkolaaomaaDoor.B64
