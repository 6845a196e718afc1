/-
  The laws CodeNumbers and CodeOrder, walked.
-/
import Derived.Test.YtpkgbjbjdbjlhaaCodeWorks
import Derived.Test.YtpkgbjbjdbjlhaaCodeOrd
namespace Go.Proofs.Ytpkgbjbjdbjlhaa
open Go.RowKit
open Go.Proofs.Ytpkgbjbjdbjlhaa.Code

theorem bytes_back (s : ByteArray) (h : s.size = 8) : ba (b8 (numP (bl s) 8)) = s ∧ numP (bl s) 8 < 18446744073709551616 := by
  have hl : (bl s).length = 8 := by rw [bl_len, h]
  have hn := numP_lt (bl s) 8
  refine ⟨?_, hn⟩
  rw [show b8 (numP (bl s) 8) = bl s from ?_]
  have hb : ∀ j, j < 8 → byteAt (b8 (numP (bl s) 8)) j = byteAt (bl s) j := by
    have e := fun i hi => numP_b8 (numP (bl s) 8) hn i hi
    intro j hj
    rw [byteAt_b8 _ j hj]
    have h0 := byteAt_lt8 (bl s) 0
    have h1 := byteAt_lt8 (bl s) 1
    have h2 := byteAt_lt8 (bl s) 2
    have h3 := byteAt_lt8 (bl s) 3
    have h4 := byteAt_lt8 (bl s) 4
    have h5 := byteAt_lt8 (bl s) 5
    have h6 := byteAt_lt8 (bl s) 6
    have h7 := byteAt_lt8 (bl s) 7
    show ((((((((0 * 256 + byteAt (bl s) 0) * 256 + byteAt (bl s) 1) * 256 + byteAt (bl s) 2) * 256 + byteAt (bl s) 3) * 256 + byteAt (bl s) 4) * 256 + byteAt (bl s) 5) * 256 + byteAt (bl s) 6) * 256 + byteAt (bl s) 7) / 256 ^ (7 - j) % 256 = _
    match j, hj with
    | 0, _ => show _ / 72057594037927936 % 256 = _; omega
    | 1, _ => show _ / 281474976710656 % 256 = _; omega
    | 2, _ => show _ / 1099511627776 % 256 = _; omega
    | 3, _ => show _ / 4294967296 % 256 = _; omega
    | 4, _ => show _ / 16777216 % 256 = _; omega
    | 5, _ => show _ / 65536 % 256 = _; omega
    | 6, _ => show _ / 256 % 256 = _; omega
    | 7, _ => show _ / 1 % 256 = _; omega
  apply List.ext_getElem?
  intro j
  by_cases hj : j < 8
  · have h1 := byt_byteAt (b8 (numP (bl s) 8)) j (by rw [b8_len]; exact hj)
    have h2 := byt_byteAt (bl s) j (by rw [hl]; exact hj)
    rw [List.getElem?_eq_getElem (by rw [b8_len]; exact hj), List.getElem?_eq_getElem (by rw [hl]; exact hj), ← h1, ← h2, hb j hj]
  · rw [List.getElem?_eq_none (by rw [b8_len]; omega), List.getElem?_eq_none (by rw [hl]; omega)]
set_option maxRecDepth 100000 in
set_option maxHeartbeats 1000000 in
theorem codeNumbers_any (n : Nat) (s : ByteArray) (w : World) (hn : n < 18446744073709551616) (_hs : s.size ≤ 9223372036854775807) :
    Calls Try.prog 4 #[.int .u64 n, .string s] w fun e w' => e = .returned (.bool true) ∧ Below w.heap.size w w' := by
  have HB : Hid (Below w.heap.size w w) := Below.refl _ _
  have C1 := Lib.hid (fun w => bytes_any n w hn)
  have C2 := Lib.hid (fun w => refBytes_any n w hn)
  generalize ba (b8 n) = y at C1 C2
  by_cases h : s.size = 8
  · have e1 : ((s.size : Int) == 8) = true := by simp; omega
    have N := Lib.hid (fun w => number_yes s w h)
    obtain ⟨hb, hl⟩ := bytes_back s h
    have R := Lib.hid (fun w => refBytes_any (numP (bl s) 8) w hl)
    rw [hb] at R
    clear hb h
    generalize numP (bl s) 8 = m at N R hl
    go_enter Try.func4, Try.ntmps4
    go_wp2_with fail
    refine (N.out _).mono ?_
    rintro e w' ⟨rfl, rfl⟩
    go_wp2_with fail
    refine (R.out _).mono ?_
    rintro e w1 ⟨rfl, hb1⟩
    have HB := Lib.hid (HB.out.trans (hb1.mono HB.out.size))
    clear hb1
    go_wp2_with fail
    refine (C1.out _).mono ?_
    rintro e w2 ⟨rfl, hb2⟩
    have HB := Lib.hid (HB.out.trans (hb2.mono HB.out.size))
    clear hb2
    go_wp2_with fail
    refine (C2.out _).mono ?_
    rintro e w3 ⟨rfl, hb3⟩
    have HB := Lib.hid (HB.out.trans (hb3.mono HB.out.size))
    clear hb3
    go_wp2_with fail
    refine (works_any _).mono ?_
    rintro e w4 ⟨rfl, hb4⟩
    have HB := Lib.hid (HB.out.trans (hb4.mono HB.out.size))
    clear hb4
    go_wp2
    go_ret
    exact ⟨rfl, HB.out⟩
  · have e1 : ((s.size : Int) == 8) = false := by simp; omega
    have e2 : ((s.size : Int) != 8) = true := by simp; omega
    have N := Lib.hid (fun w => number_no s w h)
    clear h
    go_enter Try.func4, Try.ntmps4
    go_wp2_with fail
    refine (N.out _).mono ?_
    rintro e w' ⟨rfl, rfl⟩
    go_wp2_with fail
    refine (C1.out _).mono ?_
    rintro e w2 ⟨rfl, hb2⟩
    have HB := Lib.hid (HB.out.trans (hb2.mono HB.out.size))
    clear hb2
    go_wp2_with fail
    refine (C2.out _).mono ?_
    rintro e w3 ⟨rfl, hb3⟩
    have HB := Lib.hid (HB.out.trans (hb3.mono HB.out.size))
    clear hb3
    go_wp2_with fail
    refine (works_any _).mono ?_
    rintro e w4 ⟨rfl, hb4⟩
    have HB := Lib.hid (HB.out.trans (hb4.mono HB.out.size))
    clear hb4
    go_wp2
    go_ret
    exact ⟨rfl, HB.out⟩

theorem number_b8 (n : Nat) (w : World) (hn : n < 18446744073709551616) : Calls Try.prog 16 #[.string (ba (b8 n))] w fun e w' => e = .returned (.tuple #[.int .u64 n, .int .i64 0]) ∧ w = w' := by
  have h := number_yes (ba (b8 n)) w (by rw [ba_size, b8_len])
  rw [bl_ba, num_b8 n hn] at h
  exact h
set_option maxRecDepth 100000 in
set_option maxHeartbeats 1000000 in
theorem codeOrder_any (a b : Nat) (w : World) (ha : a < 18446744073709551616) (hb : b < 18446744073709551616) :
    Calls Try.prog 6 #[.int .u64 a, .int .u64 b] w fun e w' => e = .returned (.bool true) ∧ Below w.heap.size w w' := by
  have HB : Hid (Below w.heap.size w w) := Below.refl _ _
  have C1 := Lib.hid (fun w => bytes_any a w ha)
  have C2 := Lib.hid (fun w => bytes_any b w hb)
  have N := Lib.hid (fun w => number_b8 a w ha)
  have z1 : (ba (b8 a)).size ≤ 100000 := by rw [ba_size, b8_len]; decide
  have z2 : (ba (b8 b)).size ≤ 100000 := by rw [ba_size, b8_len]; decide
  have C3 := Lib.hid (fun w => to16_any (ba (b8 a)) w z1)
  have C4 := Lib.hid (fun w => to16_any (ba (b8 b)) w z2)
  rw [bl_ba] at C3 C4
  obtain ⟨o1, o2⟩ := order_b8 a b ha hb
  have o3 := order_16 a b ha hb
  have p1 : Op.bytesLess (ba (b8 a)).toList (ba (b8 b)).toList = decide (a < b) := by
    rw [toList_bl, toList_bl, bl_ba, bl_ba, o1]
  have p2 : Op.bytesLess (ba (enc 4 d16 (b8 a))).toList (ba (enc 4 d16 (b8 b))).toList = decide (a < b) := by
    rw [toList_bl, toList_bl, bl_ba, bl_ba, o3]
  have p3 : ((ba (b8 a)).toList == (ba (b8 b)).toList) = ((a : Int) == (b : Int)) := by
    rw [toList_bl, toList_bl, bl_ba, bl_ba, Bool.eq_iff_iff, beq_iff_eq, beq_iff_eq, o2]; omega
  clear o1 o2 o3 z1 z2
  generalize ba (enc 4 d16 (b8 a)) = y1 at C3 p2
  generalize ba (enc 4 d16 (b8 b)) = y2 at C4 p2
  generalize ba (b8 a) = x1 at C1 C3 N p1 p3
  generalize ba (b8 b) = x2 at C2 C4 p1 p3
  generalize hd : decide (a < b) = d at p1 p2
  generalize he : ((a : Int) == (b : Int)) = q at p3
  go_enter Try.func6, Try.ntmps6
  go_wp2_with fail
  refine (works_any _).mono ?_
  rintro e w1 ⟨rfl, hb1⟩
  have HB := Lib.hid (HB.out.trans (hb1.mono HB.out.size))
  clear hb1
  go_wp2_with fail
  refine (C1.out _).mono ?_
  rintro e w2 ⟨rfl, hb2⟩
  have HB := Lib.hid (HB.out.trans (hb2.mono HB.out.size))
  clear hb2
  go_wp2_with fail
  refine (C2.out _).mono ?_
  rintro e w3 ⟨rfl, hb3⟩
  have HB := Lib.hid (HB.out.trans (hb3.mono HB.out.size))
  clear hb3
  go_wp2_with fail
  refine (N.out _).mono ?_
  rintro e w' ⟨rfl, rfl⟩
  go_wp2_with fail
  refine (C3.out _).mono ?_
  rintro e w4 ⟨rfl, hb4⟩
  have HB := Lib.hid (HB.out.trans (hb4.mono HB.out.size))
  clear hb4
  go_wp2_with fail
  refine (C4.out _).mono ?_
  rintro e w5 ⟨rfl, hb5⟩
  have HB := Lib.hid (HB.out.trans (hb5.mono HB.out.size))
  clear hb5
  go_wp2
  go_ret
  exact ⟨rfl, HB.out⟩
end Go.Proofs.Ytpkgbjbjdbjlhaa
