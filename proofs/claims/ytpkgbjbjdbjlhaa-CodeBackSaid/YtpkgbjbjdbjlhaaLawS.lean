/-
  The laws CodeSigns and CodeBack, walked.
-/
import Derived.Test.YtpkgbjbjdbjlhaaCodeWorks
import Derived.Test.YtpkgbjbjdbjlhaaCodeRefOf
namespace Go.Proofs.Ytpkgbjbjdbjlhaa
open Go.RowKit
open Go.Proofs.Ytpkgbjbjdbjlhaa.Code

set_option maxHeartbeats 400000 in
theorem says_any (b : Bool) (w : World) : Calls Try.prog 15 #[.bool b] w fun e w' => e = .returned (.int .i64 (if b then 0 else 3)) ∧ w = w' := by
  cases b with
  | true =>
    go_enter Try.func15, Try.ntmps15
    go_wp2
    go_ret
    exact ⟨rfl, rfl⟩
  | false =>
    go_enter Try.func15, Try.ntmps15
    go_wp2
    go_ret
    exact ⟨rfl, rfl⟩
theorem says_ok (wd : Nat) (D t : List UInt8) (w : World) : Calls Try.prog 15 #[.bool (okB wd D t)] w fun e w' => e = .returned (.int .i64 (codeOf wd D t)) ∧ w = w' := says_any _ w
set_option maxRecDepth 100000 in
set_option maxHeartbeats 1000000 in
theorem codeSigns_most (s t : ByteArray) (w : World) (hs : s.size ≤ 500) (ht : t.size ≤ 500) :
    Calls Try.prog 3 #[.string s, .string t] w fun e w' => e = .returned (.bool true) ∧ Below w.heap.size w w' := by
  have d1 : decide ((500 : Int) < (s.size : Int)) = false := by simp; omega
  have d2 : decide ((500 : Int) < (t.size : Int)) = false := by simp; omega
  have HB : Hid (Below w.heap.size w w) := Below.refl _ _
  have C1 := Lib.hid (fun w => of32_any t w (by omega))
  have C2 := Lib.hid (fun w => refOf_5 t w (by omega))
  have C3 := Lib.hid (fun w => of16_any t w (by omega))
  have C4 := Lib.hid (fun w => refOf_4 t w (by omega))
  have C5 := Lib.hid (fun w => to32_any s w (by omega))
  have C6 := Lib.hid (fun w => refTo32_any s w (by omega))
  have C7 := Lib.hid (fun w => to16_any s w (by omega))
  have C8 := Lib.hid (fun w => refTo16_any s w (by omega))
  have S1 := Lib.hid (fun w => says_ok 5 d32 (bl t) w)
  have S2 := Lib.hid (fun w => says_ok 4 d16 (bl t) w)
  generalize ba (dec 5 d32 (bl t)) = x1 at C1 C2
  generalize codeOf 5 d32 (bl t) = c1 at C1 S1
  generalize okB 5 d32 (bl t) = b1 at C2 S1
  generalize ba (dec 4 d16 (bl t)) = x2 at C3 C4
  generalize codeOf 4 d16 (bl t) = c2 at C3 S2
  generalize okB 4 d16 (bl t) = b2 at C4 S2
  generalize ba (enc 5 d32 (bl s)) = y1 at C5 C6
  generalize ba (enc 4 d16 (bl s)) = y2 at C7 C8
  go_enter Try.func3, Try.ntmps3
  go_wp2_with fail
  refine (C1.out _).mono ?_
  rintro e w1 ⟨rfl, hb1⟩
  have HB := Lib.hid (HB.out.trans (hb1.mono HB.out.size))
  clear hb1
  go_wp2_with fail
  refine (C2.out _).mono ?_
  rintro e w2 ⟨rfl, hb2⟩
  have HB := Lib.hid (HB.out.trans (hb2.mono HB.out.size))
  clear hb2
  go_wp2_with fail
  refine (C3.out _).mono ?_
  rintro e w3 ⟨rfl, hb3⟩
  have HB := Lib.hid (HB.out.trans (hb3.mono HB.out.size))
  clear hb3
  go_wp2_with fail
  refine (C4.out _).mono ?_
  rintro e w4 ⟨rfl, hb4⟩
  have HB := Lib.hid (HB.out.trans (hb4.mono HB.out.size))
  clear hb4
  go_wp2_with fail
  refine (C5.out _).mono ?_
  rintro e w5 ⟨rfl, hb5⟩
  have HB := Lib.hid (HB.out.trans (hb5.mono HB.out.size))
  clear hb5
  go_wp2_with fail
  refine (C6.out _).mono ?_
  rintro e w6 ⟨rfl, hb6⟩
  have HB := Lib.hid (HB.out.trans (hb6.mono HB.out.size))
  clear hb6
  go_wp2_with fail
  refine (C7.out _).mono ?_
  rintro e w7 ⟨rfl, hb7⟩
  have HB := Lib.hid (HB.out.trans (hb7.mono HB.out.size))
  clear hb7
  go_wp2_with fail
  refine (C8.out _).mono ?_
  rintro e w8 ⟨rfl, hb8⟩
  have HB := Lib.hid (HB.out.trans (hb8.mono HB.out.size))
  clear hb8
  go_wp2_with fail
  refine (S1.out _).mono ?_
  rintro e w' ⟨rfl, rfl⟩
  go_wp2_with fail
  refine (S2.out _).mono ?_
  rintro e w' ⟨rfl, rfl⟩
  go_wp2_with fail
  refine (works_any _).mono ?_
  rintro e w9 ⟨rfl, hb9⟩
  have HB := Lib.hid (HB.out.trans (hb9.mono HB.out.size))
  clear hb9
  go_wp2
  go_ret
  exact ⟨rfl, HB.out⟩
set_option maxHeartbeats 400000 in
theorem codeSigns_any (s t : ByteArray) (w : World) (_hs : s.size ≤ 9223372036854775807) (_ht : t.size ≤ 9223372036854775807) :
    Calls Try.prog 3 #[.string s, .string t] w fun e w' => e = .returned (.bool true) ∧ Below w.heap.size w w' := by
  have HB : Hid (Below w.heap.size w w) := Below.refl _ _
  by_cases h1 : s.size ≤ 500
  · have d1 : decide ((500 : Int) < (s.size : Int)) = false := by simp; omega
    by_cases h2 : t.size ≤ 500
    · exact codeSigns_most s t w h1 h2
    · have d2 : decide ((500 : Int) < (t.size : Int)) = true := by simp; omega
      go_enter Try.func3, Try.ntmps3
      go_wp2_with fail
      refine (works_any _).mono ?_
      rintro e w1 ⟨rfl, hb1⟩
      have HB := Lib.hid (HB.out.trans (hb1.mono HB.out.size))
      clear hb1
      go_wp2
      go_ret
      exact ⟨rfl, HB.out⟩
  · have d1 : decide ((500 : Int) < (s.size : Int)) = true := by simp; omega
    go_enter Try.func3, Try.ntmps3
    go_wp2_with fail
    refine (works_any _).mono ?_
    rintro e w1 ⟨rfl, hb1⟩
    have HB := Lib.hid (HB.out.trans (hb1.mono HB.out.size))
    clear hb1
    go_wp2
    go_ret
    exact ⟨rfl, HB.out⟩

/- What is read of signs, and written. -/
theorem back_same (wd : Nat) (D : List UInt8) (T : Tab wd D) (s : ByteArray) : ba (dec wd D (bl (ba (enc wd D (bl s))))) = s ∧ codeOf wd D (bl (ba (enc wd D (bl s)))) = 0 := by
  rw [bl_ba, dec_enc T]
  exact ⟨ba_bl s, by unfold codeOf; rw [ok_enc T]; rfl⟩
theorem enc_size (wd : Nat) (D : List UInt8) (T : Tab wd D) (s : ByteArray) (h : s.size ≤ 500) : (ba (enc wd D (bl s))).size ≤ 1000 := by
  rw [ba_size, enc_len, bl_len]
  unfold elen
  rcases T.wid with rfl | rfl <;> omega
theorem dec_size (wd : Nat) (D : List UInt8) (T : Tab wd D) (t : ByteArray) (h : t.size ≤ 500) : (ba (dec wd D (bl t))).size ≤ 500 := by
  rw [ba_size]
  unfold dec
  split
  · rw [outB_len, bl_len]
    rcases T.wid with rfl | rfl <;> omega
  · exact Nat.zero_le _
/-- What a decoder hands back: an answer that is written again, or none and no OK. -/
def Turned (wd : Nat) (D : List UInt8) (t x : ByteArray) (c : Int) : Prop := (c = 0 ∧ ba (enc wd D (bl x)) = t) ∨ (c = 3 ∧ x = ⟨#[]⟩)
theorem turned (wd : Nat) (D : List UInt8) (T : Tab wd D) (t : ByteArray) : Turned wd D t (ba (dec wd D (bl t))) (codeOf wd D (bl t)) := by
  cases h : okB wd D (bl t) with
  | true => exact .inl ⟨(good_yes h).2, by rw [bl_ba, enc_dec T h]⟩
  | false => exact .inr ⟨(bad_no h).2, by rw [(bad_no h).1]⟩
set_option maxRecDepth 100000 in
set_option maxHeartbeats 2000000 in
theorem codeBack_most (s t : ByteArray) (w : World) (hs : s.size ≤ 500) (ht : t.size ≤ 500) :
    Calls Try.prog 5 #[.string s, .string t] w fun e w' => e = .returned (.bool true) ∧ Below w.heap.size w w' := by
  have d1 : decide ((500 : Int) < (s.size : Int)) = false := by simp; omega
  have d2 : decide ((500 : Int) < (t.size : Int)) = false := by simp; omega
  have HB : Hid (Below w.heap.size w w) := Below.refl _ _
  have z1 := enc_size 5 d32 tab32 s hs
  have z2 := enc_size 4 d16 tab16 s hs
  have z3 := dec_size 5 d32 tab32 t ht
  have z4 := dec_size 4 d16 tab16 t ht
  have C1 := Lib.hid (fun w => to32_any s w (by omega))
  have C2 := Lib.hid (fun w => of32_any (ba (enc 5 d32 (bl s))) w (by omega))
  have C3 := Lib.hid (fun w => to16_any s w (by omega))
  have C4 := Lib.hid (fun w => of16_any (ba (enc 4 d16 (bl s))) w (by omega))
  have C5 := Lib.hid (fun w => of32_any t w (by omega))
  have C6 := Lib.hid (fun w => of16_any t w (by omega))
  have C7 := Lib.hid (fun w => to32_any (ba (dec 5 d32 (bl t))) w (by omega))
  have C8 := Lib.hid (fun w => to16_any (ba (dec 4 d16 (bl t))) w (by omega))
  rw [(back_same 5 d32 tab32 s).1, (back_same 5 d32 tab32 s).2] at C2
  rw [(back_same 4 d16 tab16 s).1, (back_same 4 d16 tab16 s).2] at C4
  have T1 := turned 5 d32 tab32 t
  have T2 := turned 4 d16 tab16 t
  clear z1 z2 z3 z4
  generalize ba (enc 5 d32 (bl s)) = y1 at C1 C2
  generalize ba (enc 4 d16 (bl s)) = y2 at C3 C4
  generalize ba (dec 5 d32 (bl t)) = x1 at C5 C7 T1
  generalize ba (dec 4 d16 (bl t)) = x2 at C6 C8 T2
  generalize codeOf 5 d32 (bl t) = c1 at C5 T1
  generalize codeOf 4 d16 (bl t) = c2 at C6 T2
  rcases T1 with ⟨rfl, T1⟩ | ⟨rfl, rfl⟩ <;> rcases T2 with ⟨rfl, T2⟩ | ⟨rfl, rfl⟩
  · rw [T1] at C7
    clear T1
    rw [T2] at C8
    clear T2
    go_enter Try.func5, Try.ntmps5
    go_wp2_with fail
    refine (works_any _).mono ?_
    rintro e w1 ⟨rfl, hb1⟩
    have HB := Lib.hid (HB.out.trans (hb1.mono HB.out.size))
    clear hb1
    go_wp2_with fail
    refine (C1.out _).mono ?_
    rintro e w2 ⟨rfl, hb2⟩
    have HB := Lib.hid (HB.out.trans (hb2.mono HB.out.size))
    clear hb2
    go_wp2_with fail
    refine (C2.out _).mono ?_
    rintro e w3 ⟨rfl, hb3⟩
    have HB := Lib.hid (HB.out.trans (hb3.mono HB.out.size))
    clear hb3
    go_wp2_with fail
    refine (C3.out _).mono ?_
    rintro e w4 ⟨rfl, hb4⟩
    have HB := Lib.hid (HB.out.trans (hb4.mono HB.out.size))
    clear hb4
    go_wp2_with fail
    refine (C4.out _).mono ?_
    rintro e w5 ⟨rfl, hb5⟩
    have HB := Lib.hid (HB.out.trans (hb5.mono HB.out.size))
    clear hb5
    go_wp2_with fail
    refine (C5.out _).mono ?_
    rintro e w6 ⟨rfl, hb6⟩
    have HB := Lib.hid (HB.out.trans (hb6.mono HB.out.size))
    clear hb6
    go_wp2_with fail
    refine (C6.out _).mono ?_
    rintro e w7 ⟨rfl, hb7⟩
    have HB := Lib.hid (HB.out.trans (hb7.mono HB.out.size))
    clear hb7
    go_wp2_with fail
    refine (C7.out _).mono ?_
    rintro e w8 ⟨rfl, hb8⟩
    have HB := Lib.hid (HB.out.trans (hb8.mono HB.out.size))
    clear hb8
    go_wp2_with fail
    refine (C8.out _).mono ?_
    rintro e w9 ⟨rfl, hb9⟩
    have HB := Lib.hid (HB.out.trans (hb9.mono HB.out.size))
    clear hb9
    go_wp2
    go_ret
    exact ⟨rfl, HB.out⟩
  · rw [T1] at C7
    clear T1
    go_enter Try.func5, Try.ntmps5
    go_wp2_with fail
    refine (works_any _).mono ?_
    rintro e w1 ⟨rfl, hb1⟩
    have HB := Lib.hid (HB.out.trans (hb1.mono HB.out.size))
    clear hb1
    go_wp2_with fail
    refine (C1.out _).mono ?_
    rintro e w2 ⟨rfl, hb2⟩
    have HB := Lib.hid (HB.out.trans (hb2.mono HB.out.size))
    clear hb2
    go_wp2_with fail
    refine (C2.out _).mono ?_
    rintro e w3 ⟨rfl, hb3⟩
    have HB := Lib.hid (HB.out.trans (hb3.mono HB.out.size))
    clear hb3
    go_wp2_with fail
    refine (C3.out _).mono ?_
    rintro e w4 ⟨rfl, hb4⟩
    have HB := Lib.hid (HB.out.trans (hb4.mono HB.out.size))
    clear hb4
    go_wp2_with fail
    refine (C4.out _).mono ?_
    rintro e w5 ⟨rfl, hb5⟩
    have HB := Lib.hid (HB.out.trans (hb5.mono HB.out.size))
    clear hb5
    go_wp2_with fail
    refine (C5.out _).mono ?_
    rintro e w6 ⟨rfl, hb6⟩
    have HB := Lib.hid (HB.out.trans (hb6.mono HB.out.size))
    clear hb6
    go_wp2_with fail
    refine (C6.out _).mono ?_
    rintro e w7 ⟨rfl, hb7⟩
    have HB := Lib.hid (HB.out.trans (hb7.mono HB.out.size))
    clear hb7
    go_wp2_with fail
    refine (C7.out _).mono ?_
    rintro e w8 ⟨rfl, hb8⟩
    have HB := Lib.hid (HB.out.trans (hb8.mono HB.out.size))
    clear hb8
    go_wp2
    go_ret
    exact ⟨rfl, HB.out⟩
  · rw [T2] at C8
    clear T2
    go_enter Try.func5, Try.ntmps5
    go_wp2_with fail
    refine (works_any _).mono ?_
    rintro e w1 ⟨rfl, hb1⟩
    have HB := Lib.hid (HB.out.trans (hb1.mono HB.out.size))
    clear hb1
    go_wp2_with fail
    refine (C1.out _).mono ?_
    rintro e w2 ⟨rfl, hb2⟩
    have HB := Lib.hid (HB.out.trans (hb2.mono HB.out.size))
    clear hb2
    go_wp2_with fail
    refine (C2.out _).mono ?_
    rintro e w3 ⟨rfl, hb3⟩
    have HB := Lib.hid (HB.out.trans (hb3.mono HB.out.size))
    clear hb3
    go_wp2_with fail
    refine (C3.out _).mono ?_
    rintro e w4 ⟨rfl, hb4⟩
    have HB := Lib.hid (HB.out.trans (hb4.mono HB.out.size))
    clear hb4
    go_wp2_with fail
    refine (C4.out _).mono ?_
    rintro e w5 ⟨rfl, hb5⟩
    have HB := Lib.hid (HB.out.trans (hb5.mono HB.out.size))
    clear hb5
    go_wp2_with fail
    refine (C5.out _).mono ?_
    rintro e w6 ⟨rfl, hb6⟩
    have HB := Lib.hid (HB.out.trans (hb6.mono HB.out.size))
    clear hb6
    go_wp2_with fail
    refine (C6.out _).mono ?_
    rintro e w7 ⟨rfl, hb7⟩
    have HB := Lib.hid (HB.out.trans (hb7.mono HB.out.size))
    clear hb7
    go_wp2_with fail
    refine (C8.out _).mono ?_
    rintro e w9 ⟨rfl, hb9⟩
    have HB := Lib.hid (HB.out.trans (hb9.mono HB.out.size))
    clear hb9
    go_wp2
    go_ret
    exact ⟨rfl, HB.out⟩
  · go_enter Try.func5, Try.ntmps5
    go_wp2_with fail
    refine (works_any _).mono ?_
    rintro e w1 ⟨rfl, hb1⟩
    have HB := Lib.hid (HB.out.trans (hb1.mono HB.out.size))
    clear hb1
    go_wp2_with fail
    refine (C1.out _).mono ?_
    rintro e w2 ⟨rfl, hb2⟩
    have HB := Lib.hid (HB.out.trans (hb2.mono HB.out.size))
    clear hb2
    go_wp2_with fail
    refine (C2.out _).mono ?_
    rintro e w3 ⟨rfl, hb3⟩
    have HB := Lib.hid (HB.out.trans (hb3.mono HB.out.size))
    clear hb3
    go_wp2_with fail
    refine (C3.out _).mono ?_
    rintro e w4 ⟨rfl, hb4⟩
    have HB := Lib.hid (HB.out.trans (hb4.mono HB.out.size))
    clear hb4
    go_wp2_with fail
    refine (C4.out _).mono ?_
    rintro e w5 ⟨rfl, hb5⟩
    have HB := Lib.hid (HB.out.trans (hb5.mono HB.out.size))
    clear hb5
    go_wp2_with fail
    refine (C5.out _).mono ?_
    rintro e w6 ⟨rfl, hb6⟩
    have HB := Lib.hid (HB.out.trans (hb6.mono HB.out.size))
    clear hb6
    go_wp2_with fail
    refine (C6.out _).mono ?_
    rintro e w7 ⟨rfl, hb7⟩
    have HB := Lib.hid (HB.out.trans (hb7.mono HB.out.size))
    clear hb7
    go_wp2
    go_ret
    exact ⟨rfl, HB.out⟩
set_option maxHeartbeats 400000 in
theorem codeBack_any (s t : ByteArray) (w : World) (_hs : s.size ≤ 9223372036854775807) (_ht : t.size ≤ 9223372036854775807) :
    Calls Try.prog 5 #[.string s, .string t] w fun e w' => e = .returned (.bool true) ∧ Below w.heap.size w w' := by
  have HB : Hid (Below w.heap.size w w) := Below.refl _ _
  by_cases h1 : s.size ≤ 500
  · have d1 : decide ((500 : Int) < (s.size : Int)) = false := by simp; omega
    by_cases h2 : t.size ≤ 500
    · exact codeBack_most s t w h1 h2
    · have d2 : decide ((500 : Int) < (t.size : Int)) = true := by simp; omega
      go_enter Try.func5, Try.ntmps5
      go_wp2_with fail
      refine (works_any _).mono ?_
      rintro e w1 ⟨rfl, hb1⟩
      have HB := Lib.hid (HB.out.trans (hb1.mono HB.out.size))
      clear hb1
      go_wp2
      go_ret
      exact ⟨rfl, HB.out⟩
  · have d1 : decide ((500 : Int) < (s.size : Int)) = true := by simp; omega
    go_enter Try.func5, Try.ntmps5
    go_wp2_with fail
    refine (works_any _).mono ?_
    rintro e w1 ⟨rfl, hb1⟩
    have HB := Lib.hid (HB.out.trans (hb1.mono HB.out.size))
    clear hb1
    go_wp2
    go_ret
    exact ⟨rfl, HB.out⟩
end Go.Proofs.Ytpkgbjbjdbjlhaa
