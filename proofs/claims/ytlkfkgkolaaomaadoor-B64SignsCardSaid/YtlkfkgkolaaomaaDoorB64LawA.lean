/-
  The chapter's example, and the laws' walks: B64Signs, B64Back, B64Just.
-/
import Derived.Test.YtlkfkgkolaaomaaDoorB64Dec
import Derived.Test.YtlkfkgkolaaomaaDoorB64RefB
namespace Go.Proofs.YtlkfkgkolaaomaaDoor.B64
open Go Go.RowKit
open Go.Proofs.YtlkfkgkolaaomaaDoor.Code
open Go.Proofs.YtlkfkgkolaaomaaDoor.Lex (bl ba bl_len ba_size bl_ba ba_bl bl_extract bl_from drop_cons drop_end index_any)

def TrueP (w : World) (e : Ending) (w' : World) : Prop := e = .returned (.bool true) ∧ Below w.heap.size w w'
abbrev exA : ByteArray := ⟨#[97, 71, 13, 10, 107, 104]⟩
abbrev exB : ByteArray := ⟨#[89, 82, 61, 61]⟩
abbrev exC : ByteArray := ⟨#[104, 105, 33]⟩
abbrev exD : ByteArray := ⟨#[97]⟩
abbrev exE : ByteArray := ⟨#[97, 71, 107, 104]⟩
abbrev exF : ByteArray := ⟨#[89, 81, 61, 61, 13, 10]⟩
theorem exDecA : decS (bl exA) = true ∧ decV (bl exA) = bl exC := by decide +kernel
theorem exDecB : decS (bl exB) = false := by decide +kernel
theorem exPlain : plainL (bl exC) = bl exE := by decide +kernel
theorem exLines : linesL (bl exD) = bl exF := by decide +kernel
theorem str_self (b : ByteArray) : (b.toList == b.toList) = true := by simp
theorem int_self (a : Int) : (a == a) = true := by simp
set_option maxRecDepth 100000 in
set_option maxHeartbeats 1000000 in
theorem works_any (w : World) : Calls Tryd.prog 6 #[] w (TrueP w) := by
  have HA : Hid (∀ W, Calls Tryd.prog 7 #[.string exA] W fun e w' => e = .returned (.tuple #[.string exC, .int .i64 0]) ∧ Below W.heap.size W w') := Lib.hid (fun W => by
    have h := decode_any exA W (by decide)
    unfold DcPost decC at h
    rw [exDecA.1, exDecA.2] at h
    exact h)
  have HB : Hid (∀ W, Calls Tryd.prog 7 #[.string exB] W fun e w' => e = .returned (.tuple #[.string ⟨#[]⟩, .int .i64 3]) ∧ Below W.heap.size W w') := Lib.hid (fun W => by
    have h := decode_any exB W (by decide)
    unfold DcPost decC decV at h
    rw [exDecB] at h
    exact h)
  have HP : Hid (∀ W, Calls Tryd.prog 9 #[.string exC] W fun e w' => e = .returned (.string exE) ∧ Below W.heap.size W w') := Lib.hid (fun W => by
    have h := plain_any exC W (by decide)
    rw [exPlain] at h
    exact h)
  have HE : Hid (∀ W, Calls Tryd.prog 11 #[.string exD] W fun e w' => e = .returned (.string exF) ∧ Below W.heap.size W w') := Lib.hid (fun W => by
    have h := encode_any exD W (by decide)
    rw [exLines] at h
    exact h)
  go_enter Tryd.func6, Tryd.ntmps6
  go_wp2_with fail
  refine (HA.out _).mono ?_
  rintro e w1 ⟨rfl, hb⟩
  have HB1 := Lib.hid hb
  clear hb
  go_wp2_with fail
  refine (HB.out _).mono ?_
  rintro e w2 ⟨rfl, hb⟩
  have HB2 := Lib.hid (bel HB1.out hb)
  clear hb
  go_wp2_with fail
  refine (HP.out _).mono ?_
  rintro e w3 ⟨rfl, hb⟩
  have HB3 := Lib.hid (bel HB2.out hb)
  clear hb
  go_wp2_with fail
  refine (HE.out _).mono ?_
  rintro e w4 ⟨rfl, hb⟩
  have HB4 := Lib.hid (bel HB3.out hb)
  clear hb
  go_wp2_with fail
  go_ret
  exact ⟨rfl, HB4.out⟩

/-! B64Signs. -/
set_option maxRecDepth 100000 in
set_option maxHeartbeats 2000000 in
theorem b64Signs_any (s t : ByteArray) (w : World) : Calls Tryd.prog 3 #[.string s, .string t] w (TrueP w) := by
  have HW := Lib.hid (fun W => works_any W)
  by_cases hs : 500 < s.size
  · have d : (500 : Int) < (s.size : Int) := by omega
    go_enter Tryd.func3, Tryd.ntmps3
    go_wp2_with fail
    refine (HW.out w).mono ?_
    rintro e w1 ⟨rfl, hb⟩
    have HB := Lib.hid hb
    clear hb
    go_wp2_with fail
    go_ret
    exact ⟨rfl, HB.out⟩
  have d : ¬ (500 : Int) < (s.size : Int) := by omega
  by_cases ht : 500 < t.size
  · have d2 : (500 : Int) < (t.size : Int) := by omega
    go_enter Tryd.func3, Tryd.ntmps3
    go_wp2_with fail
    refine (HW.out w).mono ?_
    rintro e w1 ⟨rfl, hb⟩
    have HB := Lib.hid hb
    clear hb
    go_wp2_with fail
    go_ret
    exact ⟨rfl, HB.out⟩
  have d2 : ¬ (500 : Int) < (t.size : Int) := by omega
  have HD := Lib.hid (fun W => decode_any t W (by omega))
  have HR := Lib.hid (fun W => rdecode_any t W (by omega))
  have HP := Lib.hid (fun W => plain_any s W (by omega))
  have HQ := Lib.hid (fun W => rplain_any s W (by omega))
  have HE := Lib.hid (fun W => encode_any s W (by omega))
  have HF := Lib.hid (fun W => rencode_any s W (by omega))
  unfold DcPost decC at HD
  generalize ba (decV (bl t)) = x at *
  generalize ba (plainL (bl s)) = p at *
  generalize ba (linesL (bl s)) = q at *
  have hx := str_self x
  have hp := str_self p
  have hq := str_self q
  cases hds : decS (bl t)
  · rw [hds] at HD HR
    clear hds
    have HD : Hid (∀ W, Calls Tryd.prog 7 #[.string t] W fun e w' => e = .returned (.tuple #[.string x, .int .i64 3]) ∧ Below W.heap.size W w') := HD
    go_enter Tryd.func3, Tryd.ntmps3
    go_wp2_with fail
    refine (HD.out _).mono ?_
    rintro e w1 ⟨rfl, hb⟩
    have HB1 := Lib.hid hb
    clear hb
    go_wp2_with fail
    refine (HR.out _).mono ?_
    rintro e w2 ⟨rfl, hb⟩
    have HB2 := Lib.hid (bel HB1.out hb)
    clear hb
    go_wp2_with fail
    refine (HP.out _).mono ?_
    rintro e w3 ⟨rfl, hb⟩
    have HB3 := Lib.hid (bel HB2.out hb)
    clear hb
    go_wp2_with fail
    refine (HQ.out _).mono ?_
    rintro e w4 ⟨rfl, hb⟩
    have HB4 := Lib.hid (bel HB3.out hb)
    clear hb
    go_wp2_with fail
    refine (HE.out _).mono ?_
    rintro e w5 ⟨rfl, hb⟩
    have HB5 := Lib.hid (bel HB4.out hb)
    clear hb
    go_wp2_with fail
    refine (HF.out _).mono ?_
    rintro e w6 ⟨rfl, hb⟩
    have HB6 := Lib.hid (bel HB5.out hb)
    clear hb
    go_wp2_with fail
    refine (HW.out _).mono ?_
    rintro e w7 ⟨rfl, hb⟩
    have HB7 := Lib.hid (bel HB6.out hb)
    clear hb
    go_wp2_with fail
    go_ret
    exact ⟨rfl, HB7.out⟩
  · rw [hds] at HD HR
    clear hds
    have HD : Hid (∀ W, Calls Tryd.prog 7 #[.string t] W fun e w' => e = .returned (.tuple #[.string x, .int .i64 0]) ∧ Below W.heap.size W w') := HD
    go_enter Tryd.func3, Tryd.ntmps3
    go_wp2_with fail
    refine (HD.out _).mono ?_
    rintro e w1 ⟨rfl, hb⟩
    have HB1 := Lib.hid hb
    clear hb
    go_wp2_with fail
    refine (HR.out _).mono ?_
    rintro e w2 ⟨rfl, hb⟩
    have HB2 := Lib.hid (bel HB1.out hb)
    clear hb
    go_wp2_with fail
    refine (HP.out _).mono ?_
    rintro e w3 ⟨rfl, hb⟩
    have HB3 := Lib.hid (bel HB2.out hb)
    clear hb
    go_wp2_with fail
    refine (HQ.out _).mono ?_
    rintro e w4 ⟨rfl, hb⟩
    have HB4 := Lib.hid (bel HB3.out hb)
    clear hb
    go_wp2_with fail
    refine (HE.out _).mono ?_
    rintro e w5 ⟨rfl, hb⟩
    have HB5 := Lib.hid (bel HB4.out hb)
    clear hb
    go_wp2_with fail
    refine (HF.out _).mono ?_
    rintro e w6 ⟨rfl, hb⟩
    have HB6 := Lib.hid (bel HB5.out hb)
    clear hb
    go_wp2_with fail
    refine (HW.out _).mono ?_
    rintro e w7 ⟨rfl, hb⟩
    have HB7 := Lib.hid (bel HB6.out hb)
    clear hb
    go_wp2_with fail
    go_ret
    exact ⟨rfl, HB7.out⟩
end Go.Proofs.YtlkfkgkolaaomaaDoor.B64
