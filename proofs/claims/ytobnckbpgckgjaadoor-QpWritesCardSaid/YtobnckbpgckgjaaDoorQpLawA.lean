/-
  The chapter's example, and the laws' walks: QpWrites, QpReads.
-/
import Derived.Test.YtobnckbpgckgjaaDoorQpRefC
namespace Go.Proofs.YtobnckbpgckgjaaDoor.Qp
open Go Go.RowKit
open Go.Proofs.YtobnckbpgckgjaaDoor.Head

def TrueP (w : World) (e : Ending) (w' : World) : Prop := e = .returned (.bool true) ∧ Below w.heap.size w w'
abbrev exE : ByteArray := ⟨#[97, 61, 51, 68, 98, 61, 50, 48, 13, 10]⟩
abbrev exP : ByteArray := ⟨#[97, 61, 98, 32, 13, 10]⟩
theorem exDec : decL (bl exE) = some (bl exP) := by kernel_rfl
theorem exEnc : encL (bl exP) = bl exE := by kernel_rfl
theorem str_self (b : ByteArray) : (b.toList == b.toList) = true := by simp
set_option maxRecDepth 100000 in
set_option maxHeartbeats 1000000 in
theorem works_any (w : World) (hm : MaxAt w) : Calls Tryd.prog 8 #[] w (TrueP w) := by
  have HD : Hid (Calls Tryd.prog 11 #[.string exE] w fun e w' => e = .returned (.tuple #[.string exP, .int .i64 0]) ∧ Below w.heap.size w w') := Lib.hid (by
    have h := decode_any exE w (by decide) hm
    unfold DcPost decV decC at h
    rw [exDec] at h
    exact h)
  have HE : Hid (∀ W, MaxAt W → Calls Tryd.prog 9 #[.string exP] W fun e w' => e = .returned (.string exE) ∧ Below W.heap.size W w') := Lib.hid (fun W h => by
    have h := encode_any exP W (by decide) h
    rw [exEnc] at h
    exact h)
  have HM := Lib.hid hm
  clear hm
  go_enter Tryd.func8, Tryd.ntmps8
  go_wp2_with fail
  refine HD.out.mono ?_
  rintro e w1 ⟨rfl, hb⟩
  have HB := Lib.hid hb
  clear hb
  go_wp2_with fail
  refine (HE.out w1 (HM.out.below HB.out)).mono ?_
  rintro e w2 ⟨rfl, hb⟩
  have HB2 := Lib.hid (HB.out.trans (hb.mono HB.out.size))
  clear hb
  go_wp2_with fail
  go_ret
  exact ⟨rfl, HB2.out⟩

/-! QpWrites. -/
set_option maxRecDepth 100000 in
set_option maxHeartbeats 1000000 in
theorem qpWrites_any (s : ByteArray) (w : World) (hm : MaxAt w) : Calls Tryd.prog 3 #[.string s] w (TrueP w) := by
  have HM := Lib.hid hm
  have HW := Lib.hid (fun W (h : MaxAt W) => works_any W h)
  by_cases hs : 1000 < s.size
  · have d : (1000 : Int) < (s.size : Int) := by omega
    have HW0 := Lib.hid (HW.out w hm)
    clear hm
    go_enter Tryd.func3, Tryd.ntmps3
    go_wp2_with fail
    refine HW0.out.mono ?_
    rintro e w1 ⟨rfl, hb⟩
    have HB := Lib.hid hb
    clear hb
    go_wp2_with fail
    go_ret
    exact ⟨rfl, HB.out⟩
  · have d : ¬ (1000 : Int) < (s.size : Int) := by omega
    have HE := Lib.hid (encode_any s w (by omega) hm)
    have HR := Lib.hid (fun W => rencode_any s W (by omega))
    clear hm
    generalize ba (encL (bl s)) = r at *
    have hrr := str_self r
    go_enter Tryd.func3, Tryd.ntmps3
    go_wp2_with fail
    refine HE.out.mono ?_
    rintro e w1 ⟨rfl, hb⟩
    have HB := Lib.hid hb
    clear hb
    go_wp2_with fail
    refine (HR.out w1).mono ?_
    rintro e w2 ⟨rfl, hb⟩
    have HB2 := Lib.hid (HB.out.trans (hb.mono HB.out.size))
    clear hb
    have HW2 := Lib.hid (HW.out w2 (HM.out.below HB2.out))
    go_wp2_with fail
    refine HW2.out.mono ?_
    rintro e w3 ⟨rfl, hb⟩
    have HB3 := Lib.hid (HB2.out.trans (hb.mono HB2.out.size))
    clear hb
    go_wp2_with fail
    go_ret
    exact ⟨rfl, HB3.out⟩

/-! QpReads. -/
theorem int_self (a : Int) : (a == a) = true := by simp
theorem bool_self (a : Bool) : (a == a) = true := by simp
set_option maxRecDepth 100000 in
set_option maxHeartbeats 2000000 in
theorem qpReads_any (s t : ByteArray) (w : World) (hm : MaxAt w) : Calls Tryd.prog 4 #[.string s, .string t] w (TrueP w) := by
  have HM := Lib.hid hm
  have HW := Lib.hid (fun W (h : MaxAt W) => works_any W h)
  have HW0 := Lib.hid (HW.out w hm)
  by_cases hs : 1000 < s.size
  · have d : (1000 : Int) < (s.size : Int) := by omega
    clear hm
    go_enter Tryd.func4, Tryd.ntmps4
    go_wp2_with fail
    refine HW0.out.mono ?_
    rintro e w1 ⟨rfl, hb⟩
    have HB := Lib.hid hb
    clear hb
    go_wp2_with fail
    go_ret
    exact ⟨rfl, HB.out⟩
  · have d : ¬ (1000 : Int) < (s.size : Int) := by omega
    by_cases ht : 1000 < t.size
    · have d2 : (1000 : Int) < (t.size : Int) := by omega
      clear hm
      go_enter Tryd.func4, Tryd.ntmps4
      go_wp2_with fail
      refine HW0.out.mono ?_
      rintro e w1 ⟨rfl, hb⟩
      have HB := Lib.hid hb
      clear hb
      go_wp2_with fail
      go_ret
      exact ⟨rfl, HB.out⟩
    · have d2 : ¬ (1000 : Int) < (t.size : Int) := by omega
      have HE := Lib.hid (decode_any s w (by omega) hm)
      have HR := Lib.hid (fun W => rdecode_any s W (by omega))
      have HB0 := Lib.hid (fun W => byte_any t W)
      have HB1 := Lib.hid (fun W => rbyte_any t W)
      unfold DcPost at HE HR
      clear hm HW0
      generalize ba (decV (bl s)) = r at *
      have hcc := int_self (decC (bl s) : Int)
      have hnn := int_self (byteN (bl t) : Int)
      have hbb := bool_self (byteS (bl t))
      have hrr := str_self r
      generalize decC (bl s) = c at *
      generalize byteN (bl t) = n at *
      generalize byteS (bl t) = b at *
      go_enter Tryd.func4, Tryd.ntmps4
      go_wp2_with fail
      refine HE.out.mono ?_
      rintro e w1 ⟨rfl, hb⟩
      have HC := Lib.hid hb
      clear hb
      go_wp2_with fail
      refine (HR.out w1).mono ?_
      rintro e w2 ⟨rfl, hb⟩
      have HC2 := Lib.hid (HC.out.trans (hb.mono HC.out.size))
      clear hb
      go_wp2_with fail
      refine (HB0.out w2).mono ?_
      rintro e w3 ⟨rfl, rfl⟩
      go_wp2_with fail
      refine (HB1.out w2).mono ?_
      rintro e w3 ⟨rfl, rfl⟩
      have HW2 := Lib.hid (HW.out w2 (HM.out.below HC2.out))
      go_wp2_with fail
      refine HW2.out.mono ?_
      rintro e w3 ⟨rfl, hb⟩
      have HC3 := Lib.hid (HC2.out.trans (hb.mono HC2.out.size))
      clear hb
      go_wp2_with fail
      go_ret
      exact ⟨rfl, HC3.out⟩
end Go.Proofs.YtobnckbpgckgjaaDoor.Qp
