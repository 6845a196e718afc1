/-
  The chapter's example.
-/
import Derived.Test.YtpkgbjbjdbjlhaaCodeFace
namespace Go.Proofs.Ytpkgbjbjdbjlhaa.Code
open Go.RowKit

def helloB : ByteArray := ⟨#[104, 101, 108, 108, 111]⟩
def signsB : ByteArray := ⟨#[110, 98, 115, 119, 121, 51, 100, 112]⟩
def hexB : ByteArray := ⟨#[54, 56, 54, 53, 54, 99, 54, 99, 54, 102]⟩
theorem ex_of32 (w : World) : Calls Try.prog 8 #[.string ⟨#[110, 98, 115, 119, 121, 51, 100, 112]⟩] w fun e w' => e = .returned (.tuple #[.string helloB, .int .i64 0]) ∧ Below w.heap.size w w' := by
  have h := of32_any signsB w (by decide)
  rw [show dec 5 d32 (bl signsB) = bl helloB by decide +kernel, show codeOf 5 d32 (bl signsB) = 0 by decide +kernel] at h
  exact h
theorem ex_of16 (w : World) : Calls Try.prog 10 #[.string ⟨#[54]⟩] w fun e w' => e = .returned (.tuple #[.string ⟨#[]⟩, .int .i64 3]) ∧ Below w.heap.size w w' := by
  have h := of16_any ⟨#[54]⟩ w (by decide)
  rw [show dec 4 d16 (bl ⟨#[54]⟩) = [] by decide +kernel, show codeOf 4 d16 (bl ⟨#[54]⟩) = 3 by decide +kernel] at h
  exact h
theorem ex_to32 (w : World) : Calls Try.prog 11 #[.string ⟨#[104, 101, 108, 108, 111]⟩] w fun e w' => e = .returned (.string signsB) ∧ Below w.heap.size w w' := by
  have h := to32_any helloB w (by decide)
  rw [show enc 5 d32 (bl helloB) = bl signsB by decide +kernel] at h
  exact h
theorem ex_to16 (w : World) : Calls Try.prog 13 #[.string ⟨#[104, 101, 108, 108, 111]⟩] w fun e w' => e = .returned (.string hexB) ∧ Below w.heap.size w w' := by
  have h := to16_any helloB w (by decide)
  rw [show enc 4 d16 (bl helloB) = bl hexB by decide +kernel] at h
  exact h
theorem eq_signs : signsB.toList = [110, 98, 115, 119, 121, 51, 100, 112] := by decide +kernel
theorem eq_hex : hexB.toList = [54, 56, 54, 53, 54, 99, 54, 99, 54, 102] := by decide +kernel
theorem eq_hello : helloB.toList = [104, 101, 108, 108, 111] := by decide +kernel
set_option maxRecDepth 100000 in
set_option maxHeartbeats 400000 in
theorem works_any (w : World) : Calls Try.prog 7 #[] w fun e w' => e = .returned (.bool true) ∧ Below w.heap.size w w' := by
  have z1 := eq_signs
  have z2 := eq_hex
  have z3 := eq_hello
  go_enter Try.func7, Try.ntmps7
  go_wp2_with fail
  refine (ex_of32 _).mono ?_
  rintro e w1 ⟨rfl, hb1⟩
  have HB := Lib.hid hb1
  clear hb1
  go_wp2_with fail
  refine (ex_of16 _).mono ?_
  rintro e w2 ⟨rfl, hb2⟩
  have HB := Lib.hid (HB.out.trans (hb2.mono HB.out.size))
  clear hb2
  go_wp2_with fail
  refine (ex_to32 _).mono ?_
  rintro e w3 ⟨rfl, hb3⟩
  have HB := Lib.hid (HB.out.trans (hb3.mono HB.out.size))
  clear hb3
  go_wp2_with fail
  refine (ex_to16 _).mono ?_
  rintro e w4 ⟨rfl, hb4⟩
  have HB := Lib.hid (HB.out.trans (hb4.mono HB.out.size))
  clear hb4
  go_wp2
  go_ret
  exact ⟨rfl, HB.out⟩
end Go.Proofs.Ytpkgbjbjdbjlhaa.Code
