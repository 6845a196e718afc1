/-
  The chapter's example.
-/
import Derived.Test.YtnndifkilcommaaDoorMacShort
namespace Go.Proofs.YtnndifkilcommaaDoor.Mac
open Go.RowKit Sha

def jefe : ByteArray := ⟨#[74, 101, 102, 101]⟩
def want : ByteArray := ⟨#[119, 104, 97, 116, 32, 100, 111, 32, 121, 97, 32, 119, 97, 110, 116, 32, 102, 111, 114, 32, 110, 111, 116, 104, 105, 110, 103, 63]⟩
def codeL : List UInt8 := [91, 220, 193, 70, 191, 96, 117, 78, 106, 4, 36, 38, 8, 149, 117, 199, 90, 0, 63, 8, 157, 39, 57, 131, 157, 236, 88, 185, 100, 236, 56, 67]
theorem code_eq : hmac (bl jefe) (bl want) = codeL := by decide +kernel
def codeB : ByteArray := ⟨#[91, 220, 193, 70, 191, 96, 117, 78, 106, 4, 36, 38, 8, 149, 117, 199, 90, 0, 63, 8, 157, 39, 57, 131, 157, 236, 88, 185, 100, 236, 56, 67]⟩
theorem code_size : codeB.size = 32 := rfl
theorem code_head : (codeB.extract 0 4).toList = [91, 220, 193, 70] := by decide +kernel
theorem code_last (W : World) : (Instr.index 9 (.string codeB) (.int .i64 31)).run Tryd.prog W = .ok (.int .u8 67) W := by
  rw [run_index_string W 9 codeB .i64 31 Tryd.underlying9, dif_pos ⟨by decide, by rw [code_size]; decide⟩]
  rfl
theorem example_any (w : World) (ht : Tab w) : Calls Tryd.prog 9 #[.string ⟨#[74, 101, 102, 101]⟩, .string ⟨#[119, 104, 97, 116, 32, 100, 111, 32, 121, 97, 32, 119, 97, 110, 116, 32, 102, 111, 114, 32, 110, 111, 116, 104, 105, 110, 103, 63]⟩] w fun e w' => e = .returned (.string codeB) ∧ Below w.heap.size w w' := by
  have h := macSum_any jefe want w (by decide) (by decide) ht
  rw [code_eq] at h
  exact h
theorem same_aa (w : World) : Calls Tryd.prog 11 #[.string ⟨#[97]⟩, .string ⟨#[97]⟩] w fun e w' => e = .returned (.bool true) ∧ Below w.heap.size w w' := by
  have h := same_any ⟨#[97]⟩ ⟨#[97]⟩ w (by decide)
  rw [show ((⟨#[97]⟩ : ByteArray).toList == (⟨#[97]⟩ : ByteArray).toList) = true by decide +kernel] at h
  exact h
theorem same_ab (w : World) : Calls Tryd.prog 11 #[.string ⟨#[97]⟩, .string ⟨#[98]⟩] w fun e w' => e = .returned (.bool false) ∧ Below w.heap.size w w' := by
  have h := same_any ⟨#[97]⟩ ⟨#[98]⟩ w (by decide)
  rw [show ((⟨#[97]⟩ : ByteArray).toList == (⟨#[98]⟩ : ByteArray).toList) = false by decide +kernel] at h
  exact h
set_option maxRecDepth 100000 in
set_option maxHeartbeats 400000 in
theorem works_any (w : World) (ht : Tab w) : Calls Tryd.prog 6 #[] w fun e w' => e = .returned (.bool true) ∧ Below w.heap.size w w' := by
  have HT := Lib.hid ht
  clear ht
  go_enter Tryd.func6, Tryd.ntmps6
  go_wp2_with fail
  refine (example_any _ HT.out).mono ?_
  rintro e W1 ⟨rfl, hb1⟩
  have z1 := code_size
  have z2 := code_head
  have z3 := code_last
  generalize codeB = S at z1 z2 z3 ⊢
  have HB := Lib.hid hb1
  clear hb1
  go_wp2_with fail
  refine (same_aa _).mono ?_
  rintro e W2 ⟨rfl, hb2⟩
  have HB := Lib.hid (HB.out.trans (hb2.mono HB.out.size))
  clear hb2
  go_wp2_with fail
  refine (same_ab _).mono ?_
  rintro e W3 ⟨rfl, hb3⟩
  have HB := Lib.hid (HB.out.trans (hb3.mono HB.out.size))
  clear hb3
  go_wp2
  go_ret
  exact ⟨rfl, HB.out⟩
theorem same_self (s : ByteArray) (w : World) (hs : s.size ≤ 1000000) : Calls Tryd.prog 11 #[.string s, .string s] w fun e w' => e = .returned (.bool true) ∧ Below w.heap.size w w' := by
  have h := same_any s s w hs
  rw [beq_self_eq_true] at h
  exact h
end Go.Proofs.YtnndifkilcommaaDoor.Mac
