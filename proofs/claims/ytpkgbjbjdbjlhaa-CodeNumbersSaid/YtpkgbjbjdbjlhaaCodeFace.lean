/-
  The program's signs, as its callers see them.
-/
import Derived.Test.YtpkgbjbjdbjlhaaCodeDec
namespace Go.Proofs.Ytpkgbjbjdbjlhaa.Code
open Go.RowKit

set_option maxHeartbeats 400000 in
theorem to32_any (s : ByteArray) (w : World) (hs : s.size ≤ 100000) :
    Calls Try.prog 11 #[.string s] w fun e w' => e = .returned (.string (ba (enc 5 d32 (bl s)))) ∧ Below w.heap.size w w' := by
  have HC := Lib.hid (fun w => encode_any 5 s (ba d32) w tab32 hs)
  go_enter Try.func11, Try.ntmps11
  go_wp2_with fail
  refine (HC.out _).mono ?_
  rintro e w' ⟨rfl, hb⟩
  have HB := Lib.hid hb
  clear hb
  go_wp2
  go_ret
  exact ⟨rfl, HB.out⟩
set_option maxHeartbeats 400000 in
theorem to16_any (s : ByteArray) (w : World) (hs : s.size ≤ 100000) :
    Calls Try.prog 13 #[.string s] w fun e w' => e = .returned (.string (ba (enc 4 d16 (bl s)))) ∧ Below w.heap.size w w' := by
  have HC := Lib.hid (fun w => encode_any 4 s (ba d16) w tab16 hs)
  go_enter Try.func13, Try.ntmps13
  go_wp2_with fail
  refine (HC.out _).mono ?_
  rintro e w' ⟨rfl, hb⟩
  have HB := Lib.hid hb
  clear hb
  go_wp2
  go_ret
  exact ⟨rfl, HB.out⟩
set_option maxHeartbeats 400000 in
theorem of32_any (s : ByteArray) (w : World) (hs : s.size ≤ 100000) :
    Calls Try.prog 8 #[.string s] w fun e w' => e = .returned (.tuple #[.string (ba (dec 5 d32 (bl s))), .int .i64 (codeOf 5 d32 (bl s))]) ∧ Below w.heap.size w w' := by
  have HC := Lib.hid (fun w => decode_5 s (ba d32) w tab32 hs)
  go_enter Try.func8, Try.ntmps8
  go_wp2_with fail
  refine (HC.out _).mono ?_
  rintro e w' ⟨rfl, hb⟩
  have HB := Lib.hid hb
  clear hb
  go_wp2
  go_ret2
  exact ⟨rfl, HB.out⟩
set_option maxHeartbeats 400000 in
theorem of16_any (s : ByteArray) (w : World) (hs : s.size ≤ 100000) :
    Calls Try.prog 10 #[.string s] w fun e w' => e = .returned (.tuple #[.string (ba (dec 4 d16 (bl s))), .int .i64 (codeOf 4 d16 (bl s))]) ∧ Below w.heap.size w w' := by
  have HC := Lib.hid (fun w => decode_4 s (ba d16) w tab16 hs)
  go_enter Try.func10, Try.ntmps10
  go_wp2_with fail
  refine (HC.out _).mono ?_
  rintro e w' ⟨rfl, hb⟩
  have HB := Lib.hid hb
  clear hb
  go_wp2
  go_ret2
  exact ⟨rfl, HB.out⟩
end Go.Proofs.Ytpkgbjbjdbjlhaa.Code
