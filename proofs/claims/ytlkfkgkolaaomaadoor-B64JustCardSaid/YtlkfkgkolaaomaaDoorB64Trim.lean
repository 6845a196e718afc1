/-
  Walks: strings.TrimRight of what fills up.
-/
import Derived.Test.YtlkfkgkolaaomaaDoorB64Bits
namespace Go.Proofs.YtlkfkgkolaaomaaDoor.B64
open Go Go.RowKit
open Go.Proofs.YtlkfkgkolaaomaaDoor.Code
open Go.Proofs.YtlkfkgkolaaomaaDoor.Lex (bl ba bl_len ba_size bl_ba ba_bl bl_extract bl_from drop_cons drop_end index_any)

def strZ : Value → Nat
  | .string s => s.size
  | _ => 0
theorem split_last (s : ByteArray) (h : 0 < s.size) : bl s = (bl s).take (s.size - 1) ++ [s[s.size - 1]] := by
  have e := (List.take_append_drop (s.size - 1) (bl s)).symm
  rw [drop_cons s (s.size - 1) (by omega), drop_end s _ (by omega)] at e
  exact e
theorem bl_to (s : ByteArray) (n : Nat) : bl (s.extract 0 n) = (bl s).take n := by rw [bl_extract]; rfl
set_option maxRecDepth 100000 in
set_option maxHeartbeats 1000000 in
theorem trimByte_any (s : ByteArray) (w : World) (hs : s.size ≤ 100000000) :
    Calls Tryd.prog 26 #[.string s, .int .u8 61] w fun e w' => e = .returned (.string (ba (trimL (bl s)))) ∧ w = w' := by
  go_enter Tryd.func26, Tryd.ntmps26
  go_wp2
  go_loopw [0] (fun v wr => ∃ r : ByteArray, v = .string r ∧ r.size ≤ 100000000 ∧ Hid (trimL (bl s) = trimL (bl r)) ∧ w = wr) (fun v _ => strZ v)
  case atStart => exact ⟨s, rfl, hs, Lib.hid rfl, rfl⟩
  case round =>
    obtain ⟨r, rfl, hrz, HR, rfl⟩ := hrel
    by_cases h0 : 0 < r.size
    · have hs := split_last r h0
      have hsub : (r.size : Int) - 1 = ((r.size - 1 : Nat) : Int) := by omega
      have hg : (r.size : Int) > 0 := by omega
      by_cases h1 : r[r.size - 1] = 61
      · have hb : ((r[r.size - 1].toNat : Int) == 61) = true := by rw [h1]; rfl
        have HN : Hid (trimL (bl s) = trimL (bl (r.extract 0 (r.size - 1)))) := Lib.hid (by
          rw [HR.out, hs, h1, trim_pad, bl_to])
        have hz : (r.extract 0 (r.size - 1)).size < r.size := by rw [ByteArray.size_extract]; omega
        clear hs h1
        go_wp2
        go_roundw
        case rel => exact ⟨_, rfl, by omega, HN, trivial⟩
        case measure => simp [strZ]; omega
      · have hb : ((r[r.size - 1].toNat : Int) == 61) = false := by
          rw [beq_eq_false_iff_ne]
          intro e
          exact h1 (UInt8.toNat.inj (by show _ = 61; omega))
        have HD : Hid (r = ba (trimL (bl s))) := Lib.hid (by
          have e : trimL (bl r) = bl r := (congrArg trimL hs).trans ((trim_end _ h1).trans hs.symm)
          exact bl_inj ((e.symm.trans HR.out.symm).trans (bl_ba _).symm))
        clear hs h1
        go_wp2
        go_ret
        exact ⟨ret_str HD.out, rfl⟩
    · have HD : Hid (r = ba (trimL (bl s))) := Lib.hid (by
        have e : bl r = [] := List.eq_nil_of_length_eq_zero (by rw [bl_len]; omega)
        have e2 : trimL (bl r) = bl r := by rw [e]; rfl
        exact bl_inj ((e2.symm.trans HR.out.symm).trans (bl_ba _).symm))
      have hg : ¬ (r.size : Int) > 0 := by omega
      go_wp2
      go_ret
      exact ⟨ret_str HD.out, rfl⟩
set_option maxRecDepth 100000 in
set_option maxHeartbeats 1000000 in
theorem trim_any (s : ByteArray) (w : World) (hs : s.size ≤ 100000000) :
    Calls Tryd.prog 16 #[.string s, .string ⟨#[61]⟩] w fun e w' => e = .returned (.string (ba (trimL (bl s)))) ∧ w = w' := by
  have HT := Lib.hid (trimByte_any s w hs)
  by_cases h0 : s.size = 0
  · obtain rfl : s = ⟨#[]⟩ := bl_inj (List.eq_nil_of_length_eq_zero (by rw [bl_len]; exact h0))
    go_enter Tryd.func16, Tryd.ntmps16
    go_wp2
    go_ret
    exact ⟨ret_str rfl, rfl⟩
  · have he : s.toList.isEmpty = false := by
      rw [toList_bl, Bool.eq_false_iff, ne_eq, List.isEmpty_iff]
      intro e
      have := congrArg List.length e
      rw [bl_len] at this
      exact h0 this
    go_enter Tryd.func16, Tryd.ntmps16
    go_wp2_with fail
    refine HT.out.mono ?_
    rintro e w1 ⟨rfl, rfl⟩
    go_wp2
    go_ret
    exact ⟨rfl, rfl⟩
end Go.Proofs.YtlkfkgkolaaomaaDoor.B64
