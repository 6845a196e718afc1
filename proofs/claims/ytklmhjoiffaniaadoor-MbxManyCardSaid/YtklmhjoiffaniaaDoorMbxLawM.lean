/-
  The law MbxMany walked.
-/
import Derived.Test.YtklmhjoiffaniaaDoorMbxLawA
import Derived.Test.YtklmhjoiffaniaaDoorMbxBack
namespace Go.Proofs.YtklmhjoiffaniaaDoor.Mbx
open Go Go.RowKit
open Go.Proofs.YtklmhjoiffaniaaDoor.Lex

theorem many_next (k : Nat) : ba (manyL k) ++ (⟨#[44, 97, 64, 98]⟩ : ByteArray) = ba (manyL (k + 1)) := by
  rw [show (⟨#[44, 97, 64, 98]⟩ : ByteArray) = ba [44, 97, 64, 98] from rfl, Addr.ba_cat]
  rfl
theorem many_group (k : Nat) : (⟨#[103, 58]⟩ : ByteArray) ++ ba (manyL k) ++ (⟨#[59]⟩ : ByteArray) = ba ([103, 58] ++ manyL k ++ [59]) := by
  rw [show (⟨#[103, 58]⟩ : ByteArray) = ba [103, 58] from rfl, show (⟨#[59]⟩ : ByteArray) = ba [59] from rfl, Addr.ba_cat, Addr.ba_cat]
theorem many_size (k : Nat) (h : k ≤ 130) : (ba (manyL k)).size ≤ 1000 := by rw [ba_size, many_len]; omega
set_option maxRecDepth 100000 in
set_option maxHeartbeats 4000000 in
theorem mbxMany_any (x : Int) (g : Bool) (w : World) :
    Calls Tryd.prog 5 #[.int .i64 x, .bool g] w (TrueP w) := by
  have HW := Lib.hid (fun W => works_any W)
  by_cases h1 : x < 1
  · go_enter Tryd.func5, Tryd.ntmps5
    go_wp2_with fail
    refine (HW.out _).mono ?_
    rintro e w1 ⟨rfl, hb⟩
    have HB := Lib.hid hb
    clear hb
    go_wp2_with fail
    go_ret
    exact ⟨rfl, HB.out⟩
  by_cases h2 : 130 < x
  · go_enter Tryd.func5, Tryd.ntmps5
    go_wp2_with fail
    refine (HW.out _).mono ?_
    rintro e w1 ⟨rfl, hb⟩
    have HB := Lib.hid hb
    clear hb
    go_wp2_with fail
    go_ret
    exact ⟨rfl, HB.out⟩
  obtain ⟨n, rfl⟩ : ∃ n : Nat, x = (n : Int) := ⟨x.toNat, by omega⟩
  have hn1 : 1 ≤ n := by omega
  have hn2 : n ≤ 130 := by omega
  clear h1 h2
  go_enter Tryd.func5, Tryd.ntmps5
  go_wp2_with fail
  go_loopw [5, 6] (fun s i wr => ∃ k : Nat, k + 1 ≤ n ∧ i = .int .i64 ((k : Int) + 1) ∧ s = .string (ba (manyL k)) ∧ w = wr) (fun _ i _ => n - (intOf i).toNat)
  case atStart => exact ⟨0, hn1, rfl, rfl, rfl⟩
  case round =>
    obtain ⟨k, hk, rfl, rfl, rfl⟩ := hrel
    have hz := many_size k (by omega)
    by_cases hlt : k + 1 < n
    · have HX := Lib.hid (many_next k)
      generalize ba (manyL k) = s at *
      go_wp2_with fail
      go_roundw
      case rel => exact ⟨k + 1, by omega, by simp, by rw [HX.out], trivial⟩
      case measure => simp [intOf]; omega
    · obtain rfl : n = k + 1 := by omega
      cases g
      · have HRD := Lib.hid (fun W => read_any (ba (manyL k)) W (by omega))
        rw [bl_ba, read_many] at HRD
        generalize ba (manyL k) = s at *
        by_cases h100 : k + 1 ≤ 100
        · rw [if_pos h100] at HRD
          have hl : (List.replicate (k + 1) b0).length = k + 1 := List.length_replicate
          have hq : ¬ (100 : Int) < (k : Int) + 1 := by omega
          go_wp2_with fail
          refine (HRD.out _).mono ?_
          rintro e w1 ⟨v, rfl, hr, hb⟩
          obtain ⟨va, vc, rfl⟩ := hr.shape
          rw [hl]
          have HB := Lib.hid hb
          clear hb hr hl
          go_wp2_with fail
          refine (HW.out _).mono ?_
          rintro e w2 ⟨rfl, hb⟩
          have HB2 := Lib.hid (HB.out.trans (hb.mono HB.out.size))
          clear hb
          go_wp2_with fail
          go_ret
          exact ⟨rfl, HB2.out⟩
        · rw [if_neg h100] at HRD
          have hq : (100 : Int) < (k : Int) + 1 := by omega
          go_wp2_with fail
          refine (HRD.out _).mono ?_
          rintro e w1 ⟨v, rfl, hr, hb⟩
          obtain ⟨va, vc, rfl⟩ := hr.shape
          have HB := Lib.hid hb
          simp only [List.length_nil]
          clear hb hr
          go_wp2_with fail
          refine (HW.out _).mono ?_
          rintro e w2 ⟨rfl, hb⟩
          have HB2 := Lib.hid (HB.out.trans (hb.mono HB.out.size))
          clear hb
          go_wp2_with fail
          go_ret
          exact ⟨rfl, HB2.out⟩
      · have hz2 : (ba ([103, 58] ++ manyL k ++ [59])).size ≤ 2000 := by
          rw [ba_size] at hz ⊢
          simp only [List.length_append, List.length_cons, List.length_nil]
          omega
        have HRD := Lib.hid (fun W => read_any (ba ([103, 58] ++ manyL k ++ [59])) W (by omega))
        rw [bl_ba, read_many_group, ← many_group] at HRD
        generalize ba (manyL k) = s at *
        by_cases h100 : k + 1 ≤ 100
        · rw [if_pos h100] at HRD
          have hl : (List.replicate (k + 1) b0).length = k + 1 := List.length_replicate
          have hq : ¬ (100 : Int) < (k : Int) + 1 := by omega
          go_wp2_with fail
          refine (HRD.out _).mono ?_
          rintro e w1 ⟨v, rfl, hr, hb⟩
          obtain ⟨va, vc, rfl⟩ := hr.shape
          rw [hl]
          have HB := Lib.hid hb
          clear hb hr hl
          go_wp2_with fail
          refine (HW.out _).mono ?_
          rintro e w2 ⟨rfl, hb⟩
          have HB2 := Lib.hid (HB.out.trans (hb.mono HB.out.size))
          clear hb
          go_wp2_with fail
          go_ret
          exact ⟨rfl, HB2.out⟩
        · rw [if_neg h100] at HRD
          have hq : (100 : Int) < (k : Int) + 1 := by omega
          go_wp2_with fail
          refine (HRD.out _).mono ?_
          rintro e w1 ⟨v, rfl, hr, hb⟩
          obtain ⟨va, vc, rfl⟩ := hr.shape
          have HB := Lib.hid hb
          simp only [List.length_nil]
          clear hb hr
          go_wp2_with fail
          refine (HW.out _).mono ?_
          rintro e w2 ⟨rfl, hb⟩
          have HB2 := Lib.hid (HB.out.trans (hb.mono HB.out.size))
          clear hb
          go_wp2_with fail
          go_ret
          exact ⟨rfl, HB2.out⟩
end Go.Proofs.YtklmhjoiffaniaaDoor.Mbx
