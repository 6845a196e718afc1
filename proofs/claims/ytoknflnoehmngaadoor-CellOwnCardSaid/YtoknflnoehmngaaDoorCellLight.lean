/-
  Walks of what the laws share: Light, light, SpoilTexts, Number.
-/
import Derived.Test.YtoknflnoehmngaaDoorCellRef
namespace Go.Proofs.YtoknflnoehmngaaDoor.Cell
open Go Go.RowKit
open Go.Proofs.YtoknflnoehmngaaDoor.Nets (putS rowS Tab)

theorem digits_at (x : Int) (m : Nat) (w : World) (hx : x = (m : Int)) (hm : m < 9223372036854775808) : Calls Tryd.prog 50 #[.int .i64 x] w fun e w' => e = .returned (str (Lib.decDigits m)) ∧ Below w.heap.size w w' := by
  subst hx
  exact Nets.digits_any m w hm
theorem dec_le (m : Nat) (h : m < 18446744073709551616) : (Lib.decDigits m).length ≤ 20 := by rw [Lib.decDigits_length]; exact Lib.nDigits_le20 m h
theorem number_any (n : Int) (w : World) (h0 : -9223372036854775808 ≤ n) (h1 : n ≤ 9223372036854775807) : Calls Tryd.prog 38 #[.int .i64 n] w fun e w' => e = .returned (str (Lib.itoa n)) ∧ Below w.heap.size w w' := by
  by_cases hn : 0 ≤ n
  · obtain ⟨N, rfl⟩ : ∃ N : Nat, n = N := ⟨n.toNat, by omega⟩
    rw [Lib.itoa_nonneg]
    go_enter Tryd.func38, Tryd.ntmps38
    go_wp2_with (go_at_call 50; refine (Nets.digits_any _ _ (by omega)).mono ?_; rintro e w' ⟨rfl, hb⟩)
    go_ret
    exact ⟨rfl, hb⟩
  · obtain ⟨N, rfl, hN⟩ : ∃ N : Nat, n = -(N : Int) ∧ 1 ≤ N := ⟨n.natAbs, by omega, by omega⟩
    rw [Lib.itoa_neg N hN]
    have l1 := dec_le (N % 10) (by omega)
    have l2 := dec_le (N / 10) (by omega)
    have c1 := fun w => digits_at ((N : Int) % 10) (N % 10) w (by omega) (by omega)
    have c2 := fun w => digits_at ((N : Int) / 10) (N / 10) w (by omega) (by omega)
    by_cases h10 : N < 10
    · have hz : (N : Int) / 10 = 0 := by omega
      have e1 : Lib.decDigits N = Lib.decDigits (N % 10) := by rw [Nat.mod_eq_of_lt h10]
      rw [e1]
      generalize Lib.decDigits (N % 10) = D at l1 c1 ⊢
      have C1 := Lib.hid c1
      clear c1 c2 l2
      go_enter Tryd.func38, Tryd.ntmps38
      go_wp2_with fail
      refine (C1.out _).mono ?_
      rintro e w1 ⟨rfl, hb1⟩
      go_wp2_with fail
      go_ret
      exact ⟨rfl, hb1⟩
    · have hz : 0 < (N : Int) / 10 := by omega
      have e1 : Lib.decDigits N = Lib.decDigits (N / 10) ++ Lib.decDigits (N % 10) := by
        rw [Lib.decDigits, dif_neg h10, Lib.decDigits_one (i := N % 10) (by omega)]
      rw [e1]
      generalize Lib.decDigits (N % 10) = D at l1 c1 ⊢
      generalize Lib.decDigits (N / 10) = E at l2 c2 ⊢
      have C1 := Lib.hid c1
      have C2 := Lib.hid c2
      clear c1 c2
      go_enter Tryd.func38, Tryd.ntmps38
      go_wp2_with fail
      refine (C1.out _).mono ?_
      rintro e w1 ⟨rfl, hb1⟩
      have HB := Lib.hid hb1
      clear hb1
      go_wp2_with fail
      refine (C2.out _).mono ?_
      rintro e w2 ⟨rfl, hb2⟩
      have HB2 := Lib.hid hb2
      clear hb2
      go_wp2_with fail
      go_ret
      refine ⟨?_, HB.out.trans (HB2.out.mono HB.out.size)⟩
      have e2 : (⟨#[45]⟩ : ByteArray) ++ (ba E ++ ba D) = ba (45 :: (E ++ D)) := by
        apply bl_inj
        simp
      show Ending.returned (.string _) = Ending.returned (.string (ba (45 :: (E ++ D))))
      rw [← e2]

/-! Light lists, light entries. -/
def lightB (ss : List ByteArray) : Bool := decide (ss.length ≤ 20 ∧ ∀ s ∈ ss, s.size ≤ 100)
theorem lightB_far {ss : List ByteArray} (h : 20 < ss.length) : lightB ss = false := decide_eq_false (by omega)
theorem lightB_bad {ss : List ByteArray} {s : ByteArray} (h : s ∈ ss) (hs : 100 < s.size) : lightB ss = false := decide_eq_false (by rintro ⟨_, h2⟩; have := h2 s h; omega)
theorem lightB_good {ss : List ByteArray} (h1 : ss.length ≤ 20) (h2 : ∀ s ∈ ss, s.size ≤ 100) : lightB ss = true := decide_eq_true ⟨h1, h2⟩
set_option maxHeartbeats 1000000 in
theorem light_any (v : Value) (ss : List ByteArray) (w : World) (hr : Reads w v ss) (hz : ∀ s ∈ ss, s.size ≤ 9223372036854775807) (hm : ss.length ≤ 9223372036854775807) :
    Calls Tryd.prog 20 #[v, .int .i64 20, .int .i64 100] w fun e w' => e = .returned (.bool (lightB ss)) ∧ w = w' := by
  rcases hr with ⟨a, cap, rfl, rfl⟩ | ⟨h0, b, off, cap, rfl, h1, h2, h3, h4⟩
  · go_enter Tryd.func20, Tryd.ntmps20
    go_wp2_with fail
    go_loopw [7] (fun i wr => i = .int .i64 0 ∧ wr = w) (fun i _ => 0 - (intOf i).toNat)
    case atStart => exact ⟨rfl, rfl⟩
    case round =>
      obtain ⟨rfl, rfl⟩ := hrel
      go_wp2_with fail
      go_ret
      exact ⟨rfl, rfl⟩
  · have HL := Lib.hid h4
    have HZ := Lib.hid hz
    clear h4 hz h1 h2
    go_enter Tryd.func20, Tryd.ntmps20
    go_wp2_with fail
    go_loopw [7] (fun i wr => ∃ k : Nat, k ≤ ss.length ∧ k ≤ 21 ∧ i = .int .i64 k ∧ (∀ s ∈ ss.take k, s.size ≤ 100) ∧ wr = w) (fun i _ => ss.length - (intOf i).toNat)
    case atStart => exact ⟨0, Nat.zero_le _, by omega, rfl, by simp, rfl⟩
    case round =>
      obtain ⟨k, hk, hk2, rfl, hn, rfl⟩ := hrel
      have HN := Lib.hid hn
      clear hn
      by_cases hlt : k < ss.length
      · by_cases hk3 : k ≤ 20
        · have hc := HL.out k hlt
          obtain ⟨s, hs⟩ : ∃ s, ss[k]? = some s := ⟨ss[k], List.getElem?_eq_getElem hlt⟩
          have hmem : s ∈ ss := List.mem_of_getElem? hs
          rw [List.getD_eq_getElem?_getD, hs] at hc
          simp only [Option.getD_some] at hc
          have hsz := HZ.out s hmem
          have HS := Lib.hid (And.intro hs hmem)
          clear hs hmem
          by_cases hg : 100 < s.size
          · have HB := Lib.hid (lightB_bad HS.out.2 hg)
            go_wp2_with fail
            go_ret
            exact ⟨by rw [HB.out]; rfl, rfl⟩
          · have HT := Lib.hid (take_next (p := fun s : ByteArray => s.size ≤ 100) HS.out.1 HN.out (by omega))
            go_wp2_with fail
            go_roundw
            case rel => exact ⟨k + 1, by omega, by omega, by simp, HT.out, trivial⟩
            case measure => simp [intOf]; omega
        · have HB := Lib.hid (lightB_far (ss := ss) (by omega))
          have hd : decide ((ss.length : Int) ≤ 20) = false := decide_eq_false (by omega)
          go_wp2_with fail
          go_ret
          exact ⟨by rw [HB.out]; rfl, rfl⟩
      · have hq : k = ss.length := by omega
        subst hq
        have HN2 := HN.out
        rw [List.take_length] at HN2
        by_cases h20 : ss.length ≤ 20
        · have HB := Lib.hid (lightB_good h20 HN2)
          have hd : decide ((ss.length : Int) ≤ 20) = true := decide_eq_true (by omega)
          clear HN2
          go_wp2_with fail
          go_ret
          exact ⟨by rw [HB.out]; rfl, rfl⟩
        · have HB := Lib.hid (lightB_far (ss := ss) (by omega))
          have hd : decide ((ss.length : Int) ≤ 20) = false := decide_eq_false (by omega)
          clear HN2
          go_wp2_with fail
          go_ret
          exact ⟨by rw [HB.out]; rfl, rfl⟩
end Go.Proofs.YtoknflnoehmngaaDoor.Cell
