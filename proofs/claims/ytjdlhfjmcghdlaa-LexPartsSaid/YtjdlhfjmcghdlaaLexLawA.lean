/-
  Walks of the laws LexBack and LexParts.
-/
import Derived.Test.YtjdlhfjmcghdlaaLexSame
namespace Go.Proofs.Ytjdlhfjmcghdlaa.Lex
open Go Go.RowKit

theorem scan_cases (l : List UInt8) : (∃ T, scan l = (0, T)) ∨ (∃ c, c ≠ 0 ∧ scan l = (c, [])) := by
  by_cases h : (scan l).1 = 0
  · exact .inl ⟨(scan l).2, by rw [← h]⟩
  · refine .inr ⟨(scan l).1, h, ?_⟩
    have := sc_none l false .z [] h
    exact Prod.ext rfl this
/-- Scan's contract, by what the scan is. -/
theorem scan_ok_any {s : ByteArray} {T : List Tk} (h : scan (bl s) = (0, T)) (w : World) (hs : s.size ≤ 100000000) :
    Calls Try.prog 10 #[.string s] w fun e w' => ∃ v, e = .returned (.tuple #[v, .int .i64 0]) ∧ ReadsT w' v T ∧ Below w.heap.size w w' := by
  refine (scan_any s w hs).mono ?_
  rintro e w' ⟨v, rfl, hr, hb⟩
  rw [h] at hr ⊢
  exact ⟨v, rfl, hr, hb⟩
theorem scan_bad_any {s : ByteArray} {c : Nat} (h : scan (bl s) = (c, [])) (w : World) (hs : s.size ≤ 100000000) :
    Calls Try.prog 10 #[.string s] w fun e w' => ∃ a cap, e = .returned (.tuple #[.slice a 0 cap, .int .i64 c]) ∧ Below w.heap.size w w' := by
  refine (scan_any s w hs).mono ?_
  rintro e w' ⟨v, rfl, hr, hb⟩
  rw [h] at hr ⊢
  obtain ⟨a, cap, rfl⟩ := hr.shape
  exact ⟨a, cap, rfl, hb⟩
set_option maxRecDepth 100000 in
set_option maxHeartbeats 4000000 in
theorem lexBack_any (s : ByteArray) (w : World) (_hs : s.size < 9223372036854775808) : Calls Try.prog 6 #[.string s] w (TruePost w) := by
  have HW := Lib.hid (fun W => works_any W)
  by_cases hlen : s.size ≤ 1000
  · have hd : decide ((1000 : Int) < (s.size : Int)) = false := decide_eq_false (by omega)
    rcases scan_cases (bl s) with ⟨T, hT⟩ | ⟨c, hc, hT⟩
    · have HS := Lib.hid (fun W => scan_ok_any hT W (by omega))
      obtain ⟨_, hcost⟩ := scan_ok hT
      rw [bl_len] at hcost
      have hlc := len_cost T
      have hpl : (ba (printL T)).size ≤ 100000000 := by
        rw [ba_size]
        have := print_len T 3
        unfold printL
        omega
      have HP := Lib.hid (fun v W (h : ReadsT W v T) => print_any v T W h (by omega) (by omega))
      have HS2 := Lib.hid (fun W => scan_ok_any (s := ba (printL T)) (T := T) (by rw [bl_ba]; exact scan_print hT) W hpl)
      have HA := Lib.hid (fun v u W (h1 : ReadsT W v T) (h2 : ReadsT W u T) => alike_any v u T W h1 h2 (by omega))
      generalize ba (printL T) = X at *
      clear hT hcost hlc
      go_enter Try.func6, Try.ntmps6
      go_wp2_with fail
      refine (HW.out _).mono ?_
      rintro e w1 ⟨rfl, hb⟩
      have HB := Lib.hid hb
      clear hb
      go_wp2_with fail
      refine (HS.out _).mono ?_
      rintro e w2 ⟨v, rfl, hr, hb⟩
      have HR := Lib.hid hr
      have HB2 := Lib.hid (HB.out.trans (hb.mono HB.out.size))
      clear hr hb
      go_wp2_with fail
      refine (HP.out _ _ HR.out).mono ?_
      rintro e w3 ⟨rfl, hb⟩
      have HR3 := Lib.hid (HR.out.below hb)
      have HB3 := Lib.hid (HB2.out.trans (hb.mono HB2.out.size))
      clear hb
      go_wp2_with fail
      refine (HS2.out _).mono ?_
      rintro e w4 ⟨u, rfl, hr, hb⟩
      have HR4 := Lib.hid (And.intro (HR3.out.below hb) hr)
      have HB4 := Lib.hid (HB3.out.trans (hb.mono HB3.out.size))
      clear hr hb
      go_wp2_with fail
      refine (HA.out _ _ _ HR4.out.1 HR4.out.2).mono ?_
      rintro e w5 ⟨rfl, hb⟩
      have HB5 := Lib.hid (HB4.out.trans (hb.mono HB4.out.size))
      clear hb
      go_wp2_with fail
      go_ret
      exact ⟨rfl, HB5.out⟩
    · have HS := Lib.hid (fun W => scan_bad_any hT W (by omega))
      have hne : ((c : Int) != 0) = true := by rw [bne_iff_ne]; omega
      clear hT
      go_enter Try.func6, Try.ntmps6
      go_wp2_with fail
      refine (HW.out _).mono ?_
      rintro e w1 ⟨rfl, hb⟩
      have HB := Lib.hid hb
      clear hb
      go_wp2_with fail
      refine (HS.out _).mono ?_
      rintro e w2 ⟨a, cap, rfl, hb⟩
      have HB2 := Lib.hid (HB.out.trans (hb.mono HB.out.size))
      clear hb
      go_wp2_with fail
      go_ret
      exact ⟨rfl, HB2.out⟩
  · have hd : decide ((1000 : Int) < (s.size : Int)) = true := decide_eq_true (by omega)
    go_enter Try.func6, Try.ntmps6
    go_wp2_with fail
    refine (HW.out _).mono ?_
    rintro e w1 ⟨rfl, hb⟩
    have HB := Lib.hid hb
    clear hb
    go_wp2_with fail
    go_ret
    exact ⟨rfl, HB.out⟩
end Go.Proofs.Ytjdlhfjmcghdlaa.Lex
