/-
  Walks of the program's disk, second part: operate, Read, Durable, tear.
-/
import Derived.Test.YtebiebbbkdbffaaDiskWalkA
namespace Go.Proofs.Ytebiebbbkdbffaa.Disk
open Go Go.RowKit

section
variable {w : World} {d : Dk} {R : Raw}
def opR (R : Raw) : Raw := { R with ops := R.ops + 1, left := if 0 < R.left then R.left - 1 else R.left, off := decide (R.left = 1) }
set_option maxHeartbeats 1000000 in
theorem operate_any (h : Mem w d R) (ho : R.off = false) (hn : R.ops < 1000000) (h1 : -9223372036854775808 ≤ R.left) (h2 : R.left ≤ 9223372036854775807) :
    Calls Try.prog 36 #[ptr d.pb] w fun e w' => e = .returned (.bool (decide (R.left = 1))) ∧ Mem w' d (opR R) ∧ Fr (own d) w w' := by
  obtain ⟨c0, c1, c2, c3, c4, c5, c6, c7⟩ := h.cells
  have f4 := h.free 4
  have f6 := h.free 6
  have f7 := h.free 7
  have HM := Lib.hid h
  clear h
  rcases (show R.left ≤ 0 ∨ R.left = 1 ∨ 1 < R.left by omega) with hl | hl | hl
  · have hd : decide (R.left = 1) = false := by simp; omega
    have HD : Hid (Mem (w.setCell ⟨d.pb, 7, none⟩ (.int .i64 ((R.ops : Int) + 1))) d (opR R) ∧ Fr (own d) w (w.setCell ⟨d.pb, 7, none⟩ (.int .i64 ((R.ops : Int) + 1)))) := by
      refine ⟨?_, (Fr.refl _ _).pbAt _ _⟩
      have e := HM.out.setOps (R.ops + 1)
      have e2 : opR R = { R with ops := R.ops + 1 } := by unfold opR; rw [hd, if_neg (by omega), ← ho]
      rw [e2]
      exact e
    rw [hd]
    rw [ho] at c6
    clear hd
    go_enter Try.func36, Try.ntmps36
    go_wp2
    go_ret
    exact ⟨rfl, HD.out⟩
  · have HD : Hid (Mem (((w.setCell ⟨d.pb, 7, none⟩ (.int .i64 ((R.ops : Int) + 1))).setCell ⟨d.pb, 4, none⟩ (.int .i64 0)).setCell ⟨d.pb, 6, none⟩ (.bool true)) d (opR R) ∧ Fr (own d) w (((w.setCell ⟨d.pb, 7, none⟩ (.int .i64 ((R.ops : Int) + 1))).setCell ⟨d.pb, 4, none⟩ (.int .i64 0)).setCell ⟨d.pb, 6, none⟩ (.bool true))) := by
      refine ⟨?_, (((Fr.refl _ _).pbAt _ _).pbAt _ _).pbAt _ _⟩
      have e := ((HM.out.setOps (R.ops + 1)).setLeft 0).setOff true
      have e2 : opR R = { R with ops := R.ops + 1, left := 0, off := true } := by unfold opR; rw [hl]; rfl
      rw [e2]
      exact e
    rw [hl]
    rw [hl] at c4
    clear hl
    go_enter Try.func36, Try.ntmps36
    go_wp2
    go_ret
    exact ⟨rfl, HD.out⟩
  · have hd : decide (R.left = 1) = false := by simp; omega
    have h0 : (R.left - 1 == 0) = false := by simp; omega
    have HD : Hid (Mem (((w.setCell ⟨d.pb, 7, none⟩ (.int .i64 ((R.ops : Int) + 1))).setCell ⟨d.pb, 4, none⟩ (.int .i64 (R.left - 1))).setCell ⟨d.pb, 6, none⟩ (.bool false)) d (opR R) ∧ Fr (own d) w (((w.setCell ⟨d.pb, 7, none⟩ (.int .i64 ((R.ops : Int) + 1))).setCell ⟨d.pb, 4, none⟩ (.int .i64 (R.left - 1))).setCell ⟨d.pb, 6, none⟩ (.bool false))) := by
      refine ⟨?_, (((Fr.refl _ _).pbAt _ _).pbAt _ _).pbAt _ _⟩
      have e := ((HM.out.setOps (R.ops + 1)).setLeft (R.left - 1)).setOff false
      have e2 : opR R = { R with ops := R.ops + 1, left := R.left - 1, off := false } := by unfold opR; rw [hd, if_pos (by omega)]
      rw [e2]
      exact e
    rw [hd]
    clear hd
    go_enter Try.func36, Try.ntmps36
    go_wp2
    go_ret
    exact ⟨rfl, HD.out⟩
theorem durable_in (h : Mem w d R) (i : Nat) (hi : i < R.dur.length) : Calls Try.prog 15 #[ptr d.pb, .int .i64 i] w fun e w' => e = .returned (.string (at0 R.dur i)) ∧ w = w' := by
  obtain ⟨c0, c1, c2, c3, c4, c5, c6, c7⟩ := h.cells
  have hc := h.durAt hi
  have HH := Lib.hid (has_any h (i : Int))
  rw [show decide ((0 : Int) ≤ (i : Int)) = true by simp, show decide ((i : Int) < (R.dur.length : Int)) = true by simp; omega] at HH
  clear h
  go_enter Try.func15, Try.ntmps15
  go_wp2_with fail
  refine HH.out.mono ?_
  rintro e w' ⟨rfl, rfl⟩
  go_wp2_with fail
  go_ret
  exact ⟨rfl, rfl⟩
theorem durable_out (h : Mem w d R) (i : Int) (hi : i < 0 ∨ (R.dur.length : Int) ≤ i) : Calls Try.prog 15 #[ptr d.pb, .int .i64 i] w fun e w' => e = .returned (.string ⟨#[]⟩) ∧ w = w' := by
  have HH := Lib.hid (has_any h i)
  rw [show (decide (0 ≤ i) && decide (i < (R.dur.length : Int))) = false by
    rw [Bool.and_eq_false_iff]
    rcases hi with hi | hi
    · left; simp; omega
    · right; simp; omega] at HH
  clear h hi
  go_enter Try.func15, Try.ntmps15
  go_wp2_with fail
  refine HH.out.mono ?_
  rintro e w' ⟨rfl, rfl⟩
  go_wp2_with fail
  go_ret
  exact ⟨rfl, rfl⟩
theorem read_out (h : Mem w d R) (i : Int) (hi : i < 0 ∨ (R.dur.length : Int) ≤ i) : Calls Try.prog 14 #[ptr d.pb, .int .i64 i] w fun e w' => e = .returned (.tuple #[.string ⟨#[]⟩, .int .i64 1]) ∧ w = w' := by
  have HH := Lib.hid (has_any h i)
  rw [show (decide (0 ≤ i) && decide (i < (R.dur.length : Int))) = false by
    rw [Bool.and_eq_false_iff]
    rcases hi with hi | hi
    · left; simp; omega
    · right; simp; omega] at HH
  clear h hi
  go_enter Try.func14, Try.ntmps14
  go_wp2_with fail
  refine HH.out.mono ?_
  rintro e w' ⟨rfl, rfl⟩
  go_wp2_with fail
  go_ret2
  exact ⟨rfl, rfl⟩
theorem read_in (h : Mem w d R) (i : Nat) (hi : i < R.dur.length) (hl : R.con.length = R.dur.length) : Calls Try.prog 14 #[ptr d.pb, .int .i64 i] w fun e w' => e = .returned (.tuple #[.string (if R.off then ⟨#[]⟩ else at0 R.con i), .int .i64 (if R.off then 80 else 0)]) ∧ w = w' := by
  obtain ⟨c0, c1, c2, c3, c4, c5, c6, c7⟩ := h.cells
  have hi2 : i < R.con.length := by omega
  have hc := h.conAt hi2
  have HH := Lib.hid (has_any h (i : Int))
  rw [show decide ((0 : Int) ≤ (i : Int)) = true by simp, show decide ((i : Int) < (R.dur.length : Int)) = true by simp; omega] at HH
  clear h hl
  cases ho : R.off
  all_goals
    rw [ho] at c6
    clear ho
    go_enter Try.func14, Try.ntmps14
    go_wp2_with fail
    refine HH.out.mono ?_
    rintro e w' ⟨rfl, rfl⟩
    go_wp2_with fail
    go_ret2
    exact ⟨rfl, rfl⟩
end
end Go.Proofs.Ytebiebbbkdbffaa.Disk
