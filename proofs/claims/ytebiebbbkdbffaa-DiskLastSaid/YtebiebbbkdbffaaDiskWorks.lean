/-
  The chapter's example.
-/
import Derived.Test.YtebiebbbkdbffaaDiskSame
namespace Go.Proofs.Ytebiebbbkdbffaa.Disk
open Go Go.RowKit
open Go.Proofs.Ytebiebbbkdbffaa.Sha (Kept wp_region_drawn_tail wp_region_kept_tail quiet_load_row)

abbrev ex16 : ByteArray := ⟨#[48, 49, 50, 51, 52, 53, 54, 55, 56, 57, 97, 98, 99, 100, 101, 102]⟩
def exS : St := ⟨16, List.replicate 4 (zs 16), [⟨1, ex16⟩], 0, false, false, 1⟩
theorem ex_put : putS (newS 4 16) 1 ex16 = (exS, 0) := by
  unfold putS newS exS opS
  rw [if_neg (by simp; decide)]
  rfl
theorem ex_read : readS exS 1 = (ex16, 0) := by
  unfold readS exS
  rw [if_neg (by simp)]
  rfl
theorem ex_crash : readS (crashS exS [] (-1)) 1 = (zs 16, 0) := by
  unfold readS crashS exS
  rw [if_neg (by simp [chosen_none, crashL_nil])]
  rfl
set_option maxRecDepth 100000 in
set_option maxHeartbeats 1000000 in
theorem works_any (w : World) : Calls Try.prog 8 #[] w fun e w' => e = .returned (.bool true) ∧ Below w.heap.size w w' := by
  obtain ⟨C, hC⟩ : ∃ C, C = bytesC (List.replicate 16 0) := ⟨_, rfl⟩
  have hmk : ∀ W : World, (Instr.makeSlice 57 (.int .i64 16) (.int .i64 16)).run Try.prog W = .ok (.slice (some ⟨W.heap.size, 0, none⟩) 16 16) (W.alloc (.cells C u8T)) := fun W => by rw [hC]; exact make_bytes 16 (by omega) W
  have hcv : ∀ W : World, (convert 57 9 (.slice (some ⟨W.heap.size, 0, none⟩) 16 16)).run Try.prog (W.alloc (.cells C u8T)) = .ok (.string (zs 16)) (W.alloc (.cells C u8T)) := fun W => by rw [hC]; exact conv_zeros 16 W
  clear hC
  have HN := Lib.hid (new_any w 4 16 (by omega) (by omega) (by omega) (by omega))
  go_enter Try.func8, Try.ntmps8
  go_wp2_with fail
  refine HN.out.mono ?_
  rintro e w1 ⟨d, rfl, hI, hB, hb⟩
  have H1 := Lib.hid (And.intro hI (And.intro hB hb))
  have HW := Lib.hid (write_any hI 1 ex16 (by decide))
  rw [ex_put] at HW
  clear hI hB hb
  go_wp2_with fail
  refine HW.out.mono ?_
  rintro e w2 ⟨rfl, cv1, hI, hS⟩
  have hb2 := H1.out.1.stepBelow hS
  rw [H1.out.2.1] at hb2
  have H2 := Lib.hid (And.intro hI (H1.out.2.2.trans hb2))
  have HR := Lib.hid (readIs_any hI 1)
  rw [ex_read] at HR
  have HC := Lib.hid (crash_any hI (.slice none 0 0) [] (-1) (.inl ⟨none, 0, rfl, rfl⟩) (by simp))
  clear hI hS hb2
  go_wp2_with fail
  refine HR.out.mono ?_
  rintro e w2' ⟨rfl, rfl⟩
  go_wp2_with fail
  refine HC.out.mono ?_
  rintro e w3 ⟨rfl, cv2, hI, hS⟩
  have hb3 := H2.out.1.stepBelow hS
  have hb3' : Below w.heap.size w2 w3 := hb3.mono (by show w.heap.size ≤ d.B; rw [H1.out.2.1]; exact Nat.le_refl _)
  have H3 := Lib.hid (H2.out.2.trans hb3')
  have HQ := Lib.hid (readIs_any hI 1)
  rw [ex_crash] at HQ
  clear hI hS hb3 hb3'
  go_wp2_with fail
  refine HQ.out.mono ?_
  rintro e w3' ⟨rfl, rfl⟩
  go_wp2_with fail
  go_ret
  exact ⟨rfl, (H3.out.alloc H3.out.size _)⟩
end Go.Proofs.Ytebiebbbkdbffaa.Disk
