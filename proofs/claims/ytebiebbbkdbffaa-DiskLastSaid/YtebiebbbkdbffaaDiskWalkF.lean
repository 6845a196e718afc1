/-
  Walks of the program's disk, sixth part: empty.
-/
import Derived.Test.YtebiebbbkdbffaaDiskWalkE
namespace Go.Proofs.Ytebiebbbkdbffaa.Disk
open Go Go.RowKit
open Go.Proofs.Ytebiebbbkdbffaa.Sha (wp_region_drawn_tail wp_region_kept_tail quiet_load_row)

section
variable {w : World} {d : Dk} {R : Raw}
/-- A disk in the midst of a loop of its own. -/
structure Go1 (w : World) (d : Dk) (R : Raw) (wr : World) : Prop where
  mem : Mem wr d R
  step : Step w d wr d
theorem nil_owns (w : World) (B : Nat) : w.ownsRow B wrT 2 (.slice none 0 0) ([] : List Wr).length (([] : List Wr).flatMap wC) := World.ownsRow_nil _ _ _ _
theorem Mem.setNil (h : Mem w d R) : Mem (w.setCell ⟨d.pb, 3, none⟩ (.slice none 0 0)) { d with cv := .slice none 0 0 } { R with cache := [] } :=
  h.setCache _ [] (nil_owns w d.B) fun k hk => by simp [Value.ownBlock] at hk
set_option maxRecDepth 100000 in
set_option maxHeartbeats 4000000 in
theorem empty_any (h : Mem w d R) (hfit : ∀ x ∈ R.cache, x.p < R.dur.length) (hlen : R.con.length = R.dur.length) (_hf : R.dur.length ≤ 4096) (hl : R.cache.length ≤ 1000000) :
    Calls Try.prog 33 #[ptr d.pb] w fun e w' => e = .returned (.tuple #[]) ∧ Mem w' { d with cv := .slice none 0 0 } { R with cache := [], con := fresh R.con R.dur R.cache } ∧ Step w d w' { d with cv := .slice none 0 0 } := by
  have HH := Lib.hid h
  have HF := Lib.hid hfit
  obtain ⟨c0, c1, c2, c3, c4, c5, c6, c7⟩ := h.cells
  obtain ⟨ca, cc, hcv⟩ := h.shape
  have HCV := Lib.hid hcv
  rw [hcv] at c3
  clear h hfit hcv
  go_enter Try.func33, Try.ntmps33
  go_wp2_with fail
  go_loopw [9] (fun i wr => ∃ k : Nat, k ≤ R.cache.length ∧ i = .int .i64 k ∧ Mem wr d { R with con := fresh R.con R.dur (R.cache.take k) } ∧ Step w d wr d) (fun i _ => R.cache.length - (intOf i).toNat)
  case atStart => exact ⟨0, Nat.zero_le _, rfl, HH.out, Step.refl _ _⟩
  case round =>
    obtain ⟨k, hk, rfl, hM, hS⟩ := hrel
    have HM := Lib.hid (And.intro hM hS)
    clear hM hS c0 c1 c2 c3 c4 c5 c6 c7
    by_cases hlt : k < R.cache.length
    · obtain ⟨x, hx⟩ : ∃ x, R.cache[k]? = some x := ⟨R.cache[k], List.getElem?_eq_getElem hlt⟩
      obtain ⟨g, c', hv, hgb, k0, k1, hr⟩ := owns_write HM.out.1.cache hx
      have hxp := HF.out x (List.mem_of_getElem? hx)
      rw [HCV.out] at hv hgb
      obtain ⟨rfl, -, rfl⟩ := Value.slice.inj hv
      have hgs : g < wr.heap.size := (HM.out.1.cache.lt g (by rw [HCV.out]; rfl)).2
      have HT := Lib.hid (fresh_take (C := R.con) (D := R.dur) hx)
      clear hv hgb hr hx
      obtain ⟨c0, c1, c2, c3, c4, c5, c6, c7⟩ := HM.out.1.cells
      obtain ⟨l0, l1, l2⟩ := HM.out.1.lts
      have hfl : (fresh R.con R.dur (R.cache.take k)).length = R.dur.length := by rw [fresh_length, hlen]
      have kd := HM.out.1.durAt (i := x.p) hxp
      have kc := HM.out.1.conAt (i := x.p) (by show x.p < (fresh R.con R.dur (R.cache.take k)).length; omega)
      have hfa := fun o => ((HM.out.1.alloc o).con).free x.p
      have hfa' := (HM.out.1.con).free x.p
      rw [HCV.out] at c3
      rw [show ({ R with con := fresh R.con R.dur (R.cache.take k) } : Raw).con = fresh R.con R.dur (R.cache.take k) from rfl, hfl] at c2
      have HZ : Hid (∀ n, Mem (((wr.alloc (boxW x)).drewN n).setCell ⟨d.cb, x.p, none⟩ (.string (at0 R.dur x.p))) d { R with con := fresh R.con R.dur (R.cache.take (k + 1)) } ∧ Step w d (((wr.alloc (boxW x)).drewN n).setCell ⟨d.cb, x.p, none⟩ (.string (at0 R.dur x.p))) d) := fun n => by
        have h1 := ((HM.out.1.alloc (boxW x)).drewN n).setCon x.p (at0 R.dur x.p)
        rw [HT.out]
        exact ⟨h1, HM.out.2.put ((((Fr.refl _ wr).alloc _).drewN n).cbAt _ _)⟩
      clear hfl HT
      go_wp2_with fail
      refine wp_region_drawn_tail 15 (by kernel_rfl) (by kernel_rfl) ?_
      simp only [List.take_succ_cons, List.take_zero, List.drop_succ_cons, List.drop_zero]
      repeat (go_big_quiet_step (fail))
      refine wpQuiet_nil ?_
      rintro _ ⟨nq, rfl⟩
      go_wp2
      go_roundw
      case rel => exact ⟨k + 1, by omega, by simp, (HZ.out nq).1, (HZ.out nq).2⟩
      case measure => simp [intOf]; omega
    · obtain ⟨c0, c1, c2, c3, c4, c5, c6, c7⟩ := HM.out.1.cells
      have f3 := HM.out.1.free 3
      rw [HCV.out] at c3
      have HZ : Hid (Mem (wr.setCell ⟨d.pb, 3, none⟩ (.slice none 0 0)) { d with cv := .slice none 0 0 } { R with cache := [], con := fresh R.con R.dur R.cache } ∧ Step w d (wr.setCell ⟨d.pb, 3, none⟩ (.slice none 0 0)) { d with cv := .slice none 0 0 }) := by
        have e : R.cache.take k = R.cache := List.take_of_length_le (by omega)
        have h1 := HM.out.1.setNil
        rw [e] at h1
        exact ⟨h1, (HM.out.2.fr.pbAt 3 _), rfl, rfl, rfl, rfl, fun j hj => by simp [Value.ownBlock] at hj⟩
      go_wp2_with fail
      go_end0
      exact ⟨rfl, HZ.out⟩
end
end Go.Proofs.Ytebiebbbkdbffaa.Disk
