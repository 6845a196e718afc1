/-
  Walks of what the laws share: put.
-/
import Derived.Test.YtoknflnoehmngaaDoorCellRefShow
import Derived.Test.YtoknflnoehmngaaDoorCellSet
namespace Go.Proofs.YtoknflnoehmngaaDoor.Cell
open Go Go.RowKit

section
variable {w : World} {pb mb : Nat} {G : List Pair}
/-- What a put or a drop leaves. -/
def Done (w w' : World) (pb mb : Nat) (G : List Pair) (e : Ent) : Prop := ∃ G', G'.map (·.1) = sets Ent.name (okB e) e (G.map (·.1)) ∧ BagAt w' pb mb G' ∧ w.grownBy w' (some mb)
theorem done_put {w1 w' : World} {e : Ent} {v : Value} (hok : okB e = true) (hB : BagAt w' pb mb (put pn (e, v) G)) (h0 : w.grownBy w1 (some mb)) (h1 : w1.grownBy w' (some mb)) : Done w w' pb mb G e := by
  refine ⟨_, ?_, hB, h0.trans h1⟩
  rw [put_map]
  unfold sets
  rw [hok]
  rfl
theorem done_drop {w1 w' : World} {e : Ent} (hok : okB e = false) (hB : BagAt w' pb mb (del pn e.name G)) (h0 : w.grownBy w1 (some mb)) (h1 : w1.grownBy w' (some mb)) : Done w w' pb mb G e := by
  refine ⟨_, ?_, hB, h0.trans h1⟩
  rw [del_map]
  unfold sets
  rw [hok]
  rfl
theorem grown_alloc3 (w : World) (a b c : Obj) (row : Option Nat) : w.grownBy (((w.alloc a).alloc b).alloc c) row :=
  ((World.grownBy_alloc w a row).trans (World.grownBy_alloc _ b row)).trans (World.grownBy_alloc _ c row)
abbrev box3 (w : World) (e : Ent) (was : Val) : World := ((w.alloc (boxE e)).alloc (boxV was)).alloc (boxV e.v)
theorem drop_step (h : BagAt w pb mb G) (e : Ent) (was : Val) (hn : e.name.size ≤ maxLen) (hk : okB e = false) (n : Nat) :
    Calls Tryd.prog 19 #[ptr pb, .string e.name] ((box3 w e was).drewN n) fun r w' => r = .returned (.bool (at? pn e.name G).isSome) ∧ w'.cell? ⟨w.heap.size + 1, 0, none⟩ = some (.int .i64 was.kind) ∧ Hid (Done w w' pb mb G e) := by
  have hB : BagAt (box3 w e was) pb mb G := ((h.alloc _).alloc _).alloc _
  have hm := hB.lt
  refine (drop_any (hB.draw n) e.name hn).mono fun r w' hh => ?_
  obtain ⟨rfl, hB', hT⟩ := hh
  have hg : (box3 w e was).grownBy w' (some mb) := ⟨hT.grown.os, hT.grown.tape, hT.grown.output, hT.grown.size, hT.grown.block⟩
  refine ⟨rfl, hg.cell (a := ⟨w.heap.size + 1, 0, none⟩) ?_ ?_, Lib.hid (done_drop hk hB' (grown_alloc3 w _ _ _ _) hg)⟩
  · have h1 := heap_alloc_new (w.alloc (boxE e)) (boxV was)
    rw [show (w.alloc (boxE e)).heap.size = w.heap.size + 1 by simp] at h1
    have h2 := (Below.heap_alloc ((w.alloc (boxE e)).alloc (boxV was)) (boxV e.v) (w.heap.size + 1) (by simp)).trans h1
    simp only [World.cell?, h2]
    rfl
  · have := h.lt
    simp only [ne_eq, Option.some.injEq]
    omega
set_option maxHeartbeats 2000000 in
theorem put_any (h : BagAt w pb mb G) (e : Ent) (was : Val) (hn : e.name.size ≤ maxLen) (hf : G.length < 100) (hw : okB e = false → (was.kind ≠ 0 ↔ (at? pn e.name G).isSome = true)) (hr : Reads w e.v.lv e.v.ls) (hl : e.v.ls.length ≤ 1000) :
    Calls Tryd.prog 9 #[ptr pb, entV e, valV was] w fun r w' => r = .returned (.bool true) ∧ Done w w' pb mb G e := by
  have HB := Lib.hid (fun (a b c : Obj) => ((h.alloc a).alloc b).alloc c)
  have HR := Lib.hid (fun (a b c : Obj) => hr.below ((((Below.refl w.heap.size w).alloc (Nat.le_refl _) a).alloc (by simp) b).alloc (by simp; omega) c))
  have HN := Lib.hid hn
  have HF := Lib.hid hf
  have HL := Lib.hid hl
  have hlt := h.plt
  by_cases hk : okB e = true
  · have HK := Lib.hid hk
    have hk4 : e.v.kind = 1 ∨ e.v.kind = 2 ∨ e.v.kind = 3 ∨ e.v.kind = 4 := by
      unfold okB okKind at hk
      simp only [Bool.and_eq_true, decide_eq_true_eq] at hk
      omega
    clear h hr hn hf hl hk hw
    rcases hk4 with hk1 | hk1 | hk1 | hk1
    · have h1 : (e.v.kind == 1) = true := by rw [hk1]; rfl
      have HK1 := Lib.hid hk1
      clear hk1
      go_enter Tryd.func9, Tryd.ntmps9
      go_wp2_with fail
      refine (putText_any (HB.out _ _ _) e HK1.out HN.out HF.out).mono ?_
      rintro r w' ⟨rfl, hB, hT⟩
      have HD := Lib.hid (done_put HK.out hB (grown_alloc3 w _ _ _ _) hT.grown)
      clear hB hT
      go_wp2_with fail
      go_ret
      exact ⟨rfl, HD.out⟩
    · have h1 : (e.v.kind == 1) = false := by rw [hk1]; rfl
      have h2 : (e.v.kind == 2) = true := by rw [hk1]; rfl
      have HK1 := Lib.hid hk1
      clear hk1
      go_enter Tryd.func9, Tryd.ntmps9
      go_wp2_with fail
      refine (putNum_any (HB.out _ _ _) e HK1.out HN.out HF.out).mono ?_
      rintro r w' ⟨rfl, hB, hT⟩
      have HD := Lib.hid (done_put HK.out hB (grown_alloc3 w _ _ _ _) hT.grown)
      clear hB hT
      go_wp2_with fail
      go_ret
      exact ⟨rfl, HD.out⟩
    · have h1 : (e.v.kind == 1) = false := by rw [hk1]; rfl
      have h2 : (e.v.kind == 2) = false := by rw [hk1]; rfl
      have h3 : (e.v.kind == 3) = true := by rw [hk1]; rfl
      have HK1 := Lib.hid hk1
      clear hk1
      go_enter Tryd.func9, Tryd.ntmps9
      go_wp2_with fail
      refine (putFlag_any (HB.out _ _ _) e HK1.out HN.out HF.out).mono ?_
      rintro r w' ⟨rfl, hB, hT⟩
      have HD := Lib.hid (done_put HK.out hB (grown_alloc3 w _ _ _ _) hT.grown)
      clear hB hT
      go_wp2_with fail
      go_ret
      exact ⟨rfl, HD.out⟩
    · have h1 : (e.v.kind == 1) = false := by rw [hk1]; rfl
      have h2 : (e.v.kind == 2) = false := by rw [hk1]; rfl
      have h3 : (e.v.kind == 3) = false := by rw [hk1]; rfl
      have h4 : (e.v.kind == 4) = true := by rw [hk1]; rfl
      have HK1 := Lib.hid hk1
      clear hk1
      go_enter Tryd.func9, Tryd.ntmps9
      go_wp2_with fail
      refine (putList_any (HB.out _ _ _) e e.v.lv (HR.out _ _ _) HL.out HK1.out HN.out HF.out).mono ?_
      rintro r w' ⟨rfl, sv, hfr, hB, hT⟩
      have HD := Lib.hid (done_put HK.out hB (grown_alloc3 w _ _ _ _) hT)
      clear hB hT hfr
      go_wp2_with fail
      go_ret
      exact ⟨rfl, HD.out⟩
  · have hk0 : okB e = false := by simpa using hk
    have HK := Lib.hid hk0
    have hk5 : e.v.kind ≠ 1 ∧ e.v.kind ≠ 2 ∧ e.v.kind ≠ 3 ∧ e.v.kind ≠ 4 := by
      unfold okB okKind at hk0
      refine ⟨fun h => ?_, fun h => ?_, fun h => ?_, fun h => ?_⟩ <;> (rw [h] at hk0; revert hk0; decide)
    have h1 : (e.v.kind == 1) = false := by simpa using hk5.1
    have h2 : (e.v.kind == 2) = false := by simpa using hk5.2.1
    have h3 : (e.v.kind == 3) = false := by simpa using hk5.2.2.1
    have h4 : (e.v.kind == 4) = false := by simpa using hk5.2.2.2
    have HD := Lib.hid (drop_step h e was hn hk0)
    have hw := hw hk0
    clear h hr hn hf hl hk hk0 hk5
    cases hh : (at? pn e.name G).isSome
    · have h0 : (was.kind != 0) = false := by
        have : ¬ was.kind ≠ 0 := fun h => by have := hw.1 h; rw [hh] at this; cases this
        simpa using this
      have HH := Lib.hid hh
      clear hw hh
      go_enter Tryd.func9, Tryd.ntmps9
      go_wp2_with fail
      go_region_with (go_at_call 19; refine (HD.out _).mono ?_; rw [HH.out]; rintro r w' ⟨rfl, hc1, hD⟩)
      all_goals
        go_wp2_with fail
        go_ret
        exact ⟨rfl, hD.out⟩
    · have h0 : (was.kind != 0) = true := by
        have : was.kind ≠ 0 := hw.2 hh
        simpa using this
      have HH := Lib.hid hh
      clear hw hh
      go_enter Tryd.func9, Tryd.ntmps9
      go_wp2_with fail
      go_region_with (go_at_call 19; refine (HD.out _).mono ?_; rw [HH.out]; rintro r w' ⟨rfl, hc1, hD⟩)
      all_goals
        go_wp2_with fail
        go_ret
        exact ⟨rfl, hD.out⟩
end
end Go.Proofs.YtoknflnoehmngaaDoor.Cell
