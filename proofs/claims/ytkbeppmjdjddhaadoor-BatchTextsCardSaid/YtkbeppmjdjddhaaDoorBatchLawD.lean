/-
  Walks of the law BatchTexts.
-/
import Derived.Test.YtkbeppmjdjddhaaDoorBatchLawC
import Derived.Test.YtkbeppmjdjddhaaDoorShaKept
namespace Go.Proofs.YtkbeppmjdjddhaaDoor.Batch
open Go Go.RowKit
open Nets (Tab str)
open Go.Proofs.YtkbeppmjdjddhaaDoor.Sha (Kept wp_region_kept wp_region_kept_tail quiet_load_row)

theorem guard_ref : Tryd.prog.eqGuardType Tryd.prog.depth refT = false := by kernel_rfl
/-- One operation of a quiet walk: a change is held against itself. -/
theorem quiet_eql_ref {C : World → Prop} {o : Oper} {a : Act} {K : Act → Prop} (x y : Operand) (c : Chg) (ho : o.op = .binOp .eql refT x y refT) (hx : a.eval x = chV c) (hy : a.eval y = chV c) (h : K (a.put o.dst (.bool true))) : o.quiet Tryd.prog a C K :=
  ⟨_, fun w hw => by
    have h1 := eql_ref w c c
    rw [decide_eq_true rfl] at h1
    unfold Oper.quietAt execOp
    simp [ho, hx, hy, h1, run_eqGuard_agg w .eql refT x y _ _ guard_ref]
    exact ⟨rfl, rfl⟩, h⟩
set_option maxRecDepth 100000 in
set_option maxHeartbeats 8000000 in
theorem batchTexts_any (c : Chg) (s : ByteArray) (w : World) (ho : OkC c) (hs : s.size ≤ 9223372036854775807) (hT : Tab w) :
    Calls Tryd.prog 4 #[chV c, .string s] w fun e w' => e = .returned (.bool true) ∧ Below w.heap.size w w' := by
  have HW := Lib.hid (fun W (hW : Below w.heap.size w W) => (works_any W (hT.below hW)).mono fun e w' he => And.intro he.1 (hW.trans (he.2.mono hW.size)))
  have HT := Lib.hid hT
  obtain ⟨h1, h2⟩ := ho
  have hA : Below w.heap.size w (w.alloc (boxC refT c)) := (Below.refl _ _).alloc (Nat.le_refl _) _
  have HA := Lib.hid hA
  clear hA hT
  by_cases g1 : 3000 < c.key.size
  · go_enter Tryd.func4, Tryd.ntmps4
    go_wp2_with fail
    refine (HW.out _ HA.out).mono ?_
    rintro e w3 ⟨rfl, hb3⟩
    have HB3 := Lib.hid hb3
    clear hb3
    go_wp2_with fail
    go_ret
    exact ⟨rfl, HB3.out⟩
  · by_cases g2 : 3000 < c.val.size
    · go_enter Tryd.func4, Tryd.ntmps4
      go_wp2_with fail
      refine (HW.out _ HA.out).mono ?_
      rintro e w3 ⟨rfl, hb3⟩
      have HB3 := Lib.hid hb3
      clear hb3
      go_wp2_with fail
      go_ret
      exact ⟨rfl, HB3.out⟩
    · by_cases g3 : 3000 < s.size
      · go_enter Tryd.func4, Tryd.ntmps4
        go_wp2_with fail
        refine (HW.out _ HA.out).mono ?_
        rintro e w3 ⟨rfl, hb3⟩
        have HB3 := Lib.hid hb3
        clear hb3
        go_wp2_with fail
        go_ret
        exact ⟨rfl, HB3.out⟩
      · have hF : Fine c := ⟨by omega, by omega⟩
        have HF := Lib.hid hF
        have HRD := Lib.hid (fun W => read_any s W (by omega))
        have HRR := Lib.hid (fun W => refRead_any s W (by omega))
        clear hF
        generalize hrs : readS (bl s) = rs at *
        obtain ⟨rc, rn⟩ := rs
        clear hrs
        go_enter Tryd.func4, Tryd.ntmps4
        go_wp2_with fail
        refine (HRD.out _).mono ?_
        rintro e w4 ⟨rfl, hb4⟩
        have HX0 := Lib.hid (box_at (w := w) (t := refT) (e := c) hb4)
        have hlt0 : w.heap.size < w4.heap.size := block_lt_of_cell (three HX0.out).1
        have HB4 := Lib.hid (HA.out.trans (hb4.mono HA.out.size))
        have HA4 := Lib.hid (HB4.out.alloc HB4.out.size (boxC chgT rc))
        clear hb4
        dsimp only
        go_wp2_with fail
        refine (HRR.out _).mono ?_
        rintro e w5 ⟨rfl, hb5⟩
        dsimp only
        have HX1 := Lib.hid (range_below (box_at hb5) (by have := hb5.size; simp at this; omega) ((Below.refl _ _).alloc (Nat.le_refl _) (boxC refT rc)))
        have HX2 := Lib.hid (new_box w5 refT rc)
        have HX3 : Hid ((w5.alloc (boxC refT rc)).rangeAt w.heap.size 0 (chC c)) := Lib.hid (range_below (range_below (range_below HX0.out (block_lt_of_cell (three HX0.out).1) ((Below.refl _ _).alloc (Nat.le_refl _) (boxC chgT rc))) (by simp; omega) hb5)
          (by have := hb5.size; simp at this; omega) ((Below.refl _ _).alloc (Nat.le_refl _) (boxC refT rc)))
        have HB5 := Lib.hid ((HA4.out.trans (hb5.mono HA4.out.size)).alloc (Nat.le_trans HA4.out.size hb5.size) (boxC refT rc))
        clear hb5
        go_wp2_with fail
        have h36 : ∀ W, Below (w5.alloc (boxC refT rc)).heap.size (w5.alloc (boxC refT rc)) W → Below w.heap.size w W := fun W hW => HB5.out.trans (hW.mono HB5.out.size)
        have HTO : Hid (∀ W, Below (w5.alloc (boxC refT rc)).heap.size (w5.alloc (boxC refT rc)) W → Calls Tryd.prog 23 #[chV c] W fun e W' => e = .returned (chV c) ∧ Below (w5.alloc (boxC refT rc)).heap.size (w5.alloc (boxC refT rc)) W') :=
          Lib.hid fun W hW => (to_any c W).mono fun e W' he => ⟨he.1, hW.trans (he.2.mono hW.size)⟩
        have HOF : Hid (∀ W, Below (w5.alloc (boxC refT rc)).heap.size (w5.alloc (boxC refT rc)) W → Calls Tryd.prog 14 #[chV rc] W fun e W' => e = .returned (chV rc) ∧ Below (w5.alloc (boxC refT rc)).heap.size (w5.alloc (boxC refT rc)) W') :=
          Lib.hid fun W hW => (of_any rc W).mono fun e W' he => ⟨he.1, hW.trans (he.2.mono hW.size)⟩
        have HWR : Hid (∀ W, Below (w5.alloc (boxC refT rc)).heap.size (w5.alloc (boxC refT rc)) W → Calls Tryd.prog 22 #[chV c] W fun e W' => e = .returned (str (writeS c)) ∧ Below (w5.alloc (boxC refT rc)).heap.size (w5.alloc (boxC refT rc)) W') :=
          Lib.hid fun W hW => (write_any c W HF.out (HT.out.below (h36 W hW))).mono fun e W' he => ⟨he.1, hW.trans (he.2.mono hW.size)⟩
        have HRW : Hid (∀ W, Below (w5.alloc (boxC refT rc)).heap.size (w5.alloc (boxC refT rc)) W → Calls Tryd.prog 24 #[chV c] W fun e W' => e = .returned (str (writeS c)) ∧ Below (w5.alloc (boxC refT rc)).heap.size (w5.alloc (boxC refT rc)) W') :=
          Lib.hid fun W hW => (refWrite_any c W HF.out).mono fun e W' he => ⟨he.1, hW.trans (he.2.mono hW.size)⟩
        have HWK : Hid (∀ W, Below (w5.alloc (boxC refT rc)).heap.size (w5.alloc (boxC refT rc)) W → Calls Tryd.prog 10 #[] W fun e W' => e = .returned (.bool true) ∧ Below (w5.alloc (boxC refT rc)).heap.size (w5.alloc (boxC refT rc)) W') :=
          Lib.hid fun W hW => (works_any W (HT.out.below (h36 W hW))).mono fun e W' he => ⟨he.1, hW.trans (he.2.mono hW.size)⟩
        have H36 := Lib.hid h36
        clear h36
        have hq := fun W => eql_ref W rc rc
        simp only [decide_true] at hq
        generalize writeS c = ws at *
        have hz0 := block_lt_of_cell (three HX3.out).1
        have hz1 := block_lt_of_cell (three HX1.out).1
        have hz2 := block_lt_of_cell (three HX2.out).1
        have HZ := Lib.hid (And.intro hz0 (And.intro hz1 hz2))
        clear hz0 hz1 hz2 hlt0
        refine wp_region_kept (by kernel_rfl) (by kernel_rfl) ?_
        repeat (first
          | (go_big_quiet_want
             first
               | refine quiet_eql_ref (.tmp 43) (.tmp 44) rc rfl rfl rfl ?_
               | refine quiet_load_row refT (.tmp 2) rfl w.heap.size 0 rfl (chC c) _ (fun w' hk => range_below HX3.out HZ.out.1 hk) Tryd.underlying33 rfl sizeR ?_
               | refine quiet_load_row chgT (.tmp 5) rfl w4.heap.size 0 rfl (chC rc) _ (fun w' hk => range_below HX1.out HZ.out.2.1 hk) Tryd.underlying30 rfl size3 ?_
               | refine quiet_load_row refT (.tmp 7) rfl w5.heap.size 0 rfl (chC rc) _ (fun w' hk => range_below HX2.out HZ.out.2.2 hk) Tryd.underlying33 rfl sizeR ?_
             go_simp
             go_big_quiet_on)
          | (go_big_quiet_step ((first | (exact fun _ => rfl) | (intro hk; go_at_call 23; exact (HTO.out _ hk)) | (intro hk; go_at_call 22; exact (HWR.out _ hk)) | (intro hk; go_at_call 24; exact (HRW.out _ hk)) | (intro hk; go_at_call 14; exact (HOF.out _ hk)) | (intro hk; go_at_call 10; exact (HWK.out _ hk))))))
        refine wpQuiet_nil ?_
        intro W2 hk2
        have HK2 := Lib.hid (H36.out _ hk2)
        clear hk2
        go_wp2_with fail
        go_ret
        exact ⟨rfl, HK2.out⟩
end Go.Proofs.YtkbeppmjdjddhaaDoor.Batch
