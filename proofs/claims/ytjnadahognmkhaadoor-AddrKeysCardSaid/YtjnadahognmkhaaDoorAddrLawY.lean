/-
  Walk of the law AddrKeys.
-/
import Derived.Test.YtjnadahognmkhaaDoorAddrLawK
import Derived.Deep.RegionHeld3
namespace Go.Proofs.YtjnadahognmkhaaDoor.Addr
open Go Go.RowKit
open Go.Proofs.YtjnadahognmkhaaDoor.Lex (bl ba bl_len ba_size bl_ba ba_bl Lies range_below ret_bool below_drewN)
open Go.Proofs.YtjnadahognmkhaaDoor.Glyph (fd foldL foldL_foldL fold_any)
open Go.Proofs.YtjnadahognmkhaaDoor.Sha (Kept wp_region_kept wp_region_kept_tail quiet_load_row)

/-- Two addresses in boxes of their own. -/
structure Two (w : World) (l d l2 d2 : ByteArray) (i j : Nat) (W : World) : Prop where
  a : W.rangeAt i 0 (cellsA l d)
  b : W.rangeAt j 0 (cellsA l2 d2)
  ai : i < W.heap.size
  bj : j < W.heap.size
  below : Below w.heap.size w W
theorem Two.on {w W W' : World} {l d l2 d2 : ByteArray} {i j : Nat} (h : Two w l d l2 d2 i j W) (hb : Below W.heap.size W W') : Two w l d l2 d2 i j W' :=
  ⟨range_below h.a h.ai hb, range_below h.b h.bj hb, Nat.lt_of_lt_of_le h.ai hb.size, Nat.lt_of_lt_of_le h.bj hb.size, h.below.trans (hb.mono h.below.size)⟩
theorem rng_new {X : World} {i : Nat} {t : TypeId} {l d : ByteArray} (h : X.heap.size = i) : (X.alloc (.cells #[.string l, .string d] t)).rangeAt i 0 (cellsA l d) := by
  subst h
  exact new_boxA X t l d
theorem rng_drew {X : World} {i : Nat} {c : List Value} (h : X.rangeAt i 0 c) : X.drew.rangeAt i 0 c := h
theorem rng_alloc {X : World} {i : Nat} {c : List Value} {o : Obj} (hi : i < X.heap.size) (h : X.rangeAt i 0 c) : (X.alloc o).rangeAt i 0 c := range_below h hi ((Below.refl _ _).alloc (Nat.le_refl _) _)
theorem bl_inj {a b : ByteArray} (h : bl a = bl b) : a = b := by rw [← ba_bl a, h, ba_bl]
theorem bel_alloc {a X : World} (h : Below a.heap.size a X) (o : Obj) : Below a.heap.size a (X.alloc o) := h.alloc h.size o
theorem bel_drew {a X : World} (h : Below a.heap.size a X) : Below a.heap.size a X.drew := h.drew
set_option maxHeartbeats 1000000 in
theorem to_world (l d : ByteArray) (w : World) :
    Calls Tryd.prog 16 #[adB l d] w fun e w' => e = .returned (adB l d) ∧ w' = (w.alloc (boxA arT l d)).alloc (boxA adT l d) := by
  have hl : Lies ((w.alloc (boxA arT l d)).alloc (boxA adT l d)) (w.heap.size + 1) #[.string l, .string d] adT := by
    have := Lies.new (w.alloc (boxA arT l d)) #[.string l, .string d] adT
    have hz : (w.alloc (boxA arT l d)).heap.size = w.heap.size + 1 := by simp
    rwa [hz] at this
  go_enter Tryd.func16, Tryd.ntmps16
  go_wp2_with fail
  exact bodyPost_ret (v := adB l d) (results_cell_row Tryd.results16 _ _ (w.heap.size + 1) adT _ (0, 0) _ rfl hl Tryd.underlying24 rfl sizeA) rfl ⟨rfl, rfl⟩
set_option maxRecDepth 100000 in
set_option maxHeartbeats 8000000 in
theorem addrKeys_any (l d l2 d2 : ByteArray) (w : World) : Calls Tryd.prog 7 #[adB l d, adB l2 d2] w (TrueP w) := by
  have HW := Lib.hid (fun W => works_any W)
  by_cases h1 : l.size ≤ 500
  · have hd1 : decide ((500 : Int) < (l.size : Int)) = false := decide_eq_false (by omega)
    by_cases h2 : d.size ≤ 500
    · have hd2 : decide ((500 : Int) < (d.size : Int)) = false := decide_eq_false (by omega)
      by_cases h3 : l2.size ≤ 500
      · have hd3 : decide ((500 : Int) < (l2.size : Int)) = false := decide_eq_false (by omega)
        by_cases h4 : d2.size ≤ 500
        · have hd4 : decide ((500 : Int) < (d2.size : Int)) = false := decide_eq_false (by omega)
          have HTO := Lib.hid (fun x y W => to_world x y W)
          have HR1 := Lib.hid (fun W => right_any l d W (by omega) (by omega))
          have HR2 := Lib.hid (fun W => right_any l2 d2 W (by omega) (by omega))
          have hw1 : (w.alloc (boxA arT l d)).heap.size = w.heap.size + 1 := by simp
          have hw2 : ((w.alloc (boxA arT l d)).alloc (boxA arT l2 d2)).heap.size = w.heap.size + 1 + 1 := by simp
          have HC0x0 := Lib.hid (range_below (new_boxA w arT l d) (by simp) ((Below.refl _ _).alloc (Nat.le_refl _) (boxA arT l2 d2)))
          have HZ0x0 : Hid (w.heap.size < ((w.alloc (boxA arT l d)).alloc (boxA arT l2 d2)).heap.size) := Lib.hid (by rw [hw2]; omega)
          have HC1x0 : Hid (((w.alloc (boxA arT l d)).alloc (boxA arT l2 d2)).rangeAt (w.heap.size + 1) 0 (cellsA l2 d2)) := Lib.hid (by
            have h := new_boxA (w.alloc (boxA arT l d)) arT l2 d2
            rwa [hw1] at h)
          have HZ1x0 : Hid (w.heap.size + 1 < ((w.alloc (boxA arT l d)).alloc (boxA arT l2 d2)).heap.size) := Lib.hid (by rw [hw2]; omega)
          have HB0 : Hid (Below w.heap.size w ((w.alloc (boxA arT l d)).alloc (boxA arT l2 d2))) := Lib.hid (((Below.refl _ _).alloc (Nat.le_refl _) _).alloc (by rw [hw1]; omega) _)
          clear hw1 hw2
          go_enter Tryd.func7, Tryd.ntmps7
          go_wp2_with fail
          refine (HW.out _).mono ?_
          rintro e w1 ⟨rfl, hb⟩
          have hbb := hb
          have HB1 := Lib.hid (HB0.out.trans (hbb.mono HB0.out.size))
          have HC0x1 := Lib.hid (range_below HC0x0.out HZ0x0.out hbb)
          have HZ0x1 := Lib.hid (Nat.lt_of_lt_of_le HZ0x0.out hbb.size)
          have HC1x1 := Lib.hid (range_below HC1x0.out HZ1x0.out hbb)
          have HZ1x1 := Lib.hid (Nat.lt_of_lt_of_le HZ1x0.out hbb.size)
          clear hb hbb
          obtain ⟨a00, a01⟩ := twoA HC0x1.out
          obtain ⟨a10, a11⟩ := twoA HC1x1.out
          have HSB : Hid (∀ X, Below w1.heap.size w1 X → (X.cell? ⟨w.heap.size, 0, none⟩ = some (.string l) ∧ X.cell? ⟨w.heap.size, 0 + 1, none⟩ = some (.string d)) ∧ X.cell? ⟨w.heap.size + 1, 0, none⟩ = some (.string l2) ∧ X.cell? ⟨w.heap.size + 1, 0 + 1, none⟩ = some (.string d2)) := Lib.hid fun X hX => ⟨twoA (range_below HC0x1.out HZ0x1.out hX), twoA (range_below HC1x1.out HZ1x1.out hX)⟩
          go_upto_region 5 with (fail)
          go_cut [5, 6] from 5 to 34 (fun p q wx => ∃ i j : Nat, p = .pointer (some ⟨i, 0, none⟩) ∧ q = .pointer (some ⟨j, 0, none⟩) ∧ Hid (Two w l d l2 d2 i j wx))
          case first =>
            go_region_held3 (fun W => (W.cell? ⟨w.heap.size, 0, none⟩ = some (.string l) ∧ W.cell? ⟨w.heap.size, 0 + 1, none⟩ = some (.string d)) ∧ W.cell? ⟨w.heap.size + 1, 0, none⟩ = some (.string l2) ∧ W.cell? ⟨w.heap.size + 1, 0 + 1, none⟩ = some (.string d2)) ((refine HSB.out _ ?_; repeat (first | exact Below.refl _ _ | refine bel_drew ?_ | refine bel_alloc ?_ _))) (first
              | (go_at_call 16; (with_reducible refine (HTO.out _ _ _).mono ?_); rintro e V ⟨rfl, rfl⟩))
            all_goals
              go_wp2_with fail
              go_meet
              refine ⟨_, _, rfl, rfl, Lib.hid ⟨?_, ?_, by simp <;> omega, by simp <;> omega, HB1.out.trans (Below.mono ?_ HB1.out.size)⟩⟩
              · repeat (first | (refine rng_new ?_; simp; done) | refine rng_drew ?_ | (refine rng_alloc ?_ ?_; focus (first | (simp; done) | (simp; omega))))
              · repeat (first | (refine rng_new ?_; simp; done) | refine rng_drew ?_ | (refine rng_alloc ?_ ?_; focus (first | (simp; done) | (simp; omega))))
              · repeat (first | exact Below.refl _ _ | refine bel_drew ?_ | refine bel_alloc ?_ _)
          case rest =>
            obtain ⟨i, j, rfl, rfl, hT⟩ := hcut
            clear HC0x1 HZ0x1 HC1x1 HZ1x1 HSB HB1 HTO
            cases r1 : rightB ⟨bl l, bl d⟩
            · rw [r1] at HR1
              clear r1
              obtain ⟨c0, c1⟩ := twoA hT.out.a
              go_wp2_with fail
              refine (HR1.out _).mono ?_
              rintro e w2 ⟨rfl, hb⟩
              have HB2 := Lib.hid (hT.out.below.trans (hb.mono hT.out.below.size))
              clear hb
              go_wp2_with fail
              go_ret
              exact ⟨rfl, HB2.out⟩
            · cases r2 : rightB ⟨bl l2, bl d2⟩
              · rw [r1] at HR1
                rw [r2] at HR2
                clear r1 r2
                obtain ⟨c0, c1⟩ := twoA hT.out.a
                go_wp2_with fail
                refine (HR1.out _).mono ?_
                rintro e w2 ⟨rfl, hb⟩
                have hT2 := Lib.hid (hT.out.on hb)
                clear hb c0 c1
                obtain ⟨c0, c1⟩ := twoA hT2.out.b
                go_wp2_with fail
                refine (HR2.out _).mono ?_
                rintro e w3 ⟨rfl, hb⟩
                have HB3 := Lib.hid (hT2.out.below.trans (hb.mono hT2.out.below.size))
                clear hb
                go_wp2_with fail
                go_ret
                exact ⟨rfl, HB3.out⟩
              · have hk := keys_iff ((rightB_iff _).1 r1) ((rightB_iff _).1 r2)
                rw [r1] at HR1
                rw [r2] at HR2
                have HK1 := Lib.hid (fun W => key_any l d W (by omega) (by omega))
                have HK2 := Lib.hid (fun W => key_any l2 d2 W (by omega) (by omega))
                have HF1 := Lib.hid (fun W => foldX_any l W (by omega))
                have HF2 := Lib.hid (fun W => foldX_any l2 W (by omega))
                have e1 := str_eq (ba (keyL ⟨bl l, bl d⟩)) (ba (keyL ⟨bl l2, bl d2⟩))
                have e2 := str_eq d d2
                have e3 := str_eq (ba (foldL (bl l))) (ba (foldL (bl l2)))
                have e4 : decide (ba (keyL ⟨bl l, bl d⟩) = ba (keyL ⟨bl l2, bl d2⟩)) = (decide (d = d2) && decide (ba (foldL (bl l)) = ba (foldL (bl l2)))) := by
                  have g1 : ba (keyL ⟨bl l, bl d⟩) = ba (keyL ⟨bl l2, bl d2⟩) ↔ keyL ⟨bl l, bl d⟩ = keyL ⟨bl l2, bl d2⟩ := ba_inj
                  have g2 : ba (foldL (bl l)) = ba (foldL (bl l2)) ↔ foldL (bl l) = foldL (bl l2) := ba_inj
                  rw [Bool.eq_iff_iff, Bool.and_eq_true, decide_eq_true_eq, decide_eq_true_eq, decide_eq_true_eq, g1, g2, hk]
                  exact ⟨fun h => ⟨bl_inj h.1, h.2⟩, fun h => ⟨congrArg bl h.1, h.2⟩⟩
                rw [e4] at e1
                clear hk r1 r2 e4
                generalize decide (d = d2) = B2 at *
                generalize decide (ba (foldL (bl l)) = ba (foldL (bl l2))) = B3 at *
                generalize ba (keyL ⟨bl l, bl d⟩) = k1 at *
                generalize ba (keyL ⟨bl l2, bl d2⟩) = k2 at *
                generalize ba (foldL (bl l)) = f1 at *
                generalize ba (foldL (bl l2)) = f2 at *
                obtain ⟨c0, c1⟩ := twoA hT.out.a
                go_wp2_with fail
                refine (HR1.out _).mono ?_
                rintro e w2 ⟨rfl, hb⟩
                have hT2 := Lib.hid (hT.out.on hb)
                clear hb c0 c1
                obtain ⟨c0, c1⟩ := twoA hT2.out.b
                go_wp2_with fail
                refine (HR2.out _).mono ?_
                rintro e w3 ⟨rfl, hb⟩
                have hT3 := Lib.hid (hT2.out.on hb)
                clear hb c0 c1
                have HK1k : Hid (∀ W, Kept w3 W → Calls Tryd.prog 19 #[.agg (cellsA l d).toArray] W fun e W' => e = .returned (.string k1) ∧ Kept w3 W') := Lib.hid fun W hW => (HK1.out W).mono fun e W' he => ⟨he.1, hW.below.trans (he.2.mono hW.below.size)⟩
                have HK2k : Hid (∀ W, Kept w3 W → Calls Tryd.prog 19 #[.agg (cellsA l2 d2).toArray] W fun e W' => e = .returned (.string k2) ∧ Kept w3 W') := Lib.hid fun W hW => (HK2.out W).mono fun e W' he => ⟨he.1, hW.below.trans (he.2.mono hW.below.size)⟩
                have HF1k : Hid (∀ W, Kept w3 W → Calls Tryd.prog 25 #[.string l] W fun e W' => e = .returned (.string f1) ∧ Kept w3 W') := Lib.hid fun W hW => (HF1.out W).mono fun e W' he => ⟨he.1, hW.below.trans (he.2.mono hW.below.size)⟩
                have HF2k : Hid (∀ W, Kept w3 W → Calls Tryd.prog 25 #[.string l2] W fun e W' => e = .returned (.string f2) ∧ Kept w3 W') := Lib.hid fun W hW => (HF2.out W).mono fun e W' he => ⟨he.1, hW.below.trans (he.2.mono hW.below.size)⟩
                clear HK1 HK2 HF1 HF2
                go_wp2_with fail
                cases B2 <;> cases B3
                all_goals
                  refine wp_region_kept (by kernel_rfl) (by kernel_rfl) ?_
                  repeat (first
                    | (go_big_quiet_want
                       first
                         | refine quiet_load_row adT (.tmp 5) rfl i 0 rfl (cellsA l d) _ (fun w' hk => range_below hT3.out.a hT3.out.ai hk) Tryd.underlying24 rfl sizeA ?_
                         | refine quiet_load_row adT (.tmp 6) rfl j 0 rfl (cellsA l2 d2) _ (fun w' hk => range_below hT3.out.b hT3.out.bj hk) Tryd.underlying24 rfl sizeA ?_
                         | refine quiet_load_str 9 (.tmp 48) rfl ⟨i, 0 + 1, none⟩ rfl (.string d) (fun w' hk => (twoA (range_below hT3.out.a hT3.out.ai hk)).2) Tryd.underlying9 ?_
                         | refine quiet_load_str 9 (.tmp 50) rfl ⟨j, 0 + 1, none⟩ rfl (.string d2) (fun w' hk => (twoA (range_below hT3.out.b hT3.out.bj hk)).2) Tryd.underlying9 ?_
                         | refine quiet_load_str 9 (.tmp 54) rfl ⟨i, 0, none⟩ rfl (.string l) (fun w' hk => (twoA (range_below hT3.out.a hT3.out.ai hk)).1) Tryd.underlying9 ?_
                         | refine quiet_load_str 9 (.tmp 57) rfl ⟨j, 0, none⟩ rfl (.string l2) (fun w' hk => (twoA (range_below hT3.out.b hT3.out.bj hk)).1) Tryd.underlying9 ?_
                       go_simp
                       go_big_quiet_on)
                    | (go_big_quiet_step ((first | (exact fun _ => rfl) | (intro hk; go_at_call 25; (with_reducible exact (HF1k.out _ hk))) | (intro hk; go_at_call 25; (with_reducible exact (HF2k.out _ hk))) | (intro hk; go_at_call 19; (with_reducible exact (HK1k.out _ hk))) | (intro hk; go_at_call 19; (with_reducible exact (HK2k.out _ hk)))))))
                  refine wpQuiet_nil ?_
                  intro W2 hk2
                  have HBK := Lib.hid (hT3.out.below.trans (hk2.below.mono hT3.out.below.size))
                  clear hk2
                  go_wp2_with fail
                  go_ret
                  first
                    | exact ⟨rfl, HBK.out⟩
                    | exact ⟨by simp_all, HBK.out⟩
        · have hd4 : decide ((500 : Int) < (d2.size : Int)) = true := decide_eq_true (by omega)
          have hw1 : (w.alloc (boxA arT l d)).heap.size = w.heap.size + 1 := by simp
          have hw2 : ((w.alloc (boxA arT l d)).alloc (boxA arT l2 d2)).heap.size = w.heap.size + 1 + 1 := by simp
          have HC0x0 := Lib.hid (range_below (new_boxA w arT l d) (by simp) ((Below.refl _ _).alloc (Nat.le_refl _) (boxA arT l2 d2)))
          have HZ0x0 : Hid (w.heap.size < ((w.alloc (boxA arT l d)).alloc (boxA arT l2 d2)).heap.size) := Lib.hid (by rw [hw2]; omega)
          have HC1x0 : Hid (((w.alloc (boxA arT l d)).alloc (boxA arT l2 d2)).rangeAt (w.heap.size + 1) 0 (cellsA l2 d2)) := Lib.hid (by
            have h := new_boxA (w.alloc (boxA arT l d)) arT l2 d2
            rwa [hw1] at h)
          have HZ1x0 : Hid (w.heap.size + 1 < ((w.alloc (boxA arT l d)).alloc (boxA arT l2 d2)).heap.size) := Lib.hid (by rw [hw2]; omega)
          have HB0 : Hid (Below w.heap.size w ((w.alloc (boxA arT l d)).alloc (boxA arT l2 d2))) := Lib.hid (((Below.refl _ _).alloc (Nat.le_refl _) _).alloc (by rw [hw1]; omega) _)
          clear hw1 hw2
          go_enter Tryd.func7, Tryd.ntmps7
          go_wp2_with fail
          refine (HW.out _).mono ?_
          rintro e w1 ⟨rfl, hb⟩
          have hbb := hb
          have HB1 := Lib.hid (HB0.out.trans (hbb.mono HB0.out.size))
          have HC0x1 := Lib.hid (range_below HC0x0.out HZ0x0.out hbb)
          have HZ0x1 := Lib.hid (Nat.lt_of_lt_of_le HZ0x0.out hbb.size)
          have HC1x1 := Lib.hid (range_below HC1x0.out HZ1x0.out hbb)
          have HZ1x1 := Lib.hid (Nat.lt_of_lt_of_le HZ1x0.out hbb.size)
          clear hb hbb
          obtain ⟨a00, a01⟩ := twoA HC0x1.out
          obtain ⟨a10, a11⟩ := twoA HC1x1.out
          go_wp2_with fail
          go_ret
          exact ⟨rfl, HB1.out⟩
      · have hd3 : decide ((500 : Int) < (l2.size : Int)) = true := decide_eq_true (by omega)
        have hw1 : (w.alloc (boxA arT l d)).heap.size = w.heap.size + 1 := by simp
        have hw2 : ((w.alloc (boxA arT l d)).alloc (boxA arT l2 d2)).heap.size = w.heap.size + 1 + 1 := by simp
        have HC0x0 := Lib.hid (range_below (new_boxA w arT l d) (by simp) ((Below.refl _ _).alloc (Nat.le_refl _) (boxA arT l2 d2)))
        have HZ0x0 : Hid (w.heap.size < ((w.alloc (boxA arT l d)).alloc (boxA arT l2 d2)).heap.size) := Lib.hid (by rw [hw2]; omega)
        have HC1x0 : Hid (((w.alloc (boxA arT l d)).alloc (boxA arT l2 d2)).rangeAt (w.heap.size + 1) 0 (cellsA l2 d2)) := Lib.hid (by
          have h := new_boxA (w.alloc (boxA arT l d)) arT l2 d2
          rwa [hw1] at h)
        have HZ1x0 : Hid (w.heap.size + 1 < ((w.alloc (boxA arT l d)).alloc (boxA arT l2 d2)).heap.size) := Lib.hid (by rw [hw2]; omega)
        have HB0 : Hid (Below w.heap.size w ((w.alloc (boxA arT l d)).alloc (boxA arT l2 d2))) := Lib.hid (((Below.refl _ _).alloc (Nat.le_refl _) _).alloc (by rw [hw1]; omega) _)
        clear hw1 hw2
        go_enter Tryd.func7, Tryd.ntmps7
        go_wp2_with fail
        refine (HW.out _).mono ?_
        rintro e w1 ⟨rfl, hb⟩
        have hbb := hb
        have HB1 := Lib.hid (HB0.out.trans (hbb.mono HB0.out.size))
        have HC0x1 := Lib.hid (range_below HC0x0.out HZ0x0.out hbb)
        have HZ0x1 := Lib.hid (Nat.lt_of_lt_of_le HZ0x0.out hbb.size)
        have HC1x1 := Lib.hid (range_below HC1x0.out HZ1x0.out hbb)
        have HZ1x1 := Lib.hid (Nat.lt_of_lt_of_le HZ1x0.out hbb.size)
        clear hb hbb
        obtain ⟨a00, a01⟩ := twoA HC0x1.out
        obtain ⟨a10, a11⟩ := twoA HC1x1.out
        go_wp2_with fail
        go_ret
        exact ⟨rfl, HB1.out⟩
    · have hd2 : decide ((500 : Int) < (d.size : Int)) = true := decide_eq_true (by omega)
      have hw1 : (w.alloc (boxA arT l d)).heap.size = w.heap.size + 1 := by simp
      have hw2 : ((w.alloc (boxA arT l d)).alloc (boxA arT l2 d2)).heap.size = w.heap.size + 1 + 1 := by simp
      have HC0x0 := Lib.hid (range_below (new_boxA w arT l d) (by simp) ((Below.refl _ _).alloc (Nat.le_refl _) (boxA arT l2 d2)))
      have HZ0x0 : Hid (w.heap.size < ((w.alloc (boxA arT l d)).alloc (boxA arT l2 d2)).heap.size) := Lib.hid (by rw [hw2]; omega)
      have HC1x0 : Hid (((w.alloc (boxA arT l d)).alloc (boxA arT l2 d2)).rangeAt (w.heap.size + 1) 0 (cellsA l2 d2)) := Lib.hid (by
        have h := new_boxA (w.alloc (boxA arT l d)) arT l2 d2
        rwa [hw1] at h)
      have HZ1x0 : Hid (w.heap.size + 1 < ((w.alloc (boxA arT l d)).alloc (boxA arT l2 d2)).heap.size) := Lib.hid (by rw [hw2]; omega)
      have HB0 : Hid (Below w.heap.size w ((w.alloc (boxA arT l d)).alloc (boxA arT l2 d2))) := Lib.hid (((Below.refl _ _).alloc (Nat.le_refl _) _).alloc (by rw [hw1]; omega) _)
      clear hw1 hw2
      go_enter Tryd.func7, Tryd.ntmps7
      go_wp2_with fail
      refine (HW.out _).mono ?_
      rintro e w1 ⟨rfl, hb⟩
      have hbb := hb
      have HB1 := Lib.hid (HB0.out.trans (hbb.mono HB0.out.size))
      have HC0x1 := Lib.hid (range_below HC0x0.out HZ0x0.out hbb)
      have HZ0x1 := Lib.hid (Nat.lt_of_lt_of_le HZ0x0.out hbb.size)
      have HC1x1 := Lib.hid (range_below HC1x0.out HZ1x0.out hbb)
      have HZ1x1 := Lib.hid (Nat.lt_of_lt_of_le HZ1x0.out hbb.size)
      clear hb hbb
      obtain ⟨a00, a01⟩ := twoA HC0x1.out
      obtain ⟨a10, a11⟩ := twoA HC1x1.out
      go_wp2_with fail
      go_ret
      exact ⟨rfl, HB1.out⟩
  · have hd1 : decide ((500 : Int) < (l.size : Int)) = true := decide_eq_true (by omega)
    have hw1 : (w.alloc (boxA arT l d)).heap.size = w.heap.size + 1 := by simp
    have hw2 : ((w.alloc (boxA arT l d)).alloc (boxA arT l2 d2)).heap.size = w.heap.size + 1 + 1 := by simp
    have HC0x0 := Lib.hid (range_below (new_boxA w arT l d) (by simp) ((Below.refl _ _).alloc (Nat.le_refl _) (boxA arT l2 d2)))
    have HZ0x0 : Hid (w.heap.size < ((w.alloc (boxA arT l d)).alloc (boxA arT l2 d2)).heap.size) := Lib.hid (by rw [hw2]; omega)
    have HC1x0 : Hid (((w.alloc (boxA arT l d)).alloc (boxA arT l2 d2)).rangeAt (w.heap.size + 1) 0 (cellsA l2 d2)) := Lib.hid (by
      have h := new_boxA (w.alloc (boxA arT l d)) arT l2 d2
      rwa [hw1] at h)
    have HZ1x0 : Hid (w.heap.size + 1 < ((w.alloc (boxA arT l d)).alloc (boxA arT l2 d2)).heap.size) := Lib.hid (by rw [hw2]; omega)
    have HB0 : Hid (Below w.heap.size w ((w.alloc (boxA arT l d)).alloc (boxA arT l2 d2))) := Lib.hid (((Below.refl _ _).alloc (Nat.le_refl _) _).alloc (by rw [hw1]; omega) _)
    clear hw1 hw2
    go_enter Tryd.func7, Tryd.ntmps7
    go_wp2_with fail
    refine (HW.out _).mono ?_
    rintro e w1 ⟨rfl, hb⟩
    have hbb := hb
    have HB1 := Lib.hid (HB0.out.trans (hbb.mono HB0.out.size))
    have HC0x1 := Lib.hid (range_below HC0x0.out HZ0x0.out hbb)
    have HZ0x1 := Lib.hid (Nat.lt_of_lt_of_le HZ0x0.out hbb.size)
    have HC1x1 := Lib.hid (range_below HC1x0.out HZ1x0.out hbb)
    have HZ1x1 := Lib.hid (Nat.lt_of_lt_of_le HZ1x0.out hbb.size)
    clear hb hbb
    obtain ⟨a00, a01⟩ := twoA HC0x1.out
    obtain ⟨a10, a11⟩ := twoA HC1x1.out
    go_wp2_with fail
    go_ret
    exact ⟨rfl, HB1.out⟩
end Go.Proofs.YtjnadahognmkhaaDoor.Addr
