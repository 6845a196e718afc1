/-
  Walks of the document's answer: Set, one way of four.
-/
import Derived.Test.YtkbeppmjdjddhaaDoorBatchSet
namespace Go.Proofs.YtkbeppmjdjddhaaDoor.Batch
open Go Go.RowKit

set_option maxHeartbeats 8000000 in
theorem set_new_false (v : Value) (q : List Chg) (k v0 : ByteArray) (e : Chg) (w : World) (he : e = ⟨k, v0, false⟩) (h : ReadsC w v q) (hg : Good q) (hk1 : k.size ≤ 9223372036854775807) (hv1 : v0.size ≤ 9223372036854775807) (hc : chk e = 0) (hat : at? Chg.key e.key q = none) (hful : q.length < 2000) :
    Calls Tryd.prog 31 #[v, chV ⟨k, v0, false⟩] w (SetPost w v q e) := by
  have hA : Below w.heap.size w (w.alloc (boxC refT e)) := (Below.refl _ _).alloc (Nat.le_refl _) _
  have HA := Lib.hid hA
  have hez : e.key.size ≤ 9223372036854775807 ∧ e.val.size ≤ 9223372036854775807 := by subst he; exact ⟨hk1, by first | exact hv1 | exact Nat.zero_le _⟩
  have e1 : code q e = 0 := by unfold code; rw [hc, if_neg (by simp), if_neg (by omega)]
  have e2 : made q e = put Chg.key e q := by unfold made; rw [e1, if_pos rfl]
  have HK := Lib.hid (fun W => fits_any e W hez.1 hez.2 0 hc)
  have HF := Lib.hid (fun (W : World) (hW : Below w.heap.size w W) => refFind_any v q e.key W (h.below hW) (by have := hg.few; omega))
  have HR := Lib.hid h
  rw [show tells e.key q = Chg.none by unfold tells; rw [hat], hat] at HF
  have hd1 : decide ((2000 : Int) ≤ (q.length : Int)) = false := decide_eq_false (by omega)
  have hd2 : decide (2000 ≤ q.length) = false := decide_eq_false (by omega)
  have hd3 : (q.length : Int) < 2000 := by omega
  have HE := Lib.hid (And.intro e1 e2)
  have HFEW : Hid (q.length ≤ 2000) := Lib.hid hg.few
  have HRI := Lib.hid hg.rise
  have hend := outs_end Chg.key true e q
  unfold sets at hend
  rw [if_pos rfl] at hend
  have HEND := Lib.hid hend
  clear e1 e2 hg hA hez hk1 hv1 hc hat hend
  subst he
  rcases h with ⟨a, cap, rfl, rfl⟩ | ⟨h0, b, off, cap, rfl, h3, h4⟩
  · go_enter Tryd.func31, Tryd.ntmps31
    go_wp2_with fail
    refine (HK.out _).mono ?_
    rintro r w1 ⟨rfl, hb1⟩
    have HB := Lib.hid (HA.out.trans (hb1.mono HA.out.size))
    have HX := Lib.hid (box_cells (w := w) (e := (⟨k, v0, false⟩ : Chg)) hb1)
    clear hb1
    obtain ⟨b0, b1, b2⟩ := three HX.out
    go_wp2_with fail
    refine (HF.out _ HB.out).mono ?_
    rintro r w2 ⟨rfl, hb2⟩
    have HX2 := Lib.hid (range_below HX.out (by have := HA.out.size; have := HB.out.size; exact block_lt_of_cell b0) hb2)
    have HB2 := Lib.hid (HB.out.trans (hb2.mono HB.out.size))
    clear hb2 b0 b1 b2
    have hw2 : w.heap.size < w2.heap.size := block_lt_of_cell (three HX2.out).1
    have hws : (w2.alloc (boxC refT Chg.none)).heap.size = w2.heap.size + 1 := by simp
    have HWL := Lib.hid (HB2.out.alloc HB2.out.size (boxC refT Chg.none))
    have HXL := Lib.hid (range_below HX2.out hw2 ((Below.refl w2.heap.size w2).alloc (Nat.le_refl _) (boxC refT Chg.none)))
    obtain ⟨b0, b1, b2⟩ := three HXL.out
    simp only [Nat.zero_add] at b1 b2
    obtain ⟨v1, w9, hr1, hh1⟩ := append_ref (w2.alloc (boxC refT Chg.none)) (.slice none 0 0) [] (⟨k, v0, false⟩ : Chg) w.heap.size (World.ownsRow_nil _ _ _ _) (Nat.zero_le _) HWL.out.size
    have HR1 := Lib.hid hr1
    clear hr1
    rw [hws] at HR1
    go_wp2_with fail
    go_loopw [9, 10, 11] (fun ov pv i wr => ov = .slice none 0 0 ∧ pv = .bool false ∧ i = .int .i64 0 ∧ wr = (w2.alloc (boxC refT Chg.none))) (fun _ _ i _ => 0 - (intOf i).toNat)
    case atStart => exact ⟨rfl, rfl, rfl, rfl⟩
    case round =>
      obtain ⟨rfl, rfl, rfl, rfl⟩ := hrel
      go_wp2_with (at_builtin; refine Lib.wpList_append_run _ rfl _ _ _ _ rfl _ _ rfl rfl _ _ HR1.out ?_)
      go_ret2
      exact ⟨_, by rw [HE.out.1]; rfl, by rw [HE.out.2]; exact owns_reads hh1.out.1, HWL.out.trans (hh1.out.2.mono (by omega)), fun k hk => .inr (hh1.out.1.lt k hk)⟩
  · have HC := Lib.hid h4
    clear h4
    go_enter Tryd.func31, Tryd.ntmps31
    go_wp2_with fail
    refine (HK.out _).mono ?_
    rintro r w1 ⟨rfl, hb1⟩
    have HB := Lib.hid (HA.out.trans (hb1.mono HA.out.size))
    have HX := Lib.hid (box_cells (w := w) (e := (⟨k, v0, false⟩ : Chg)) hb1)
    clear hb1
    obtain ⟨b0, b1, b2⟩ := three HX.out
    go_wp2_with fail
    refine (HF.out _ HB.out).mono ?_
    rintro r w2 ⟨rfl, hb2⟩
    have HX2 := Lib.hid (range_below HX.out (by have := HA.out.size; have := HB.out.size; exact block_lt_of_cell b0) hb2)
    have HB2 := Lib.hid (HB.out.trans (hb2.mono HB.out.size))
    clear hb2 b0 b1 b2
    have hw2 : w.heap.size < w2.heap.size := block_lt_of_cell (three HX2.out).1
    have hws : (w2.alloc (boxC refT Chg.none)).heap.size = w2.heap.size + 1 := by simp
    have HWL := Lib.hid (HB2.out.alloc HB2.out.size (boxC refT Chg.none))
    have HXL := Lib.hid (range_below HX2.out hw2 ((Below.refl w2.heap.size w2).alloc (Nat.le_refl _) (boxC refT Chg.none)))
    obtain ⟨b0, b1, b2⟩ := three HXL.out
    simp only [Nat.zero_add] at b1 b2
    have hbl2 : b < w2.heap.size := Nat.lt_of_lt_of_le h3 HB2.out.size
    have HCL := Lib.hid (fun (W : World) (hW : Below (w2.alloc (boxC refT Chg.none)).heap.size (w2.alloc (boxC refT Chg.none)) W) (k : Nat) (x : Chg) (hx : q[k]? = some x) => three (range_below (range_below (HC.out k x hx) h3 HWL.out) (by omega) hW))
    have HXW := Lib.hid (fun (W : World) (hW : Below (w2.alloc (boxC refT Chg.none)).heap.size (w2.alloc (boxC refT Chg.none)) W) => three (range_below HXL.out (by omega) hW))
    clear h3 hbl2
    go_wp2_with fail
    clear b0 b1 b2
    go_loopw [9, 10, 11] (fun ov pv i wr => SetAt (w2.alloc (boxC refT Chg.none)) q (⟨k, v0, false⟩ : Chg) ov pv i wr) (fun _ _ i _ => q.length - (intOf i).toNat)
    case atStart => exact ⟨0, _, Nat.zero_le _, rfl, rfl, rfl, by rw [List.take_zero, outs_nil]; exact World.ownsRow_nil _ _ _ _, Below.refl _ _⟩
    case round =>
      obtain ⟨k1, ov, hk, rfl, rfl, rfl, hO, hb⟩ := hrel
      have HO := Lib.hid hO
      have hln := outs_length Chg.key true (⟨k, v0, false⟩ : Chg) (q.take k1)
      have HLN : Hid ((outs Chg.key true (⟨k, v0, false⟩ : Chg) (q.take k1)).length ≤ 2001) := by have := HFEW.out; rw [List.length_take] at hln; exact Lib.hid (by omega)
      have hbs := hb.size
      rw [hws] at hbs
      have HBB := Lib.hid hb
      clear hln hO hb
      by_cases hlt : k1 < q.length
      · obtain ⟨x, hkx⟩ : ∃ x, q[k1]? = some x := ⟨q[k1], List.getElem?_eq_getElem hlt⟩
        have HX1 := Lib.hid hkx
        have HCK := Lib.hid (fun (W : World) (hW : Below (w2.alloc (boxC refT Chg.none)).heap.size (w2.alloc (boxC refT Chg.none)) W) => HCL.out W hW k1 x hkx)
        have hle := less_toList x.key k
        have hee := key_eq x.key k
        clear hkx
        obtain ⟨b0, b1, b2⟩ := HXW.out wr HBB.out
        obtain ⟨c0, c1, c2⟩ := HCK.out wr HBB.out
        simp only [Nat.zero_add] at b1 b2
        cases hfl : flag Chg.key true (⟨k, v0, false⟩ : Chg) (q.take k1)
        · cases hlb : less x.key k
          · rw [hlb] at hle
            go_wp2_with fail
            go_quiet (fail)
            obtain ⟨v1, w3, hr1, hh1⟩ := append_ref (wr.drewN nq) ov _ (⟨k, v0, false⟩ : Chg) _ HO.out (by have := HLN.out; omega) (by simp; omega)
            have HR1 := Lib.hid hr1
            clear hr1
            go_wp2_with (at_builtin; refine Lib.wpList_append_run _ rfl _ _ _ _ rfl _ _ rfl rfl _ _ HR1.out ?_)
            have hB1 : Below (w2.alloc (boxC refT Chg.none)).heap.size (w2.alloc (boxC refT Chg.none)) w3 := (below_drewN HBB.out nq).trans hh1.out.2
            have hs1 := hB1.size
            have HB1 := Lib.hid hB1
            clear hB1 b0 b1 b2 c0 c1 c2
            obtain ⟨b0, b1, b2⟩ := HXW.out w3 HB1.out
            obtain ⟨c0, c1, c2⟩ := HCK.out w3 HB1.out
            simp only [Nat.zero_add] at b1 b2
            by_cases he : x.key = k
            · have hne : (x.key.toList == k.toList) = true := by rw [hee]; exact decide_eq_true he
              go_quiet (fail)
              go_wp2_with fail
              go_roundw
              case rel =>
                refine SetAt_step (fl := false) (lb := false) (L := outs Chg.key true (⟨k, v0, false⟩ : Chg) (q.take k1) ++ [(⟨k, v0, false⟩ : Chg)]) HX1.out HRI.out hfl hlb ?_ ?_ ?_ ?_
                · rw [if_pos he]; simp
                · rfl
                · exact hh1.out.1
                · exact below_drewN (HB1.out) _
              case measure => simp [intOf]; omega
            · have hne : (x.key.toList == k.toList) = false := by rw [hee]; exact decide_eq_false he
              go_quiet (fail)
              obtain ⟨v2, w4, hr2, hh2⟩ := append_ref (w3.drewN nq) v1 (outs Chg.key true (⟨k, v0, false⟩ : Chg) (q.take k1) ++ [(⟨k, v0, false⟩ : Chg)]) x (w2.alloc (boxC refT Chg.none)).heap.size (hh1.out.1) (by have := HLN.out; simp; omega) (by simpa using hs1)
              have HR2 := Lib.hid hr2
              clear hr2
              go_wp2_with (at_builtin; refine Lib.wpList_append_run _ rfl _ _ _ _ rfl _ _ rfl rfl _ _ HR2.out ?_)
              go_roundw
              case rel =>
                refine SetAt_step (fl := false) (lb := false) (L := outs Chg.key true (⟨k, v0, false⟩ : Chg) (q.take k1) ++ [(⟨k, v0, false⟩ : Chg)] ++ [x]) HX1.out HRI.out hfl hlb ?_ ?_ ?_ ?_
                · rw [if_neg he]; simp
                · rfl
                · exact hh2.out.1
                · exact (below_drewN (HB1.out) _).trans hh2.out.2
              case measure => simp [intOf]; omega
          · rw [hlb] at hle
            have hxe : x.key ≠ k := fun h => by rw [h, less_irrefl] at hlb; cases hlb
            go_wp2_with fail
            go_quiet (fail)
            revert nq
            intro n1
            go_wp2_with fail
            have hne : (x.key.toList == k.toList) = false := by rw [hee]; exact decide_eq_false hxe
            go_quiet (fail)
            obtain ⟨v2, w3, hr2, hh2⟩ := append_ref (wr.drewN (n1 + nq)) ov (outs Chg.key true (⟨k, v0, false⟩ : Chg) (q.take k1)) x (w2.alloc (boxC refT Chg.none)).heap.size HO.out (by have := HLN.out; omega) (by simp; omega)
            have HR2 := Lib.hid hr2
            clear hr2
            go_wp2_with (at_builtin; refine Lib.wpList_append_run _ rfl _ _ _ _ rfl _ _ rfl rfl _ _ HR2.out ?_)
            go_roundw
            case rel =>
              refine SetAt_step (fl := false) (lb := true) (L := outs Chg.key true (⟨k, v0, false⟩ : Chg) (q.take k1) ++ [x]) HX1.out HRI.out hfl hlb ?_ ?_ ?_ ?_
              · rw [if_neg hxe]; simp
              · rfl
              · exact hh2.out.1
              · exact (below_drewN HBB.out _).trans hh2.out.2
            case measure => simp [intOf]; omega
        · clear hle
          go_wp2_with fail
          go_quiet (fail)
          revert nq
          intro n1
          go_wp2_with fail
          by_cases he : x.key = k
          · have hne : (x.key.toList == k.toList) = true := by rw [hee]; exact decide_eq_true he
            go_quiet (fail)
            go_wp2_with fail
            go_roundw
            case rel =>
              refine SetAt_step (fl := true) (lb := less x.key k) (L := outs Chg.key true (⟨k, v0, false⟩ : Chg) (q.take k1)) HX1.out HRI.out hfl rfl ?_ ?_ ?_ ?_
              · rw [if_pos he]; simp
              · rfl
              · exact HO.out
              · exact below_drewN (HBB.out) _
            case measure => simp [intOf]; omega
          · have hne : (x.key.toList == k.toList) = false := by rw [hee]; exact decide_eq_false he
            go_quiet (fail)
            obtain ⟨v2, w3, hr2, hh2⟩ := append_ref (wr.drewN (n1 + nq)) ov (outs Chg.key true (⟨k, v0, false⟩ : Chg) (q.take k1)) x (w2.alloc (boxC refT Chg.none)).heap.size (HO.out) (by have := HLN.out; omega) (by simpa using (show w2.heap.size + 1 ≤ wr.heap.size from hbs))
            have HR2 := Lib.hid hr2
            clear hr2
            go_wp2_with (at_builtin; refine Lib.wpList_append_run _ rfl _ _ _ _ rfl _ _ rfl rfl _ _ HR2.out ?_)
            go_roundw
            case rel =>
              refine SetAt_step (fl := true) (lb := less x.key k) (L := outs Chg.key true (⟨k, v0, false⟩ : Chg) (q.take k1) ++ [x]) HX1.out HRI.out hfl rfl ?_ ?_ ?_ ?_
              · rw [if_neg he]; simp
              · rfl
              · exact hh2.out.1
              · exact (below_drewN (HBB.out) _).trans hh2.out.2
            case measure => simp [intOf]; omega
      · have htk : q.take k1 = q := List.take_of_length_le (by omega)
        rw [htk] at HO HLN ⊢
        have HOO := Lib.hid (ownsRow_base_a HO.out (base' := w.heap.size) (by omega))
        have hsw : w.heap.size ≤ wr.heap.size := by omega
        obtain ⟨b0, b1, b2⟩ := HXW.out wr HBB.out
        simp only [Nat.zero_add] at b1 b2
        cases hfl : flag Chg.key true (⟨k, v0, false⟩ : Chg) q
        · obtain ⟨v1, w3, hr1, hh1⟩ := append_ref wr ov _ (⟨k, v0, false⟩ : Chg) w.heap.size HOO.out (by have := HLN.out; omega) hsw
          have HR1 := Lib.hid hr1
          clear hr1
          go_wp2_with (at_builtin; refine Lib.wpList_append_run _ rfl _ _ _ _ rfl _ _ rfl rfl _ _ HR1.out ?_)
          go_ret2
          refine ⟨_, by rw [HE.out.1]; rfl, ?_, (HWL.out.trans (HBB.out.mono (by omega))).trans hh1.out.2, fun k hk => .inr (hh1.out.1.lt k hk)⟩
          rw [HE.out.2, HEND.out, hfl]
          exact owns_reads hh1.out.1
        · go_wp2_with fail
          go_ret2
          refine ⟨_, by rw [HE.out.1]; rfl, ?_, HWL.out.trans (HBB.out.mono (by omega)), fun k hk => .inr (HOO.out.lt k hk)⟩
          rw [HE.out.2, HEND.out, hfl]
          exact owns_reads HOO.out
end Go.Proofs.YtkbeppmjdjddhaaDoor.Batch
