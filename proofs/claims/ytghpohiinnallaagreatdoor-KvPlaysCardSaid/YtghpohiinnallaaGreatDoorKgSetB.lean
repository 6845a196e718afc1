/-
  The document's batch, second part; Make.
-/
import Derived.Test.YtghpohiinnallaaGreatDoorKgSetA
import Derived.Test.YtghpohiinnallaaGreatDoorKgBatchA

/-
  Walks of the document's answer: Set, one way of four.
-/
namespace Go.Proofs.YtghpohiinnallaaGreatDoor.Batch
open Go Go.RowKit

set_option maxHeartbeats 8000000 in
theorem set_old_true (v : Value) (q : List Chg) (k v0 : ByteArray) (e : Chg) (w : World) (he : e = ⟨k, ⟨#[]⟩, true⟩) (h : ReadsC w v q) (hg : Good q) (hk1 : k.size ≤ 9223372036854775807) (_hv1 : v0.size ≤ 9223372036854775807) (hc : chk e = 0) (y : Chg) (hat : at? Chg.key e.key q = some y) :
    Calls Tryz.prog 58 #[v, chV ⟨k, v0, true⟩] w (SetPost w v q e) := by
  have hA : Below w.heap.size w (w.alloc (boxC refT e)) := (Below.refl _ _).alloc (Nat.le_refl _) _
  have HA := Lib.hid hA
  have hez : e.key.size ≤ 9223372036854775807 ∧ e.val.size ≤ 9223372036854775807 := by subst he; exact ⟨hk1, Nat.zero_le _⟩
  have e1 : code q e = 0 := by unfold code; rw [hc, if_neg (by simp), if_neg (by rw [hat]; simp)]
  have hq0 : q ≠ [] := by rintro rfl; cases hat
  have e2 : made q e = put Chg.key e q := by unfold made; rw [e1, if_pos rfl]
  have HK := Lib.hid (fun W => fits_any e W hez.1 hez.2 0 hc)
  have HF := Lib.hid (fun (W : World) (hW : Below w.heap.size w W) => refFind_any v q e.key W (h.below hW) (by have := hg.few; omega))
  have HR := Lib.hid h
  rw [show tells e.key q = y by unfold tells; rw [hat], hat] at HF
  have HE := Lib.hid (And.intro e1 e2)
  have HFEW : Hid (q.length ≤ 2000) := Lib.hid hg.few
  have HRI := Lib.hid hg.rise
  have hend := outs_end Chg.key true e q
  unfold sets at hend
  rw [if_pos rfl] at hend
  have HEND := Lib.hid hend
  clear e1 e2 hg hA hez hk1 _hv1 hc hat hend
  subst he
  rcases h with ⟨a, cap, rfl, rfl⟩ | ⟨h0, b, off, cap, rfl, h3, h4⟩
  · exact absurd rfl hq0
  · have HC := Lib.hid h4
    clear h4
    go_enter Tryz.func58, Tryz.ntmps58
    go_wp2_with fail
    refine (HK.out _).mono ?_
    rintro r w1 ⟨rfl, hb1⟩
    have HB := Lib.hid (HA.out.trans (hb1.mono HA.out.size))
    have HX := Lib.hid (box_cells (w := w) (e := (⟨k, ⟨#[]⟩, true⟩ : Chg)) hb1)
    clear hb1
    obtain ⟨b0, b1, b2⟩ := three HX.out
    go_wp2_with fail
    refine (HF.out _ HB.out).mono ?_
    rintro r w2 ⟨rfl, hb2⟩
    have HX2 := Lib.hid (range_below HX.out (by have := HA.out.size; have := HB.out.size; exact block_lt_of_cell b0) hb2)
    have HB2 := Lib.hid (HB.out.trans (hb2.mono HB.out.size))
    clear hb2 b0 b1 b2
    have hw2 : w.heap.size < w2.heap.size := block_lt_of_cell (three HX2.out).1
    have hws : (w2.alloc (boxC refT y)).heap.size = w2.heap.size + 1 := by simp
    have HWL := Lib.hid (HB2.out.alloc HB2.out.size (boxC refT y))
    have HXL := Lib.hid (range_below HX2.out hw2 ((Below.refl w2.heap.size w2).alloc (Nat.le_refl _) (boxC refT y)))
    obtain ⟨b0, b1, b2⟩ := three HXL.out
    simp only [Nat.zero_add] at b1 b2
    have hbl2 : b < w2.heap.size := Nat.lt_of_lt_of_le h3 HB2.out.size
    have HCL := Lib.hid (fun (W : World) (hW : Below (w2.alloc (boxC refT y)).heap.size (w2.alloc (boxC refT y)) W) (k : Nat) (x : Chg) (hx : q[k]? = some x) => three (range_below (range_below (HC.out k x hx) h3 HWL.out) (by omega) hW))
    have HXW := Lib.hid (fun (W : World) (hW : Below (w2.alloc (boxC refT y)).heap.size (w2.alloc (boxC refT y)) W) => three (range_below HXL.out (by omega) hW))
    clear h3 hbl2
    go_wp2_with fail
    clear b0 b1 b2
    go_loopw [9, 10, 11] (fun ov pv i wr => SetAt (w2.alloc (boxC refT y)) q (⟨k, ⟨#[]⟩, true⟩ : Chg) ov pv i wr) (fun _ _ i _ => q.length - (intOf i).toNat)
    case atStart => exact ⟨0, _, Nat.zero_le _, rfl, rfl, rfl, by rw [List.take_zero, outs_nil]; exact World.ownsRow_nil _ _ _ _, Below.refl _ _⟩
    case round =>
      obtain ⟨k1, ov, hk, rfl, rfl, rfl, hO, hb⟩ := hrel
      have HO := Lib.hid hO
      have hln := outs_length Chg.key true (⟨k, ⟨#[]⟩, true⟩ : Chg) (q.take k1)
      have HLN : Hid ((outs Chg.key true (⟨k, ⟨#[]⟩, true⟩ : Chg) (q.take k1)).length ≤ 2001) := by have := HFEW.out; rw [List.length_take] at hln; exact Lib.hid (by omega)
      have hbs := hb.size
      rw [hws] at hbs
      have HBB := Lib.hid hb
      have hq2 : q.length ≤ 2000 := HFEW.out
      clear hln hO hb
      by_cases hlt : k1 < q.length
      · obtain ⟨x, hkx⟩ : ∃ x, q[k1]? = some x := ⟨q[k1], List.getElem?_eq_getElem hlt⟩
        have HX1 := Lib.hid hkx
        have HCK := Lib.hid (fun (W : World) (hW : Below (w2.alloc (boxC refT y)).heap.size (w2.alloc (boxC refT y)) W) => HCL.out W hW k1 x hkx)
        have hle := less_toList x.key k
        have hee := key_eq x.key k
        clear hkx
        obtain ⟨b0, b1, b2⟩ := HXW.out wr HBB.out
        obtain ⟨c0, c1, c2⟩ := HCK.out wr HBB.out
        simp only [Nat.zero_add] at b1 b2
        cases hfl : flag Chg.key true (⟨k, ⟨#[]⟩, true⟩ : Chg) (q.take k1)
        · cases hlb : less x.key k
          · rw [hlb] at hle
            go_wp2_with fail
            go_quiet (fail)
            obtain ⟨v1, w3, hr1, hh1⟩ := append_ref (wr.drewN nq) ov _ (⟨k, ⟨#[]⟩, true⟩ : Chg) _ HO.out (by have := HLN.out; omega) (by simp; omega)
            have HR1 := Lib.hid hr1
            clear hr1
            go_wp2_with (at_builtin; refine Lib.wpList_append_run _ rfl _ _ _ _ rfl _ _ rfl rfl _ _ HR1.out ?_)
            have hB1 : Below (w2.alloc (boxC refT y)).heap.size (w2.alloc (boxC refT y)) w3 := (below_drewN HBB.out nq).trans hh1.out.2
            have hs1 := hB1.size
            have HB1 := Lib.hid hB1
            clear hB1 b0 b1 b2 c0 c1 c2
            obtain ⟨b0, b1, b2⟩ := HXW.out w3 HB1.out
            obtain ⟨c0, c1, c2⟩ := HCK.out w3 HB1.out
            simp only [Nat.zero_add] at b1 b2
            by_cases he : x.key = k
            · have hne : (x.key.toList == k.toList) = true := by rw [hee]; exact decide_eq_true he
              go_quiet (fail)
              go_wp2_with fail
              go_roundw
              case rel =>
                refine SetAt_step (fl := false) (lb := false) (L := outs Chg.key true (⟨k, ⟨#[]⟩, true⟩ : Chg) (q.take k1) ++ [(⟨k, ⟨#[]⟩, true⟩ : Chg)]) HX1.out HRI.out hfl hlb ?_ ?_ ?_ ?_
                · rw [if_pos he]; simp
                · rfl
                · exact hh1.out.1
                · exact below_drewN (HB1.out) _
              case measure => simp [intOf]; omega
            · have hne : (x.key.toList == k.toList) = false := by rw [hee]; exact decide_eq_false he
              go_quiet (fail)
              obtain ⟨v2, w4, hr2, hh2⟩ := append_ref (w3.drewN nq) v1 (outs Chg.key true (⟨k, ⟨#[]⟩, true⟩ : Chg) (q.take k1) ++ [(⟨k, ⟨#[]⟩, true⟩ : Chg)]) x (w2.alloc (boxC refT y)).heap.size (hh1.out.1) (by have := HLN.out; simp; omega) (by simpa using hs1)
              have HR2 := Lib.hid hr2
              clear hr2
              go_wp2_with (at_builtin; refine Lib.wpList_append_run _ rfl _ _ _ _ rfl _ _ rfl rfl _ _ HR2.out ?_)
              go_roundw
              case rel =>
                refine SetAt_step (fl := false) (lb := false) (L := outs Chg.key true (⟨k, ⟨#[]⟩, true⟩ : Chg) (q.take k1) ++ [(⟨k, ⟨#[]⟩, true⟩ : Chg)] ++ [x]) HX1.out HRI.out hfl hlb ?_ ?_ ?_ ?_
                · rw [if_neg he]; simp
                · rfl
                · exact hh2.out.1
                · exact (below_drewN (HB1.out) _).trans hh2.out.2
              case measure => simp [intOf]; omega
          · rw [hlb] at hle
            have hxe : x.key ≠ k := fun h => by rw [h, less_irrefl] at hlb; cases hlb
            go_wp2_with fail
            go_quiet (fail)
            revert nq
            intro n1
            go_wp2_with fail
            have hne : (x.key.toList == k.toList) = false := by rw [hee]; exact decide_eq_false hxe
            go_quiet (fail)
            obtain ⟨v2, w3, hr2, hh2⟩ := append_ref (wr.drewN (n1 + nq)) ov (outs Chg.key true (⟨k, ⟨#[]⟩, true⟩ : Chg) (q.take k1)) x (w2.alloc (boxC refT y)).heap.size HO.out (by have := HLN.out; omega) (by simp; omega)
            have HR2 := Lib.hid hr2
            clear hr2
            go_wp2_with (at_builtin; refine Lib.wpList_append_run _ rfl _ _ _ _ rfl _ _ rfl rfl _ _ HR2.out ?_)
            go_roundw
            case rel =>
              refine SetAt_step (fl := false) (lb := true) (L := outs Chg.key true (⟨k, ⟨#[]⟩, true⟩ : Chg) (q.take k1) ++ [x]) HX1.out HRI.out hfl hlb ?_ ?_ ?_ ?_
              · rw [if_neg hxe]; simp
              · rfl
              · exact hh2.out.1
              · exact (below_drewN HBB.out _).trans hh2.out.2
            case measure => simp [intOf]; omega
        · clear hle
          go_wp2_with fail
          go_quiet (fail)
          revert nq
          intro n1
          go_wp2_with fail
          by_cases he : x.key = k
          · have hne : (x.key.toList == k.toList) = true := by rw [hee]; exact decide_eq_true he
            go_quiet (fail)
            go_wp2_with fail
            go_roundw
            case rel =>
              refine SetAt_step (fl := true) (lb := less x.key k) (L := outs Chg.key true (⟨k, ⟨#[]⟩, true⟩ : Chg) (q.take k1)) HX1.out HRI.out hfl rfl ?_ ?_ ?_ ?_
              · rw [if_pos he]; simp
              · rfl
              · exact HO.out
              · exact below_drewN (HBB.out) _
            case measure => simp [intOf]; omega
          · have hne : (x.key.toList == k.toList) = false := by rw [hee]; exact decide_eq_false he
            go_quiet (fail)
            obtain ⟨v2, w3, hr2, hh2⟩ := append_ref (wr.drewN (n1 + nq)) ov (outs Chg.key true (⟨k, ⟨#[]⟩, true⟩ : Chg) (q.take k1)) x (w2.alloc (boxC refT y)).heap.size (HO.out) (by have := HLN.out; omega) (by simpa using (show w2.heap.size + 1 ≤ wr.heap.size from hbs))
            have HR2 := Lib.hid hr2
            clear hr2
            go_wp2_with (at_builtin; refine Lib.wpList_append_run _ rfl _ _ _ _ rfl _ _ rfl rfl _ _ HR2.out ?_)
            go_roundw
            case rel =>
              refine SetAt_step (fl := true) (lb := less x.key k) (L := outs Chg.key true (⟨k, ⟨#[]⟩, true⟩ : Chg) (q.take k1) ++ [x]) HX1.out HRI.out hfl rfl ?_ ?_ ?_ ?_
              · rw [if_neg he]; simp
              · rfl
              · exact hh2.out.1
              · exact (below_drewN (HBB.out) _).trans hh2.out.2
            case measure => simp [intOf]; omega
      · have htk : q.take k1 = q := List.take_of_length_le (by omega)
        rw [htk] at HO HLN ⊢
        have HOO := Lib.hid (ownsRow_base_a HO.out (base' := w.heap.size) (by omega))
        have hsw : w.heap.size ≤ wr.heap.size := by omega
        obtain ⟨b0, b1, b2⟩ := HXW.out wr HBB.out
        simp only [Nat.zero_add] at b1 b2
        cases hfl : flag Chg.key true (⟨k, ⟨#[]⟩, true⟩ : Chg) q
        · obtain ⟨v1, w3, hr1, hh1⟩ := append_ref wr ov _ (⟨k, ⟨#[]⟩, true⟩ : Chg) w.heap.size HOO.out (by have := HLN.out; omega) hsw
          have HR1 := Lib.hid hr1
          clear hr1
          go_wp2_with (at_builtin; refine Lib.wpList_append_run _ rfl _ _ _ _ rfl _ _ rfl rfl _ _ HR1.out ?_)
          go_ret2
          refine ⟨_, by rw [HE.out.1]; rfl, ?_, (HWL.out.trans (HBB.out.mono (by omega))).trans hh1.out.2, fun k hk => .inr (hh1.out.1.lt k hk)⟩
          rw [HE.out.2, HEND.out, hfl]
          exact owns_reads hh1.out.1
        · go_wp2_with fail
          go_ret2
          refine ⟨_, by rw [HE.out.1]; rfl, ?_, HWL.out.trans (HBB.out.mono (by omega)), fun k hk => .inr (HOO.out.lt k hk)⟩
          rw [HE.out.2, HEND.out, hfl]
          exact owns_reads HOO.out
end Go.Proofs.YtghpohiinnallaaGreatDoor.Batch

/-
  Walks of the document's answer: Set, one way of four.
-/
namespace Go.Proofs.YtghpohiinnallaaGreatDoor.Batch
open Go Go.RowKit

set_option maxHeartbeats 8000000 in
theorem set_old_false (v : Value) (q : List Chg) (k v0 : ByteArray) (e : Chg) (w : World) (he : e = ⟨k, v0, false⟩) (h : ReadsC w v q) (hg : Good q) (hk1 : k.size ≤ 9223372036854775807) (hv1 : v0.size ≤ 9223372036854775807) (hc : chk e = 0) (y : Chg) (hat : at? Chg.key e.key q = some y) :
    Calls Tryz.prog 58 #[v, chV ⟨k, v0, false⟩] w (SetPost w v q e) := by
  have hA : Below w.heap.size w (w.alloc (boxC refT e)) := (Below.refl _ _).alloc (Nat.le_refl _) _
  have HA := Lib.hid hA
  have hez : e.key.size ≤ 9223372036854775807 ∧ e.val.size ≤ 9223372036854775807 := by subst he; exact ⟨hk1, by first | exact hv1 | exact Nat.zero_le _⟩
  have e1 : code q e = 0 := by unfold code; rw [hc, if_neg (by simp), if_neg (by rw [hat]; simp)]
  have hq0 : q ≠ [] := by rintro rfl; cases hat
  have e2 : made q e = put Chg.key e q := by unfold made; rw [e1, if_pos rfl]
  have HK := Lib.hid (fun W => fits_any e W hez.1 hez.2 0 hc)
  have HF := Lib.hid (fun (W : World) (hW : Below w.heap.size w W) => refFind_any v q e.key W (h.below hW) (by have := hg.few; omega))
  have HR := Lib.hid h
  rw [show tells e.key q = y by unfold tells; rw [hat], hat] at HF
  have HE := Lib.hid (And.intro e1 e2)
  have HFEW : Hid (q.length ≤ 2000) := Lib.hid hg.few
  have HRI := Lib.hid hg.rise
  have hend := outs_end Chg.key true e q
  unfold sets at hend
  rw [if_pos rfl] at hend
  have HEND := Lib.hid hend
  clear e1 e2 hg hA hez hk1 hv1 hc hat hend
  subst he
  rcases h with ⟨a, cap, rfl, rfl⟩ | ⟨h0, b, off, cap, rfl, h3, h4⟩
  · exact absurd rfl hq0
  · have HC := Lib.hid h4
    clear h4
    go_enter Tryz.func58, Tryz.ntmps58
    go_wp2_with fail
    refine (HK.out _).mono ?_
    rintro r w1 ⟨rfl, hb1⟩
    have HB := Lib.hid (HA.out.trans (hb1.mono HA.out.size))
    have HX := Lib.hid (box_cells (w := w) (e := (⟨k, v0, false⟩ : Chg)) hb1)
    clear hb1
    obtain ⟨b0, b1, b2⟩ := three HX.out
    go_wp2_with fail
    refine (HF.out _ HB.out).mono ?_
    rintro r w2 ⟨rfl, hb2⟩
    have HX2 := Lib.hid (range_below HX.out (by have := HA.out.size; have := HB.out.size; exact block_lt_of_cell b0) hb2)
    have HB2 := Lib.hid (HB.out.trans (hb2.mono HB.out.size))
    clear hb2 b0 b1 b2
    have hw2 : w.heap.size < w2.heap.size := block_lt_of_cell (three HX2.out).1
    have hws : (w2.alloc (boxC refT y)).heap.size = w2.heap.size + 1 := by simp
    have HWL := Lib.hid (HB2.out.alloc HB2.out.size (boxC refT y))
    have HXL := Lib.hid (range_below HX2.out hw2 ((Below.refl w2.heap.size w2).alloc (Nat.le_refl _) (boxC refT y)))
    obtain ⟨b0, b1, b2⟩ := three HXL.out
    simp only [Nat.zero_add] at b1 b2
    have hbl2 : b < w2.heap.size := Nat.lt_of_lt_of_le h3 HB2.out.size
    have HCL := Lib.hid (fun (W : World) (hW : Below (w2.alloc (boxC refT y)).heap.size (w2.alloc (boxC refT y)) W) (k : Nat) (x : Chg) (hx : q[k]? = some x) => three (range_below (range_below (HC.out k x hx) h3 HWL.out) (by omega) hW))
    have HXW := Lib.hid (fun (W : World) (hW : Below (w2.alloc (boxC refT y)).heap.size (w2.alloc (boxC refT y)) W) => three (range_below HXL.out (by omega) hW))
    clear h3 hbl2
    go_wp2_with fail
    clear b0 b1 b2
    go_loopw [9, 10, 11] (fun ov pv i wr => SetAt (w2.alloc (boxC refT y)) q (⟨k, v0, false⟩ : Chg) ov pv i wr) (fun _ _ i _ => q.length - (intOf i).toNat)
    case atStart => exact ⟨0, _, Nat.zero_le _, rfl, rfl, rfl, by rw [List.take_zero, outs_nil]; exact World.ownsRow_nil _ _ _ _, Below.refl _ _⟩
    case round =>
      obtain ⟨k1, ov, hk, rfl, rfl, rfl, hO, hb⟩ := hrel
      have HO := Lib.hid hO
      have hln := outs_length Chg.key true (⟨k, v0, false⟩ : Chg) (q.take k1)
      have HLN : Hid ((outs Chg.key true (⟨k, v0, false⟩ : Chg) (q.take k1)).length ≤ 2001) := by have := HFEW.out; rw [List.length_take] at hln; exact Lib.hid (by omega)
      have hbs := hb.size
      rw [hws] at hbs
      have HBB := Lib.hid hb
      have hq2 : q.length ≤ 2000 := HFEW.out
      clear hln hO hb
      by_cases hlt : k1 < q.length
      · obtain ⟨x, hkx⟩ : ∃ x, q[k1]? = some x := ⟨q[k1], List.getElem?_eq_getElem hlt⟩
        have HX1 := Lib.hid hkx
        have HCK := Lib.hid (fun (W : World) (hW : Below (w2.alloc (boxC refT y)).heap.size (w2.alloc (boxC refT y)) W) => HCL.out W hW k1 x hkx)
        have hle := less_toList x.key k
        have hee := key_eq x.key k
        clear hkx
        obtain ⟨b0, b1, b2⟩ := HXW.out wr HBB.out
        obtain ⟨c0, c1, c2⟩ := HCK.out wr HBB.out
        simp only [Nat.zero_add] at b1 b2
        cases hfl : flag Chg.key true (⟨k, v0, false⟩ : Chg) (q.take k1)
        · cases hlb : less x.key k
          · rw [hlb] at hle
            go_wp2_with fail
            go_quiet (fail)
            obtain ⟨v1, w3, hr1, hh1⟩ := append_ref (wr.drewN nq) ov _ (⟨k, v0, false⟩ : Chg) _ HO.out (by have := HLN.out; omega) (by simp; omega)
            have HR1 := Lib.hid hr1
            clear hr1
            go_wp2_with (at_builtin; refine Lib.wpList_append_run _ rfl _ _ _ _ rfl _ _ rfl rfl _ _ HR1.out ?_)
            have hB1 : Below (w2.alloc (boxC refT y)).heap.size (w2.alloc (boxC refT y)) w3 := (below_drewN HBB.out nq).trans hh1.out.2
            have hs1 := hB1.size
            have HB1 := Lib.hid hB1
            clear hB1 b0 b1 b2 c0 c1 c2
            obtain ⟨b0, b1, b2⟩ := HXW.out w3 HB1.out
            obtain ⟨c0, c1, c2⟩ := HCK.out w3 HB1.out
            simp only [Nat.zero_add] at b1 b2
            by_cases he : x.key = k
            · have hne : (x.key.toList == k.toList) = true := by rw [hee]; exact decide_eq_true he
              go_quiet (fail)
              go_wp2_with fail
              go_roundw
              case rel =>
                refine SetAt_step (fl := false) (lb := false) (L := outs Chg.key true (⟨k, v0, false⟩ : Chg) (q.take k1) ++ [(⟨k, v0, false⟩ : Chg)]) HX1.out HRI.out hfl hlb ?_ ?_ ?_ ?_
                · rw [if_pos he]; simp
                · rfl
                · exact hh1.out.1
                · exact below_drewN (HB1.out) _
              case measure => simp [intOf]; omega
            · have hne : (x.key.toList == k.toList) = false := by rw [hee]; exact decide_eq_false he
              go_quiet (fail)
              obtain ⟨v2, w4, hr2, hh2⟩ := append_ref (w3.drewN nq) v1 (outs Chg.key true (⟨k, v0, false⟩ : Chg) (q.take k1) ++ [(⟨k, v0, false⟩ : Chg)]) x (w2.alloc (boxC refT y)).heap.size (hh1.out.1) (by have := HLN.out; simp; omega) (by simpa using hs1)
              have HR2 := Lib.hid hr2
              clear hr2
              go_wp2_with (at_builtin; refine Lib.wpList_append_run _ rfl _ _ _ _ rfl _ _ rfl rfl _ _ HR2.out ?_)
              go_roundw
              case rel =>
                refine SetAt_step (fl := false) (lb := false) (L := outs Chg.key true (⟨k, v0, false⟩ : Chg) (q.take k1) ++ [(⟨k, v0, false⟩ : Chg)] ++ [x]) HX1.out HRI.out hfl hlb ?_ ?_ ?_ ?_
                · rw [if_neg he]; simp
                · rfl
                · exact hh2.out.1
                · exact (below_drewN (HB1.out) _).trans hh2.out.2
              case measure => simp [intOf]; omega
          · rw [hlb] at hle
            have hxe : x.key ≠ k := fun h => by rw [h, less_irrefl] at hlb; cases hlb
            go_wp2_with fail
            go_quiet (fail)
            revert nq
            intro n1
            go_wp2_with fail
            have hne : (x.key.toList == k.toList) = false := by rw [hee]; exact decide_eq_false hxe
            go_quiet (fail)
            obtain ⟨v2, w3, hr2, hh2⟩ := append_ref (wr.drewN (n1 + nq)) ov (outs Chg.key true (⟨k, v0, false⟩ : Chg) (q.take k1)) x (w2.alloc (boxC refT y)).heap.size HO.out (by have := HLN.out; omega) (by simp; omega)
            have HR2 := Lib.hid hr2
            clear hr2
            go_wp2_with (at_builtin; refine Lib.wpList_append_run _ rfl _ _ _ _ rfl _ _ rfl rfl _ _ HR2.out ?_)
            go_roundw
            case rel =>
              refine SetAt_step (fl := false) (lb := true) (L := outs Chg.key true (⟨k, v0, false⟩ : Chg) (q.take k1) ++ [x]) HX1.out HRI.out hfl hlb ?_ ?_ ?_ ?_
              · rw [if_neg hxe]; simp
              · rfl
              · exact hh2.out.1
              · exact (below_drewN HBB.out _).trans hh2.out.2
            case measure => simp [intOf]; omega
        · clear hle
          go_wp2_with fail
          go_quiet (fail)
          revert nq
          intro n1
          go_wp2_with fail
          by_cases he : x.key = k
          · have hne : (x.key.toList == k.toList) = true := by rw [hee]; exact decide_eq_true he
            go_quiet (fail)
            go_wp2_with fail
            go_roundw
            case rel =>
              refine SetAt_step (fl := true) (lb := less x.key k) (L := outs Chg.key true (⟨k, v0, false⟩ : Chg) (q.take k1)) HX1.out HRI.out hfl rfl ?_ ?_ ?_ ?_
              · rw [if_pos he]; simp
              · rfl
              · exact HO.out
              · exact below_drewN (HBB.out) _
            case measure => simp [intOf]; omega
          · have hne : (x.key.toList == k.toList) = false := by rw [hee]; exact decide_eq_false he
            go_quiet (fail)
            obtain ⟨v2, w3, hr2, hh2⟩ := append_ref (wr.drewN (n1 + nq)) ov (outs Chg.key true (⟨k, v0, false⟩ : Chg) (q.take k1)) x (w2.alloc (boxC refT y)).heap.size (HO.out) (by have := HLN.out; omega) (by simpa using (show w2.heap.size + 1 ≤ wr.heap.size from hbs))
            have HR2 := Lib.hid hr2
            clear hr2
            go_wp2_with (at_builtin; refine Lib.wpList_append_run _ rfl _ _ _ _ rfl _ _ rfl rfl _ _ HR2.out ?_)
            go_roundw
            case rel =>
              refine SetAt_step (fl := true) (lb := less x.key k) (L := outs Chg.key true (⟨k, v0, false⟩ : Chg) (q.take k1) ++ [x]) HX1.out HRI.out hfl rfl ?_ ?_ ?_ ?_
              · rw [if_neg he]; simp
              · rfl
              · exact hh2.out.1
              · exact (below_drewN (HBB.out) _).trans hh2.out.2
            case measure => simp [intOf]; omega
      · have htk : q.take k1 = q := List.take_of_length_le (by omega)
        rw [htk] at HO HLN ⊢
        have HOO := Lib.hid (ownsRow_base_a HO.out (base' := w.heap.size) (by omega))
        have hsw : w.heap.size ≤ wr.heap.size := by omega
        obtain ⟨b0, b1, b2⟩ := HXW.out wr HBB.out
        simp only [Nat.zero_add] at b1 b2
        cases hfl : flag Chg.key true (⟨k, v0, false⟩ : Chg) q
        · obtain ⟨v1, w3, hr1, hh1⟩ := append_ref wr ov _ (⟨k, v0, false⟩ : Chg) w.heap.size HOO.out (by have := HLN.out; omega) hsw
          have HR1 := Lib.hid hr1
          clear hr1
          go_wp2_with (at_builtin; refine Lib.wpList_append_run _ rfl _ _ _ _ rfl _ _ rfl rfl _ _ HR1.out ?_)
          go_ret2
          refine ⟨_, by rw [HE.out.1]; rfl, ?_, (HWL.out.trans (HBB.out.mono (by omega))).trans hh1.out.2, fun k hk => .inr (hh1.out.1.lt k hk)⟩
          rw [HE.out.2, HEND.out, hfl]
          exact owns_reads hh1.out.1
        · go_wp2_with fail
          go_ret2
          refine ⟨_, by rw [HE.out.1]; rfl, ?_, HWL.out.trans (HBB.out.mono (by omega)), fun k hk => .inr (HOO.out.lt k hk)⟩
          rw [HE.out.2, HEND.out, hfl]
          exact owns_reads HOO.out
end Go.Proofs.YtghpohiinnallaaGreatDoor.Batch

/-
  Walks of the document's answer: Set, all ways.
-/
namespace Go.Proofs.YtghpohiinnallaaGreatDoor.Batch
open Go Go.RowKit

theorem refSet_any (v : Value) (q : List Chg) (c : Chg) (w : World) (h : ReadsC w v q) (hg : Good q) (hk1 : c.key.size ≤ 9223372036854775807) (hv1 : c.val.size ≤ 9223372036854775807) :
    Calls Tryz.prog 58 #[v, chV c] w (SetPost w v q c.norm) := by
  obtain ⟨k, v0, g⟩ := c
  by_cases hc : chk (Chg.norm ⟨k, v0, g⟩) = 0
  · cases hat : at? Chg.key (Chg.norm ⟨k, v0, g⟩).key q with
    | some y => cases g
                · exact set_old_false v q k v0 _ w rfl h hg hk1 hv1 hc y hat
                · exact set_old_true v q k v0 _ w rfl h hg hk1 hv1 hc y hat
    | none => by_cases hf : q.length < 2000
              · cases g
                · exact set_new_false v q k v0 _ w rfl h hg hk1 hv1 hc hat hf
                · exact set_new_true v q k v0 _ w rfl h hg hk1 hv1 hc hat hf
              · cases g
                · exact set_full_false v q k v0 _ w rfl h hg hk1 hv1 hc hat (by omega)
                · exact set_full_true v q k v0 _ w rfl h hg hk1 hv1 hc hat (by omega)
  · cases g
    · exact set_bad_false v q k v0 _ w rfl h hg hk1 hv1 hc
    · exact set_bad_true v q k v0 _ w rfl h hg hk1 hv1 hc
end Go.Proofs.YtghpohiinnallaaGreatDoor.Batch

/-
  What the laws of the store share: light lists of changes, Make (texts of batch's own laws, for this seat).
-/
namespace Go.Proofs.YtghpohiinnallaaGreatDoor.Batch
open Go Go.RowKit

/-- A change among the arguments, light or not. -/
def OkC (c : Chg) : Prop := c.key.size ≤ 9223372036854775807 ∧ c.val.size ≤ 9223372036854775807
def LightC (c : Chg) : Prop := c.key.size ≤ 300 ∧ c.val.size ≤ 1000
def LightL (l : List Chg) : Prop := l.length ≤ 40 ∧ ∀ c ∈ l, LightC c
def LightPost (w : World) (l : List Chg) (e : Ending) (w' : World) : Prop := ∃ b : Bool, e = .returned (.bool b) ∧ (b = true → LightL l) ∧ w = w'
set_option maxHeartbeats 2000000 in
theorem light_any (v : Value) (l : List Chg) (w : World) (h : ReadsC w v l) (ho : ∀ c ∈ l, OkC c) (hm : l.length ≤ 9223372036854775807) :
    Calls Tryz.prog 37 #[v] w (LightPost w l) := by
  rcases h with ⟨a, cap, rfl, rfl⟩ | ⟨h0, b, off, cap, rfl, h3, h4⟩
  · go_enter Tryz.func37, Tryz.ntmps37
    go_wp2_with fail
    go_loopw [3] (fun i wr => i = .int .i64 0 ∧ wr = w) (fun i _ => 0 - (intOf i).toNat)
    case atStart => exact ⟨rfl, rfl⟩
    case round =>
      obtain ⟨rfl, rfl⟩ := hrel
      go_wp2_with fail
      go_ret
      exact ⟨_, rfl, fun _ => ⟨by simp, by simp⟩, rfl⟩
  · have HC := Lib.hid h4
    have HO := Lib.hid ho
    clear h4 ho
    go_enter Tryz.func37, Tryz.ntmps37
    go_wp2_with fail
    go_loopw [3] (fun i wr => ∃ k : Nat, k ≤ l.length ∧ k ≤ 40 ∧ i = .int .i64 k ∧ (∀ e ∈ l.take k, LightC e) ∧ wr = w) (fun i _ => l.length - (intOf i).toNat)
    case atStart => exact ⟨0, Nat.zero_le _, by omega, rfl, by simp, rfl⟩
    case round =>
      obtain ⟨k, hk, hk2, rfl, hn, rfl⟩ := hrel
      have HN := Lib.hid hn
      clear hn
      by_cases hlt : k < l.length ∧ k < 40
      · obtain ⟨e, hke⟩ : ∃ e, l[k]? = some e := ⟨l[k], List.getElem?_eq_getElem hlt.1⟩
        have hl1 := hlt.1
        have hl2 := hlt.2
        obtain ⟨s1, s2⟩ := HO.out e (List.mem_of_getElem? hke)
        obtain ⟨c0, c1, c2⟩ := three (HC.out k e hke)
        have HK := Lib.hid hke
        clear hke hlt
        by_cases g1 : 300 < e.key.size
        · go_wp2_with fail
          go_ret
          exact ⟨_, rfl, fun h => (by cases h), rfl⟩
        · by_cases g2 : 1000 < e.val.size
          · go_wp2_with fail
            go_ret
            exact ⟨_, rfl, fun h => (by cases h), rfl⟩
          · have HT := Lib.hid (take_next (p := LightC) HK.out HN.out ⟨by omega, by omega⟩)
            go_wp2_with fail
            go_roundw
            case rel => exact ⟨k + 1, by omega, by omega, by simp, HT.out, trivial⟩
            case measure => simp [intOf]; omega
      · have HB : Hid (decide ((l.length : Int) ≤ 40) = true → LightL l) := Lib.hid fun h => by
          have h2 := of_decide_eq_true h
          refine ⟨by omega, ?_⟩
          have hq : k = l.length := by omega
          have := HN.out
          rw [hq, List.take_length] at this
          exact this
        by_cases h40 : k < l.length
        · have h41 : ¬ k < 40 := by omega
          have hd : decide ((l.length : Int) ≤ 40) = false := decide_eq_false (by omega)
          go_wp2_with fail
          go_ret
          exact ⟨_, rfl, fun h => (by cases h), rfl⟩
        · generalize hd : decide ((l.length : Int) ≤ 40) = bb at HB
          go_wp2_with fail
          go_ret
          exact ⟨_, rfl, HB.out, rfl⟩

theorem norm_false {k v : ByteArray} : Chg.norm ⟨k, v, false⟩ = ⟨k, v, false⟩ := rfl
theorem norm_true {k v : ByteArray} : Chg.norm ⟨k, v, true⟩ = ⟨k, ⟨#[]⟩, true⟩ := rfl
def madeF (q l : List Chg) : List Chg := l.foldl (fun q c => made q c.norm) q
/-- What is there behind changes, the first one first. -/
def madeL (l : List Chg) : List Chg := madeF [] l
theorem madeL_snoc (l : List Chg) (x : Chg) : madeL (l ++ [x]) = made (madeL l) x.norm := by unfold madeL madeF; rw [List.foldl_append]; rfl
theorem good_madeF : ∀ (l q : List Chg), Good q → Good (madeF q l)
  | [], _, h => h
  | c :: l, q, h => good_madeF l (made q c.norm) (good_made h _)
theorem good_madeL (l : List Chg) : Good (madeL l) := good_madeF l [] good_nil
theorem madeF_length : ∀ (l q : List Chg), (madeF q l).length ≤ q.length + l.length
  | [], q => by simp [madeF]
  | c :: l, q => by
    have h1 := madeF_length l (made q c.norm)
    have h2 := made_length q c.norm
    show (madeF (made q c.norm) l).length ≤ _
    rw [List.length_cons]
    omega
theorem madeL_length (l : List Chg) : (madeL l).length ≤ l.length := by have := madeF_length l []; unfold madeL; simpa using this
theorem madeF_mem : ∀ (l q : List Chg) (z : Chg), z ∈ madeF q l → z ∈ q ∨ ∃ c ∈ l, z = c.norm
  | [], _, _, h => .inl h
  | c :: l, q, z, h => by
    rcases madeF_mem l (made q c.norm) z h with h | ⟨y, hy, e⟩
    · rcases made_mem h with rfl | h
      · exact .inr ⟨c, by simp, rfl⟩
      · exact .inl h
    · exact .inr ⟨y, List.mem_cons_of_mem _ hy, e⟩
theorem madeL_mem {l : List Chg} {z : Chg} (h : z ∈ madeL l) : ∃ c ∈ l, z = c.norm := by
  rcases madeF_mem l [] z h with h | h
  · cases h
  · exact h
theorem norm_norm (c : Chg) : c.norm.norm = c.norm := by
  obtain ⟨k, v, g⟩ := c
  cases g <;> rfl
theorem madeL_norm {l : List Chg} {z : Chg} (h : z ∈ madeL l) : z.norm = z := by
  obtain ⟨c, _, rfl⟩ := madeL_mem h
  exact norm_norm c
theorem madeL_light {l : List Chg} (hl : ∀ c ∈ l, LightC c) {z : Chg} (h : z ∈ madeL l) : LightC z := by
  obtain ⟨c, hc, rfl⟩ := madeL_mem h
  obtain ⟨h1, h2⟩ := hl c hc
  exact ⟨by rw [norm_key]; exact h1, Nat.le_trans (norm_val c) h2⟩
theorem madeL_fine {l : List Chg} (hl : ∀ c ∈ l, LightC c) : ∀ z ∈ madeL l, Fine z := fun z h => by
  obtain ⟨h1, h2⟩ := madeL_light hl h
  exact ⟨by omega, by omega⟩
theorem reads_form {w : World} {v : Value} {q : List Chg} (h : ReadsC w v q) : ∃ a c, v = .slice a q.length c := by
  rcases h with ⟨a, cap, rfl, rfl⟩ | ⟨_, b, off, cap, rfl, _⟩
  · exact ⟨a, cap, rfl⟩
  · exact ⟨_, cap, rfl⟩

/-- A list of the document's beside a batch: what of it holds. -/
def Beside (d : Bt) (w : World) (ov : Value) : Prop := ∀ k, ov.ownBlock = some k → ¬ own d k ∧ k < w.heap.size ∧ d.B ≤ k
def MakePost (w : World) (d : Bt) (l : List Chg) (e : Ending) (w' : World) : Prop :=
  ∃ ov d', e = .returned (.tuple #[ov, .bool true]) ∧ ReadsC w' ov (madeL l) ∧ Beside d' w' ov ∧ Mem w' d' (madeL l) ∧ Step w d w' d'
def MakeAt (w : World) (d : Bt) (l : List Chg) (qv i : Value) (wr : World) : Prop :=
  ∃ (k : Nat) (ov : Value) (d' : Bt), k ≤ l.length ∧ i = .int .i64 k ∧ ov = qv ∧ ReadsC wr ov (madeL (l.take k)) ∧ Beside d' wr ov ∧ Mem wr d' (madeL (l.take k)) ∧ Step w d wr d'
/-- One round: the list first, then the batch. -/
theorem make_step {w wr w2 w3 : World} {d d' d2 : Bt} {l : List Chg} {k : Nat} {x : Chg} {ov ov2 : Value} (hkx : l[k]? = some x) (hm : Mem wr d' (madeL (l.take k))) (hs : Step w d wr d') (hbe : Beside d' wr ov)
    (hr2 : ReadsC w2 ov2 (made (madeL (l.take k)) x.norm)) (hb2 : Below wr.heap.size wr w2) (ho2 : ∀ j, ov2.ownBlock = some j → ov.ownBlock = some j ∨ (wr.heap.size ≤ j ∧ j < w2.heap.size))
    (hm3 : Mem w3 d2 (made (madeL (l.take k)) x.norm)) (hs3 : Step w2 d' w3 d2) : MakeAt w d l ov2 (.int .i64 ((k : Int) + 1)) w3 := by
  have ht : l.take (k + 1) = l.take k ++ [x] := by rw [List.take_add_one, hkx]; rfl
  have hlt := (List.getElem?_eq_some_iff.1 hkx).1
  have h2 : ∀ j, ov2.ownBlock = some j → ¬ own d' j ∧ j < w2.heap.size ∧ d'.B ≤ j := fun j hj => by
    rcases ho2 j hj with h | ⟨h, h'⟩
    · exact ⟨(hbe j h).1, Nat.lt_of_lt_of_le (hbe j h).2.1 hb2.size, (hbe j h).2.2⟩
    · exact ⟨fun e => by have := (hm.own_lt e).1; omega, h', by have := hm.own_lt (k := d'.pb) (.inl rfl); omega⟩
  refine ⟨k + 1, ov2, d2, by omega, by simp, rfl, ?_, fun j hj => ⟨fun e => ?_, Nat.lt_of_lt_of_le (h2 j hj).2.1 hs3.fr.size, by rw [hs3.B]; exact (h2 j hj).2.2⟩, ?_, (hs.trans (Step.of_below d' hb2)).trans hs3⟩
  · rw [ht, madeL_snoc]
    exact hr2.frame hs3.fr fun j hj => (h2 j hj).1
  · rcases hs3.own e with e | e
    · exact (h2 j hj).1 e
    · have := (h2 j hj).2.1; omega
  · rw [ht, madeL_snoc]; exact hm3
set_option maxRecDepth 100000 in
set_option maxHeartbeats 8000000 in
theorem make_any {w0 w : World} {d : Bt} (h : Mem w d []) (hB : w0.heap.size ≤ d.B) (hb0 : Below w0.heap.size w0 w) (v : Value) (l : List Chg) (hr : ReadsC w0 v l) (ho : ∀ c ∈ l, OkC c) (hl : l.length ≤ 40) :
    Calls Tryz.prog 31 #[ptr d.pb, v] w (MakePost w d l) := by
  rcases hr with ⟨a, cap, rfl, rfl⟩ | ⟨h0, b, off, cap, rfl, h3, h4⟩
  · have HM := Lib.hid h
    go_enter Tryz.func31, Tryz.ntmps31
    go_wp2_with fail
    go_loopw [6, 7] (fun qv i wr => qv = .slice none 0 0 ∧ i = .int .i64 0 ∧ wr = w) (fun _ i _ => 0 - (intOf i).toNat)
    case atStart => exact ⟨rfl, rfl, rfl⟩
    case round =>
      obtain ⟨rfl, rfl, rfl⟩ := hrel
      go_wp2_with fail
      go_ret2
      exact ⟨_, d, rfl, nil_reads _, fun k hk => (by cases hk), HM.out, Step.refl _ _⟩
  · have HC := Lib.hid h4
    have HO := Lib.hid ho
    have HM := Lib.hid h
    have HCL := Lib.hid (fun (W : World) (hW : Below w0.heap.size w0 W) (k : Nat) (x : Chg) (hx : l[k]? = some x) => three (range_below (HC.out k x hx) h3 hW))
    have HB0 := Lib.hid (And.intro hB hb0)
    clear h4 ho h hB hb0 h3
    go_enter Tryz.func31, Tryz.ntmps31
    go_wp2_with fail
    go_loopw [6, 7] (fun qv i wr => MakeAt w d l qv i wr) (fun _ i _ => l.length - (intOf i).toNat)
    case atStart => exact ⟨0, _, d, Nat.zero_le _, rfl, rfl, nil_reads _, fun k hk => (by cases hk), HM.out, Step.refl _ _⟩
    case round =>
      obtain ⟨k, ov, d', hk, rfl, rfl, hrd, hbe, hmm, hst⟩ := hrel
      have HST := Lib.hid (And.intro hrd (And.intro hbe (And.intro hmm hst)))
      have HBW : Hid (Below w0.heap.size w0 wr) := Lib.hid (HB0.out.2.trans (hst.below HM.out HB0.out.1))
      have hpb : d'.pb = d.pb := hst.pb
      have hG := good_madeL (l.take k)
      have hql := madeL_length (l.take k)
      by_cases hlt : k < l.length
      · obtain ⟨x, hkx⟩ : ∃ x, l[k]? = some x := ⟨l[k], List.getElem?_eq_getElem hlt⟩
        have hox := HO.out x (List.mem_of_getElem? hkx)
        obtain ⟨c0, c1, c2⟩ := HCL.out wr HBW.out k x hkx
        have HX := Lib.hid hkx
        have HSET := Lib.hid (refSet_any ov (madeL (l.take k)) x wr hrd hG hox.1 hox.2)
        have HSTEP := Lib.hid (fun w2 w3 ov2 d2 hr2 hb2 ho2 hm3 hs3 => make_step (w2 := w2) (w3 := w3) (ov2 := ov2) (d2 := d2) hkx hmm hst hbe hr2 hb2 ho2 hm3 hs3)
        obtain ⟨xk, xv, g⟩ := x
        have HPUT := Lib.hid (fun W (hW : Below wr.heap.size wr W) => put_any (hmm.below hW) hG xk xv hox.1 hox.2)
        have HDEL := Lib.hid (fun W (hW : Below wr.heap.size wr W) => del_any (hmm.below hW) hG xk hox.1)
        rw [hpb] at HPUT HDEL
        clear hrd hbe hmm hst hG hox hkx hql
        cases g
        · rw [norm_false] at HSET HSTEP
          generalize madeL (l.take k) = Q at *
          go_wp2_with fail
          refine HSET.out.mono ?_
          rintro r w2 ⟨ov2, rfl, hr2, hb2, ho2⟩
          have HQ := Lib.hid (And.intro hr2 (And.intro hb2 ho2))
          obtain ⟨oa, oc, rfl⟩ := reads_form hr2
          have HB2 : Hid (Below w0.heap.size w0 w2) := Lib.hid (HBW.out.trans (hb2.mono HBW.out.size))
          have HP2 : Hid (Calls Tryz.prog 38 #[ptr d.pb, .string xk, .string xv] w2.drew (Recorded w2.drew d' Q ⟨xk, xv, false⟩)) := Lib.hid (HPUT.out _ hb2.drew)
          clear hr2 hb2 ho2 c0 c1 c2
          obtain ⟨c0, c1, c2⟩ := HCL.out w2 HB2.out k _ HX.out
          go_wp2_with fail
          go_region_with ((go_at_call 38; refine HP2.out.mono ?_; rintro r w4 ⟨d4, rfl, hm4, hs4⟩; have HD := Lib.hid (And.intro hm4 hs4); clear hm4 hs4))
          all_goals
            have hlen := len_any HD.out.1
            rw [HD.out.2.pb, hpb] at hlen
            have HLEN := Lib.hid hlen
            clear hlen
            go_wp2_with fail
            refine HLEN.out.mono ?_
            rintro r w5 ⟨rfl, rfl⟩
            go_wp2_with fail
            go_roundw
            case rel => exact HSTEP.out w2.drew w4 _ d4 (HQ.out.1.below ((Below.refl _ _).drew)) (HQ.out.2.1.trans (Below.mono ((Below.refl _ _).drew) HQ.out.2.1.size)) HQ.out.2.2 HD.out.1 HD.out.2
            case measure => simp [intOf]; omega
        · rw [norm_true] at HSET HSTEP
          generalize madeL (l.take k) = Q at *
          go_wp2_with fail
          refine HSET.out.mono ?_
          rintro r w2 ⟨ov2, rfl, hr2, hb2, ho2⟩
          have HQ := Lib.hid (And.intro hr2 (And.intro hb2 ho2))
          obtain ⟨oa, oc, rfl⟩ := reads_form hr2
          have HB2 : Hid (Below w0.heap.size w0 w2) := Lib.hid (HBW.out.trans (hb2.mono HBW.out.size))
          have HP2 : Hid (Calls Tryz.prog 59 #[ptr d.pb, .string xk] w2 (Recorded w2 d' Q ⟨xk, ⟨#[]⟩, true⟩)) := Lib.hid (HDEL.out _ hb2)
          clear hr2 hb2 ho2 c0 c1 c2
          obtain ⟨c0, c1, c2⟩ := HCL.out w2 HB2.out k _ HX.out
          go_wp2_with fail
          refine HP2.out.mono ?_
          rintro r w4 ⟨d4, rfl, hm4, hs4⟩
          have HD := Lib.hid (And.intro hm4 hs4)
          clear hm4 hs4
          have hlen := len_any HD.out.1
          rw [HD.out.2.pb, hpb] at hlen
          have HLEN := Lib.hid hlen
          clear hlen
          go_wp2_with fail
          refine HLEN.out.mono ?_
          rintro r w5 ⟨rfl, rfl⟩
          go_wp2_with fail
          go_roundw
          case rel => exact HSTEP.out w2 w4 _ d4 (HQ.out.1.below (Below.refl _ _)) (HQ.out.2.1.trans (Below.mono (Below.refl _ _) HQ.out.2.1.size)) HQ.out.2.2 HD.out.1 HD.out.2
          case measure => simp [intOf]; omega
      · have htk : l.take k = l := List.take_of_length_le (by omega)
        rw [htk] at HST
        clear hrd hbe hmm hst
        go_wp2_with fail
        go_ret2
        exact ⟨_, d', rfl, HST.out.1, HST.out.2.1, HST.out.2.2.1, HST.out.2.2.2⟩
end Go.Proofs.YtghpohiinnallaaGreatDoor.Batch
