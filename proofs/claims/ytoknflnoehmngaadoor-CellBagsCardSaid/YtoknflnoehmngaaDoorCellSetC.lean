/-
  Walks of the document's answer: Set, one kind of entries.
-/
import Derived.Test.YtoknflnoehmngaaDoorCellSet
namespace Go.Proofs.YtoknflnoehmngaaDoor.Cell
open Go Go.RowKit

set_option maxHeartbeats 4000000 in
theorem set_C (v : Value) (q : List Ent) (e : Ent) (w : World) (h : ReadsE w v q) (hf : q.length ≤ 1000) (hr : Rising Ent.name q) (hk1 : ¬ e.v.kind < 1) (hk2 : ¬ 4 < e.v.kind) (hok : okB e = true) :
    Calls Tryd.prog 11 #[v, entV e] w fun r w' => ∃ ov, r = .returned ov ∧ w'.ownsRow w.heap.size 32 6 ov (sets Ent.name (okB e) e q).length ((sets Ent.name (okB e) e q).flatMap entC) ∧ Below w.heap.size w w' := by
  have HR := Lib.hid hr
  have HF := Lib.hid hf
  clear hr
  have hw0 : (w.alloc (boxE e)).heap.size = w.heap.size + 1 := by simp
  have hbw : Below w.heap.size w (w.alloc (boxE e)) := (Below.refl _ _).alloc (Nat.le_refl _) _
  have HBW := Lib.hid hbw
  clear hbw
  rcases h with ⟨a, cap, rfl, rfl⟩ | ⟨h0, b, off, cap, rfl, h3, h4⟩
  · obtain ⟨v1, w1, hr1, hh1⟩ := append_ent (w.alloc (boxE e)) (.slice none 0 0) [] e (w.alloc (boxE e)).heap.size (World.ownsRow_nil _ _ _ _) (by simp) (Nat.le_refl _)
    rw [hw0] at hr1
    have HR1 := Lib.hid hr1
    clear hr1
    go_enter Tryd.func11, Tryd.ntmps11
    go_wp2_with fail
    go_loopw [5, 6, 7] (fun ov pv i wr => ov = .slice none 0 0 ∧ pv = .bool false ∧ i = .int .i64 0 ∧ wr = w.alloc (boxE e)) (fun _ _ i _ => 0 - (intOf i).toNat)
    case atStart => exact ⟨rfl, rfl, rfl, rfl⟩
    case round =>
      obtain ⟨rfl, rfl, rfl, rfl⟩ := hrel
      go_wp2_with (at_builtin; refine wpList_append_run rfl _ _ 22 rfl _ _ _ rfl rfl HR1.out ?_)
      go_ret
      refine ⟨v1, rfl, ?_, HBW.out.trans (hh1.out.2.mono (by simp))⟩
      rw [hok]
      exact ownsRow_base_a hh1.out.1 (by simp)
  · have HC := Lib.hid h4
    clear h4
    go_enter Tryd.func11, Tryd.ntmps11
    go_wp2_with fail
    go_loopw [5, 6, 7] (fun ov pv i wr => SetAt (w.alloc (boxE e)) q e ov pv i wr) (fun _ _ i _ => q.length - (intOf i).toNat)
    case atStart => exact ⟨0, _, Nat.zero_le _, rfl, by rw [hok]; rfl, rfl, by rw [List.take_zero, outs_nil]; exact World.ownsRow_nil _ _ _ _, Below.refl _ _⟩
    case round =>
      obtain ⟨k, ov, hk, rfl, rfl, rfl, hO, hb⟩ := hrel
      have HO := Lib.hid hO
      have hln := outs_length Ent.name (okB e) e (q.take k)
      have hln2 : (outs Ent.name (okB e) e (q.take k)).length ≤ 1001 := by have := HF.out; rw [List.length_take] at hln; omega
      have HLN := Lib.hid hln2
      have hbs := hb.size
      clear hln hln2
      have HBB := Lib.hid hb
      by_cases hlt : k < q.length
      · obtain ⟨x, hkx⟩ : ∃ x, q[k]? = some x := ⟨q[k], List.getElem?_eq_getElem hlt⟩
        have HCL := Lib.hid (fun (W : World) (hW : Below (w.alloc (boxE e)).heap.size (w.alloc (boxE e)) W) => all_cells (HC.out k x hkx) h3 hW)
        have HX := Lib.hid hkx
        have hle := less_toList x.name e.name
        have hee := name_eq x.name e.name
        clear hkx hO hb
        obtain ⟨hbx, hcx⟩ := HCL.out wr HBB.out
        obtain ⟨b0, b1, b2, b3, b4, b5⟩ := six hbx
        obtain ⟨c0, c1, c2, c3, c4, c5⟩ := six hcx
        simp only [Nat.zero_add] at b1 b2 b3 b4 b5
        clear hbx hcx
        cases hfl : flag Ent.name (okB e) e (q.take k)
        · cases hlb : less x.name e.name
          · rw [hlb] at hle
            go_wp2_with fail
            go_quiet (fail)
            obtain ⟨v1, w1, hr1, hh1⟩ := append_ent (wr.drewN nq) ov _ e _ HO.out (by have := HLN.out; omega) hbs
            have HR1 := Lib.hid hr1
            clear hr1
            go_wp2_with (at_builtin; refine wpList_append_run rfl _ _ 22 rfl _ _ _ rfl rfl HR1.out ?_)
            have hB1 : Below (w.alloc (boxE e)).heap.size (w.alloc (boxE e)) w1 := (below_drewN HBB.out nq).trans hh1.out.2
            have hs1 := hB1.size
            have HB1 := Lib.hid hB1
            clear hB1
            clear b0 b1 b2 b3 b4 b5 c0 c1 c2 c3 c4 c5
            obtain ⟨hbx, hcx⟩ := HCL.out w1 HB1.out
            obtain ⟨b0, b1, b2, b3, b4, b5⟩ := six hbx
            obtain ⟨c0, c1, c2, c3, c4, c5⟩ := six hcx
            simp only [Nat.zero_add] at b1 b2 b3 b4 b5
            clear hbx hcx
            by_cases he : x.name = e.name
            · have hne : (x.name.toList == e.name.toList) = true := by rw [hee]; exact decide_eq_true he
              go_quiet (fail)
              go_wp2_with fail
              go_roundw
              case rel =>
                refine SetAt_step (fl := false) (lb := false) (L := outs Ent.name (okB e) e (q.take k) ++ [e]) HX.out HR.out hfl hlb ?_ ?_ ?_ ?_
                · rw [if_pos he]; simp
                · rfl
                · exact hh1.out.1
                · exact below_drewN (HB1.out) _
              case measure => simp [intOf]; omega
            · have hne : (x.name.toList == e.name.toList) = false := by rw [hee]; exact decide_eq_false he
              go_quiet (fail)
              obtain ⟨v2, w2, hr2, hh2⟩ := append_ent (w1.drewN (nq)) v1 (outs Ent.name (okB e) e (q.take k) ++ [e]) x (w.alloc (boxE e)).heap.size (hh1.out.1) (by have := HLN.out; simp; omega) (by simpa using hs1)
              have HR2 := Lib.hid hr2
              clear hr2
              go_wp2_with (at_builtin; refine wpList_append_run rfl _ _ 22 rfl _ _ _ rfl rfl HR2.out ?_)
              go_roundw
              case rel =>
                refine SetAt_step (fl := false) (lb := false) (L := outs Ent.name (okB e) e (q.take k) ++ [e] ++ [x]) HX.out HR.out hfl hlb ?_ ?_ ?_ ?_
                · rw [if_neg he]; simp
                · rfl
                · exact hh2.out.1
                · exact (below_drewN (HB1.out) _).trans hh2.out.2
              case measure => simp [intOf]; omega
          · rw [hlb] at hle
            have hxe : x.name ≠ e.name := fun h => by rw [h, less_irrefl] at hlb; cases hlb
            clear b1 b2 b3 b4 b5
            go_wp2_with fail
            go_quiet (fail)
            revert nq
            intro n1
            go_wp2_with fail
            by_cases he : x.name = e.name
            · exact absurd he hxe
            · have hne : (x.name.toList == e.name.toList) = false := by rw [hee]; exact decide_eq_false he
              go_quiet (fail)
              obtain ⟨v2, w2, hr2, hh2⟩ := append_ent (wr.drewN (n1 + nq)) ov (outs Ent.name (okB e) e (q.take k)) x (w.alloc (boxE e)).heap.size (HO.out) (by have := HLN.out; omega) (hbs)
              have HR2 := Lib.hid hr2
              clear hr2
              go_wp2_with (at_builtin; refine wpList_append_run rfl _ _ 22 rfl _ _ _ rfl rfl HR2.out ?_)
              go_roundw
              case rel =>
                refine SetAt_step (fl := false) (lb := true) (L := outs Ent.name (okB e) e (q.take k) ++ [x]) HX.out HR.out hfl hlb ?_ ?_ ?_ ?_
                · rw [if_neg he]; simp
                · rfl
                · exact hh2.out.1
                · exact (below_drewN (HBB.out) _).trans hh2.out.2
              case measure => simp [intOf]; omega
        · clear hle b1 b2 b3 b4 b5
          go_wp2_with fail
          go_quiet (fail)
          revert nq
          intro n1
          go_wp2_with fail
          by_cases he : x.name = e.name
          · have hne : (x.name.toList == e.name.toList) = true := by rw [hee]; exact decide_eq_true he
            go_quiet (fail)
            go_wp2_with fail
            go_roundw
            case rel =>
              refine SetAt_step (fl := true) (lb := less x.name e.name) (L := outs Ent.name (okB e) e (q.take k)) HX.out HR.out hfl rfl ?_ ?_ ?_ ?_
              · rw [if_pos he]; simp
              · rfl
              · exact HO.out
              · exact below_drewN (HBB.out) _
            case measure => simp [intOf]; omega
          · have hne : (x.name.toList == e.name.toList) = false := by rw [hee]; exact decide_eq_false he
            go_quiet (fail)
            obtain ⟨v2, w2, hr2, hh2⟩ := append_ent (wr.drewN (n1 + nq)) ov (outs Ent.name (okB e) e (q.take k)) x (w.alloc (boxE e)).heap.size (HO.out) (by have := HLN.out; omega) (hbs)
            have HR2 := Lib.hid hr2
            clear hr2
            go_wp2_with (at_builtin; refine wpList_append_run rfl _ _ 22 rfl _ _ _ rfl rfl HR2.out ?_)
            go_roundw
            case rel =>
              refine SetAt_step (fl := true) (lb := less x.name e.name) (L := outs Ent.name (okB e) e (q.take k) ++ [x]) HX.out HR.out hfl rfl ?_ ?_ ?_ ?_
              · rw [if_neg he]; simp
              · rfl
              · exact hh2.out.1
              · exact (below_drewN (HBB.out) _).trans hh2.out.2
            case measure => simp [intOf]; omega
      · have hend := outs_end Ent.name (okB e) e q
        have htk : q.take k = q := List.take_of_length_le (by omega)
        rw [htk] at HO HLN ⊢
        have HOO := Lib.hid (ownsRow_base_a HO.out (base' := w.heap.size) (by simp))
        have HCL := Lib.hid (six (range_box HBB.out))
        obtain ⟨b0, b1, b2, b3, b4, b5⟩ := HCL.out
        simp only [Nat.zero_add] at b1 b2 b3 b4 b5
        cases hfl : flag Ent.name (okB e) e q
        · obtain ⟨v1, w1, hr1, hh1⟩ := append_ent wr ov _ e w.heap.size HOO.out (by have := HLN.out; omega) (by omega)
          have HR1 := Lib.hid hr1
          clear hr1
          go_wp2_with (at_builtin; refine wpList_append_run rfl _ _ 22 rfl _ _ _ rfl rfl HR1.out ?_)
          go_ret
          rw [hend, hfl]
          exact ⟨_, rfl, hh1.out.1, (HBW.out.trans (HBB.out.mono (by simp))).trans hh1.out.2⟩
        · go_wp2_with fail
          go_ret
          rw [hend, hfl]
          exact ⟨_, rfl, HOO.out, HBW.out.trans (HBB.out.mono (by simp))⟩
end Go.Proofs.YtoknflnoehmngaaDoor.Cell
