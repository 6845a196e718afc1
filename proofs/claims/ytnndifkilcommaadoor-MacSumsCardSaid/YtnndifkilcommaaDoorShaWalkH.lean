/-
  The digest of what was written, and of a string.
-/
import Derived.Test.YtnndifkilcommaaDoorShaWalkG
import Derived.Test.YtnndifkilcommaaDoorShaWalkE
namespace Go.Proofs.YtnndifkilcommaaDoor.Sha
open Go.RowKit

theorem bl_ba (l : List UInt8) : bl (ba l) = l := by
  show l.toArray.toList = l
  simp
theorem pad_length (m : List UInt8) : (padOf m.length).length ≤ 72 := by
  unfold padOf
  simp [lenBytes_length]
  omega
theorem range_all {w : World} {H : Nat} {v : St} {f : Nat → Nat} {n : Nat} (h : Holds w H (hashCells v f n) 50) : w.rangeAt H 0 (hashCells v f n).toList :=
  h.range 0 _ fun j u hu => by rw [Nat.zero_add, ← hu, Array.getElem?_toList]
theorem putAll_all (v v' : St) (f f' : Nat → Nat) (n n' : Nat) : putAll (hashCells v f n) 0 (hashCells v' f' n').toList = hashCells v' f' n' := by
  apply Array.ext_getElem?
  intro j
  by_cases hj : j < 73
  · have := putAll_in (hashCells v' f' n').toList (hashCells v f n) 0 j (by simp [hashCells_size]) (by simp [hashCells_size]; exact hj)
    rw [Nat.zero_add] at this
    rw [this, Array.getElem?_toList]
  · rw [Array.getElem?_eq_none (by rw [putAll_size, hashCells_size]; omega), Array.getElem?_eq_none (by rw [hashCells_size]; omega)]
theorem copied (w : World) (H : Nat) (m : List UInt8) (f : Nat → Nat) (hf : Fill m f) (hh : Holds w H (hashCells (comp m (m.length / 64)) f m.length) 50) (ht : Tab w) :
    ∃ W, (w.alloc (.cells (hashCells zeroSt (fun _ => 0) 0) 50)).setCells w.heap.size 0 (hashCells (comp m (m.length / 64)) f m.length).toList = W ∧
      HashAt W w.heap.size m ∧ Holds W H (hashCells (comp m (m.length / 64)) f m.length) 50 ∧ Below w.heap.size w W ∧ Tab W := by
  have hN := Holds.new w (hashCells zeroSt (fun _ => 0) 0) 50
  have hb : Below w.heap.size w ((w.alloc (.cells (hashCells zeroSt (fun _ => 0) 0) 50)).setCells w.heap.size 0 (hashCells (comp m (m.length / 64)) f m.length).toList) :=
    ((Below.refl _ _).alloc (Nat.le_refl _) _).trans (grown_below (grown_setCells _ _ _ 0) (Nat.le_refl _) (by simp))
  refine ⟨_, rfl, ⟨f, hf, ?_⟩, hh.below hb hh.lt, hb, ht.next hb⟩
  have := hN.setCells (hashCells (comp m (m.length / 64)) f m.length).toList 0
  rw [putAll_all] at this
  exact this

set_option maxRecDepth 100000 in
set_option maxHeartbeats 400000 in
theorem hashSum_any (w : World) (H : Nat) (m : List UInt8) (h : HashAt w H m) (_hH : 0 < H) (ht : Tab w) (hl : m.length ≤ 1000000) :
    Calls Tryd.prog 24 #[.pointer (some ⟨H, 0, none⟩)] w fun e w' => e = .returned (.string (ba (digest m))) ∧ Below w.heap.size w w' := by
  obtain ⟨f, hf, hh⟩ := h
  obtain ⟨W1, hW1, hA, hB, hC, hD⟩ := copied w H m f hf hh ht
  have hp := pad_length m
  have hz := zero45
  have HR := Lib.hid (range_all hh)
  have HT := Lib.hid ((Holds.new w (hashCells zeroSt (fun _ => 0) 0) 50).there 0 (hashCells (comp m (m.length / 64)) f m.length).size (by rw [hashCells_size, hashCells_size]; omega))
  have HS := Lib.hid (rsize45 (comp m (m.length / 64)) f m.length)
  have HO := Lib.hid (hash_one (comp m (m.length / 64)) f m.length)
  have HX := Lib.hid (And.intro hA (And.intro hC hD))
  have c72 := hB.len
  have hw : 0 < w.heap.size := ht.1
  have HW := Lib.hid hW1
  clear hA hC hD hh hB ht hW1
  generalize hashCells (comp m (m.length / 64)) f m.length = CS at HR HT HS HO HW
  generalize hashCells zeroSt (fun _ => 0) 0 = CZ at hz HT HW
  go_enter Tryd.func24, Tryd.ntmps24
  go_wp2_with (first | (refine wpList_load_mid rfl 50 (.tmp 5) rfl H 0 rfl CS.toList _ HR.out Tryd.underlying50 rfl (by rw [Array.length_toList]; exact HS.out) ?_; rw [Array.toArray_toList]) | (refine wpList_store_mid rfl 50 (.tmp 3) (.tmp 6) rfl w.heap.size 0 CS rfl rfl HT.out HS.out HO.out ?_; rw [HW.out]) | fail)
  refine (padding_any _ _ (by omega)).mono ?_
  rintro e W2 ⟨rfl, hb2⟩
  have hA2 := HX.out.1.below hb2 HX.out.1.lt
  have hT2 := HX.out.2.2.next hb2
  have hB2 := HX.out.2.1.trans (hb2.mono HX.out.2.1.size)
  have HY := Lib.hid (And.intro hA2 (And.intro hT2 hB2))
  clear c72 hA2 hT2 hB2 hb2
  go_wp2_with fail
  refine (write_any _ _ m _ HY.out.1 hw HY.out.2.1 (by rw [ba_size]; omega)).mono ?_
  rintro e W3 ⟨rfl, hA3, hG3⟩
  rw [bl_ba] at hA3
  obtain ⟨g, _, hh3⟩ := hA3
  have hV := comp_ok (m ++ padOf m.length) ((m ++ padOf m.length).length / 64)
  have HD : Hid (stBytes (comp (m ++ padOf m.length) ((m ++ padOf m.length).length / 64)) = digest m) := Lib.hid rfl
  generalize comp (m ++ padOf m.length) ((m ++ padOf m.length).length / 64) = V at hh3 hV HD
  have hB3 : Below w.heap.size w W3 := HY.out.2.2.trans (grown_below hG3 (Nat.le_refl _) HY.out.2.2.size)
  have HB := Lib.hid hB3
  have HR3 := Lib.hid (range_words hh3)
  clear hh3 hG3 hB3
  go_wp2_with (first | (refine wpList_load_mid rfl 37 (.tmp 13) rfl w.heap.size 0 rfl (rowOf .u32 8 (stAt V)).toList _ HR3.out Tryd.underlying37 rfl (by rw [Array.length_toList]; exact rsize34 _ _) ?_; rw [Array.toArray_toList]) | (go_at_call 29; refine (bytesOf_any V _ hV).mono ?_; rintro e W4 ⟨rfl, hb4⟩))
  go_ret
  exact ⟨by rw [HD.out]; rfl, HB.out.trans (hb4.mono HB.out.size)⟩

set_option maxHeartbeats 400000 in
theorem sum_any (s : ByteArray) (w : World) (ht : Tab w) (hl : s.size ≤ 1000000) :
    Calls Tryd.prog 21 #[.string s] w fun e w' => e = .returned (.string (ba (digest (bl s)))) ∧ Below w.heap.size w w' := by
  have hw : 0 < w.heap.size := ht.1
  have hsl : (bl s).length ≤ 1000000 := by show s.data.toList.length ≤ _; rw [← Lib.size_eq]; exact hl
  have HT := Lib.hid ht
  clear ht
  go_enter Tryd.func21, Tryd.ntmps21
  go_wp2_with fail
  refine (new_any _).mono ?_
  rintro e W1 ⟨H, hH, rfl, hA1, hB1⟩
  have HX := Lib.hid (And.intro hA1 (And.intro hB1 (HT.out.next hB1)))
  have hH1 := hA1.lt
  clear hA1 hB1
  go_wp2_with fail
  refine (write_any _ _ [] _ HX.out.1 (by omega) HX.out.2.2 (by show 0 + s.size ≤ _; omega)).mono ?_
  rintro e W2 ⟨rfl, hA2, hG2⟩
  rw [List.nil_append] at hA2
  have HY := Lib.hid (And.intro hA2 (And.intro (HX.out.2.1.trans (grown_below hG2 hH HX.out.2.1.size)) (HX.out.2.2.grown hG2 (by omega))))
  clear hA2 hG2
  go_wp2_with fail
  refine (hashSum_any _ _ _ HY.out.1 (by omega) HY.out.2.2 hsl).mono ?_
  rintro e W3 ⟨rfl, hB3⟩
  go_wp2
  go_ret
  exact ⟨rfl, HY.out.2.1.trans (hB3.mono HY.out.2.1.size)⟩
end Go.Proofs.YtnndifkilcommaaDoor.Sha
