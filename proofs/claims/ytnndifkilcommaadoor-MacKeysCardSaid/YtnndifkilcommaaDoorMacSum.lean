/-
  The sum under a key: the program's, the document's.
-/
import Derived.Test.YtnndifkilcommaaDoorMacComb
import Derived.Test.YtnndifkilcommaaDoorMacBlock
namespace Go.Proofs.YtnndifkilcommaaDoor.Mac
open Go.RowKit Sha

set_option maxHeartbeats 400000 in
theorem digest_any (a s : ByteArray) (w : World) (ht : Tab w) (hl : a.size + s.size ≤ 1000000) :
    Calls Tryd.prog 15 #[.string a, .string s] w fun e w' => e = .returned (.string (ba (digest (bl a ++ bl s)))) ∧ Below w.heap.size w w' := by
  have hw : 0 < w.heap.size := ht.1
  have la := bl_len a
  have ls := bl_len s
  have HT := Lib.hid ht
  clear ht
  go_enter Tryd.func15, Tryd.ntmps15
  go_wp2_with fail
  refine (new_any _).mono ?_
  rintro e W1 ⟨H, hH, rfl, hA1, hB1⟩
  have HX := Lib.hid (And.intro hA1 (And.intro hB1 (HT.out.next hB1)))
  clear hA1 hB1
  go_wp2_with fail
  refine (write_any _ _ [] _ HX.out.1 (by omega) HX.out.2.2 (by show 0 + a.size ≤ _; omega)).mono ?_
  rintro e W2 ⟨rfl, hA2, hG2⟩
  rw [List.nil_append] at hA2
  have HY := Lib.hid (And.intro hA2 (And.intro (HX.out.2.1.trans (grown_below hG2 hH HX.out.2.1.size)) (HX.out.2.2.grown hG2 (by omega))))
  have hs2 := HY.out.2.1.size
  clear hA2 hG2
  go_wp2_with fail
  refine (write_any _ _ _ _ HY.out.1 (by omega) HY.out.2.2 (by rw [la]; omega)).mono ?_
  rintro e W3 ⟨rfl, hA3, hG3⟩
  have HZ := Lib.hid (And.intro hA3 (And.intro (HY.out.2.1.trans (grown_below hG3 hH hs2)) (HY.out.2.2.grown hG3 (by omega))))
  clear hA3 hG3
  go_wp2_with fail
  refine (hashSum_any _ _ _ HZ.out.1 (by omega) HZ.out.2.2 (by rw [List.length_append, la, ls]; exact hl)).mono ?_
  rintro e W4 ⟨rfl, hB4⟩
  go_wp2
  go_ret
  exact ⟨rfl, HZ.out.2.1.trans (hB4.mono HZ.out.2.1.size)⟩
theorem digest_pad (l : List UInt8) (s : ByteArray) (w : World) (ht : Tab w) (hl : l.length + s.size ≤ 1000000) :
    Calls Tryd.prog 15 #[.string (ba l), .string s] w fun e w' => e = .returned (.string (ba (digest (l ++ bl s)))) ∧ Below w.heap.size w w' := by
  have h := digest_any (ba l) s w ht (by rw [ba_size]; exact hl)
  rw [bl_ba] at h
  exact h
theorem digest_both (l m : List UInt8) (w : World) (ht : Tab w) (hl : l.length + m.length ≤ 1000000) :
    Calls Tryd.prog 15 #[.string (ba l), .string (ba m)] w fun e w' => e = .returned (.string (ba (digest (l ++ m)))) ∧ Below w.heap.size w w' := by
  have h := digest_pad l (ba m) w ht (by rw [ba_size]; exact hl)
  rw [bl_ba] at h
  exact h
theorem range_pad {w : World} {b : Nat} {g : Nat → Nat} (h : Holds w b (rowOf .u8 64 g) 33) : w.rangeAt b 0 (rowOf .u8 64 g).toList := range_row h
set_option maxRecDepth 100000 in
set_option maxHeartbeats 400000 in
theorem macSum_any (key s : ByteArray) (w : World) (hk : key.size ≤ 100000) (hs : s.size ≤ 100000) (ht : Tab w) :
    Calls Tryd.prog 9 #[.string key, .string s] w fun e w' => e = .returned (.string (ba (hmac (bl key) (bl s)))) ∧ Below w.heap.size w w' := by
  have HT := Lib.hid ht
  clear ht
  go_enter Tryd.func9, Tryd.ntmps9
  go_wp2_with fail
  refine (keyBlock_any key _ (by omega) HT.out).mono ?_
  rintro e W1 ⟨rfl, hb1⟩
  go_wp2_with (first | (refine wpList_store_row rfl 33 (.tmp 5) (.tmp 7) rfl _ (rowOf .u8 64 (byteAt (keyOf (bl key)))) rfl rfl 33 _ (heap_alloc_new _ _) (rsize43 _ _) (by rw [rowOf_size]; rfl) (rowOf_one _ _ _) ?_) | fail)
  have hA := laidB W1 (rowOf .u8 64 fun _ => 0) (rowOf .u8 64 (byteAt (keyOf (bl key)))) 33
  have hB := hb1.trans ((below_laidB W1 (rowOf .u8 64 fun _ => 0) (rowOf .u8 64 (byteAt (keyOf (bl key)))) 33).mono hb1.size)
  generalize hw5 : World.setRow _ _ _ = w5
  have hA : Holds w5 W1.heap.size (rowOf .u8 64 (byteAt (keyOf (bl key)))) 33 := by rw [← hw5]; exact hA
  have hB : Below w.heap.size w w5 := by rw [← hw5]; exact hB
  clear hw5 hb1
  generalize W1.heap.size = A at hA ⊢
  have HB := Lib.hid (And.intro hA (And.intro hB (HT.out.next hB)))
  have lA := hA.lt
  have lp := padK_len (bl key)
  clear hA hB
  simp only [Act.put]
  refine wp_region_kept (by kernel_rfl) (by kernel_rfl) ?_
  go_big_quiet_want
  refine quiet_load_arr 33 (.tmp 5) rfl A 0 rfl (rowOf .u8 64 (byteAt (keyOf (bl key)))) _ (fun w' hk => range_pad (HB.out.1.below hk.below lA)) Tryd.underlying33 rfl (rsize43 _ _) ?_
  go_simp
  go_big_quiet_on
  go_big_quiet_step ((intro hk; go_at_call 16; exact hk.call (combine_out _ _)))
  go_big_quiet_want
  refine quiet_load_arr 33 (.tmp 5) rfl A 0 rfl (rowOf .u8 64 (byteAt (keyOf (bl key)))) _ (fun w' hk => range_pad (HB.out.1.below hk.below lA)) Tryd.underlying33 rfl (rsize43 _ _) ?_
  go_simp
  go_big_quiet_on
  repeat (go_big_quiet_step ((first | (exact fun _ => rfl) | (intro hk; go_at_call 16; exact hk.call (combine_in _ _)) | (intro hk; go_at_call 15; exact hk.call (digest_pad _ _ _ (HB.out.2.2.next hk.below) (by rw [lp]; omega))) | (intro hk; go_at_call 15; exact hk.call (digest_both _ _ _ (HB.out.2.2.next hk.below) (by rw [lp, digest_len]; omega))))))
  refine wpQuiet_nil ?_
  intro W4 hk4
  have HC := Lib.hid (HB.out.2.1.trans (hk4.below.mono HB.out.2.1.size))
  clear hk4
  go_wp2
  go_ret
  exact ⟨rfl, HC.out⟩
/- The document's. -/
theorem join_in (l : List UInt8) (s : ByteArray) : ba l ++ s = ba (l ++ bl s) := by
  have h := ba_append l (bl s)
  exact h
theorem refSum_list (l : List UInt8) (w : World) (hs : l.length ≤ 1000000) : Calls Tryd.prog 12 #[.string (ba l)] w fun e w' => e = .returned (.string (ba (digest l))) ∧ Below w.heap.size w w' := by
  have h := refSum_any (ba l) w (by rw [ba_size]; exact hs)
  rw [bl_ba] at h
  exact h
theorem refSum_join (l : List UInt8) (s : ByteArray) (w : World) (hs : l.length + s.size ≤ 1000000) : Calls Tryd.prog 12 #[.string (ba l ++ s)] w fun e w' => e = .returned (.string (ba (digest (l ++ bl s)))) ∧ Below w.heap.size w w' := by
  rw [join_in]
  exact refSum_list _ w (by rw [List.length_append, bl_len]; exact hs)
theorem refSum_both (l m : List UInt8) (w : World) (hs : l.length + m.length ≤ 1000000) : Calls Tryd.prog 12 #[.string (ba l ++ ba m)] w fun e w' => e = .returned (.string (ba (digest (l ++ m)))) ∧ Below w.heap.size w w' := by
  rw [ba_append]
  exact refSum_list _ w (by rw [List.length_append]; exact hs)
set_option maxHeartbeats 400000 in
theorem refMac_any (key s : ByteArray) (w : World) (hk : key.size ≤ 100000) (hs : s.size ≤ 100000) :
    Calls Tryd.prog 7 #[.string key, .string s] w fun e w' => e = .returned (.string (ba (hmac (bl key) (bl s)))) ∧ Below w.heap.size w w' := by
  have lp := padK_len (bl key)
  have z1 := fun b => (ba_size (padK (bl key) b)).trans (padK_len _ b)
  have z2 := (ba_size (digest (padK (bl key) 54 ++ bl s))).trans (digest_len _)
  go_enter Tryd.func7, Tryd.ntmps7
  go_wp2_with fail
  refine (block_out key _ (by omega)).mono ?_
  rintro e W1 ⟨rfl, hb1⟩
  go_wp2_with fail
  refine (block_in key _ (by omega)).mono ?_
  rintro e W2 ⟨rfl, hb2⟩
  have HB := Lib.hid (hb1.trans (hb2.mono hb1.size))
  clear hb1 hb2
  go_wp2_with fail
  refine (refSum_join _ s _ (by rw [lp]; omega)).mono ?_
  rintro e W3 ⟨rfl, hb3⟩
  have HB := Lib.hid (HB.out.trans (hb3.mono HB.out.size))
  clear hb3
  go_wp2_with fail
  refine (refSum_both _ _ _ (by rw [lp, digest_len]; omega)).mono ?_
  rintro e W4 ⟨rfl, hb4⟩
  have HB := Lib.hid (HB.out.trans (hb4.mono HB.out.size))
  clear hb4
  go_wp2
  go_ret
  exact ⟨rfl, HB.out⟩
end Go.Proofs.YtnndifkilcommaaDoor.Mac
