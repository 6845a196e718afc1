/-
  What is written to a Hash.
-/
import Derived.Test.YtnndifkilcommaaDoorShaHashLaws
namespace Go.Proofs.YtnndifkilcommaaDoor.Sha
open Go.RowKit

theorem init_ok : initSt.Ok := ⟨by decide, by decide, by decide, by decide, by decide, by decide, by decide, by decide⟩
theorem comp_ok (m : List UInt8) : ∀ n, (comp m n).Ok
  | 0 => init_ok
  | _ + 1 => blockSt_ok _ _
def strSize : Value → Nat | .string s => s.size | _ => 0
def WriteAt (s : ByteArray) (H : Nat) (m : List UInt8) (w : World) (x : Value) (wr : World) : Prop :=
  ∃ (k : Nat) (t : ByteArray), x = .string t ∧ bl t = (bl s).drop k ∧ k ≤ s.size ∧ HashAt wr H (m ++ (bl s).take k) ∧ w.grownBy wr (some H)
/-- The round's end: k more bytes have come in. -/
theorem write_next {s t : ByteArray} {H k j : Nat} {m : List UInt8} {w wr : World} (ht : bl t = (bl s).drop k) (hk : k ≤ s.size) (hj : j ≤ t.size) (hh : HashAt wr H (m ++ (bl s).take k ++ (bl t).take j)) (hg : w.grownBy wr (some H)) :
    WriteAt s H m w (.string (t.extract j t.size)) wr := by
  have hl : t.size = s.size - k := by
    have := congrArg List.length ht
    simpa using this
  refine ⟨k + j, _, rfl, ?_, by omega, ?_, hg⟩
  · have : bl (t.extract j t.size) = (bl t).drop j := Lib.extract_to_end t j
    rw [this, ht, List.drop_drop]
  · rw [ht, List.append_assoc, ← List.take_add] at hh
    exact hh

set_option maxRecDepth 100000 in
set_option maxHeartbeats 1000000 in
theorem write_any (s : ByteArray) (H : Nat) (m : List UInt8) (w : World) (h : HashAt w H m) (hH : 0 < H) (ht : Tab w) (hl : m.length + s.size ≤ 1000000000) :
    Calls Tryd.prog 23 #[.pointer (some ⟨H, 0, none⟩), .string s] w fun e w' => e = .returned (.tuple #[]) ∧ HashAt w' H (m ++ bl s) ∧ w.grownBy w' (some H) := by
  have HT := Lib.hid ht
  clear ht
  go_enter Tryd.func23, Tryd.ntmps23
  go_wp2
  go_loopw [1, 4] (fun x _ wr => WriteAt s H m w x wr) (fun x _ _ => strSize x)
  case atStart => exact ⟨0, s, rfl, rfl, by omega, by simpa using h, grown_of_below (Below.refl _ _)⟩
  case round =>
    clear h
    obtain ⟨k, t, rfl, ht, hk, HH, HG⟩ := hrel
    by_cases h0 : t.size = 0
    · have hte : t.toList.isEmpty = true := by rw [Lib.toList_data, List.isEmpty_iff]; exact List.eq_nil_of_length_eq_zero (by rw [← Lib.size_eq]; exact h0)
      have hks : (bl s).take k = bl s := by
        have h2 : (bl s).drop k = [] := by rw [← ht]; exact List.eq_nil_of_length_eq_zero (by show t.data.toList.length = 0; rw [← Lib.size_eq]; exact h0)
        have := List.take_append_drop k (bl s)
        rw [h2, List.append_nil] at this
        exact this
      rw [hks] at HH
      have HX := Lib.hid (And.intro HH HG)
      clear HH HG ht
      go_wp2
      exact bodyPost_end (v := .tuple #[]) (by simp [results, Tryd.results23]) rfl ⟨rfl, HX.out⟩
    · have hte : t.toList.isEmpty = false := by
        rw [Lib.toList_data, Bool.eq_false_iff]
        intro hc
        rw [List.isEmpty_iff] at hc
        exact h0 (by rw [Lib.size_eq, hc]; rfl)
      have hM : (m ++ (bl s).take k).length ≤ 1000000000 := by
        rw [List.length_append, List.length_take]; omega
      have hM2 : (m ++ (bl s).take k).length + t.size ≤ 1000000000 := by
        have := congrArg List.length ht
        simp at this
        rw [List.length_append, List.length_take]; simp; omega
      have HN := Lib.hid (fun (wr' : World) j => @write_next s t H k j m w wr' ht hk)
      clear ht
      generalize m ++ (bl s).take k = M at HH hM hM2 HN
      obtain ⟨f, hf, hh⟩ := HH
      obtain ⟨L, hL⟩ : ∃ L, M.length = L := ⟨_, rfl⟩
      obtain ⟨r, hr⟩ : ∃ r, L % 64 = r := ⟨_, rfl⟩
      rw [hL] at hM hM2
      have c72 : wr.drew.cell? ⟨H, 72, none⟩ = some (.int .u64 L) := by have := (hh.drewN 1).len; rw [hL] at this; exact this
      have w3 : (L : Int) % 64 = (r : Int) := by omega
      have w4 : (L : Int).tmod 64 = (r : Int) := by rw [Int.tmod_eq_emod_of_nonneg (by omega)]; exact w3
      have hr2 : r < 64 := by omega
      have hr3 : (r : Int) < 64 := by omega
      obtain ⟨j, hj⟩ : ∃ j, Nat.min t.size (64 - r) = j := ⟨_, rfl⟩
      have hj1 : j ≤ t.size := by rw [← hj]; exact Nat.min_le_left _ _
      have hj2 : r + j ≤ 64 := by have : Nat.min t.size (64 - r) ≤ 64 - r := Nat.min_le_right _ _; rw [hj] at this; omega
      have hj3 : 1 ≤ j := by rw [← hj]; exact Nat.le_min.2 ⟨by omega, by omega⟩
      have hjl : j ≤ (bl t).length := by show j ≤ t.data.toList.length; rw [← Lib.size_eq]; exact hj1
      have hsl := fun W => slice_block W H r hr2
      have hcp := copy_str wr.drew H (8 + r) (64 - r) (64 - r) j t (hashCells (comp M (M.length / 64)) f M.length) 50 (hh.drewN 1) hj (by rw [hashCells_size]; omega)
      rw [row_copy _ _ _ _ _ (bl t) hjl hj2, hL] at hcp
      have hA : Holds (wr.drew.setRow H (hashCells (comp M (L / 64)) (putF f r j (bl t)) L)) H (hashCells (comp M (L / 64)) (putF f r j (bl t)) L) 50 := by
        have := (hh.drewN 1).row (hashCells (comp M (L / 64)) (putF f r j (bl t)) L)
        exact this
      have HG1 : w.grownBy (wr.drew.setRow H (hashCells (comp M (L / 64)) (putF f r j (bl t)) L)) (some H) :=
        grown_trans (grown_trans HG (grown_of_below (below_drewN (Below.refl _ _) 1))) (grown_setRow _ _ _)
      generalize wr.drew.setRow H (hashCells (comp M (L / 64)) (putF f r j (bl t)) L) = W1 at hcp hA HG1
      have c72' := hA.len
      have f72' := hA.free 72
      have hB : Holds (W1.setCell ⟨H, 72, none⟩ (.int .u64 ((L : Int) + (j : Int)))) H (hashCells (comp M (L / 64)) (putF f r j (bl t)) (L + j)) 50 := by
        have := hA.setc 72 (.int .u64 ((L + j : Nat) : Int))
        rw [set_len] at this
        exact this
      have HG2 : w.grownBy (W1.setCell ⟨H, 72, none⟩ (.int .u64 ((L : Int) + (j : Int)))) (some H) := grown_trans HG1 (grown_setCell _ _ _ _)
      have HB := Lib.hid (And.intro hB HG2)
      clear hA hB HG1 HG2 hh HG
      have hm : (t.extract j t.size).size < t.size := by simp; omega
      by_cases hfull : r + j = 64
      · have hz : ((L : Int) + (j : Int)) % 64 = 0 := by omega
        have HF := Lib.hid (step_full M (bl t) f j hjl (by rw [hL, hr]; exact hfull) hf)
        have HR := Lib.hid hr
        clear hr
        go_wp2
        go_still_tail 10, (by kernel_rfl)
        change wpList _ _ _ _ _ wr.drew
        go_wp2
        generalize W1.setCell ⟨H, 72, none⟩ (.int .u64 ((L : Int) + (j : Int))) = W2 at HB ⊢
        obtain ⟨hB, hG2⟩ := HB.out
        obtain ⟨F1, F2, F3, F4⟩ := HF.out
        rw [hL] at F1 F2 F4
        rw [HR.out] at F4
        generalize List.take 64 (List.drop (64 * (L / 64)) (M ++ List.take j (bl t))) = X at F1 F4
        have hV := comp_ok M (L / 64)
        generalize comp M (L / 64) = V at hB F1 hV
        have hB2 : Holds W2 H (hashCells V (byteAt X) (L + j)) 50 := by
          unfold hashCells at hB ⊢
          rw [rowOf_congr (k := .u8) F4] at hB
          exact hB
        have hT2 : Tab W2 := HT.out.grown hG2 hH
        have hH2 := hB2.lt
        have HB := Lib.hid (And.intro hB2 hG2)
        have HT2 := Lib.hid hT2
        have HF := Lib.hid (And.intro F1 (And.intro F2 F3))
        clear hB hB2 hT2 hG2 F1 F2 F3 F4 HT
        refine wp_region_kept_tail 12 (by kernel_rfl) (by kernel_rfl) ?_
        simp only [List.take_succ_cons, List.take_zero, List.drop_succ_cons, List.drop_zero]
        repeat (go_big_quiet_step (exact fun _ => rfl))
        go_big_quiet_want
        refine quiet_load_arr 37 (.tmp 39) rfl H 0 rfl (rowOf .u32 8 (stAt V)) _ (fun w' hk => range_words (HB.out.1.below hk.below hH2)) Tryd.underlying37 rfl (rsize34 _ _) ?_
        go_simp
        go_big_quiet_on
        repeat (go_big_quiet_step (exact fun _ => rfl))
        go_big_quiet_want
        refine quiet_load_arr 33 (.tmp 43) rfl H 8 rfl (rowOf .u8 64 (byteAt X)) _ (fun w' hk => range_block (HB.out.1.below hk.below hH2)) Tryd.underlying33 rfl (rsize43 _ _) ?_
        go_simp
        go_big_quiet_on
        repeat (go_big_quiet_step ((first | (exact fun _ => rfl) | (intro hk; go_at_call 27; exact hk.call (transform_any V X _ hV (HT2.out.next hk.below))))))
        refine wpQuiet_nil ?_
        intro W3 hk3
        have HK := Lib.hid hk3.below
        clear hk3
        go_wp2_with (refine wpList_store_mid rfl 37 _ _ rfl H 0 (rowOf .u32 8 (stAt (blockSt V X))) rfl rfl ((HB.out.1.below HK.out hH2).there 0 _ (by rw [rowOf_size, hashCells_size]; omega)) (rsize34 _ _) (rowOf_one _ _ _) ?_)
        simp only [Act.put]
        go_roundw
        case rel =>
          have hC := (HB.out.1.below HK.out hH2).setCells (rowOf .u32 8 (stAt (blockSt V X))).toList 0
          rw [putAll_words] at hC
          refine HN.out _ j hj1 ⟨byteAt X, HF.out.2.2 _, ?_⟩ (grown_trans (grown_trans HB.out.2 (grown_of_below HK.out)) (grown_setCells H _ _ 0))
          rw [HF.out.1, HF.out.2.1]
          exact hC
        case measure => exact hm
      · have hz : ((L : Int) + (j : Int)) % 64 = ((r + j : Nat) : Int) := by omega
        have hzb : ((((r + j : Nat) : Int)) == 0) = false := by simp; omega
        have HF := Lib.hid (step_part M (bl t) f j hjl (by rw [hL, hr]; omega) hf)
        have HL := Lib.hid hL
        have HR := Lib.hid hr
        clear hr hL
        go_wp2
        go_still_tail 10, (by kernel_rfl)
        change wpList _ _ _ _ _ wr.drew
        go_wp2
        go_roundw
        case rel =>
          refine HN.out _ j hj1 ?_ HB.out.2
          refine ⟨putF f r j (bl t), ?_, ?_⟩
          · have := HF.out.2.2; rw [HL.out, HR.out] at this; exact this
          · rw [HF.out.1, HF.out.2.1, HL.out]; exact HB.out.1
        case measure => exact hm
end Go.Proofs.YtnndifkilcommaaDoor.Sha
