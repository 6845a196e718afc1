/-
  The law's walk: HeadLong.
-/
import Derived.Test.YtpklmlhioklpoaaDoorHeadLawR
import Derived.Test.YtpklmlhioklpoaaDoorGlyphFold
namespace Go.Proofs.YtpklmlhioklpoaaDoor.Head
open Go Go.RowKit
open Go.Proofs.YtpklmlhioklpoaaDoor.Glyph (Row8)

theorem infoU : (Tryd.prog.info? 5).map (fun i => (i.zero, i.size, i.bytes)) = some (some (.int .u8 0), 1, 1) := by kernel_rfl
theorem row_made (w : World) (n : Nat) : Row8 (w.alloc (.cells (madeCells #[.int .u8 0] n) 5)) w.heap.size (List.replicate n 0) := by
  have hz : (madeCells #[.int .u8 0] n).toList = List.replicate n (.int .u8 0) := by
    unfold madeCells
    apply List.ext_getElem
    · simp
    · intro i h1 h2
      simp [Nat.mod_one]
  have hs : (madeCells #[.int .u8 0] n).size = n := by rw [← Array.length_toList, hz]; simp
  refine ⟨_, _, heap_alloc_new w _, by rw [hs]; simp, .inr rfl, ?_⟩
  rw [hz, List.length_replicate]
  simp [Lib.byteCells]
set_option maxRecDepth 100000 in
set_option maxHeartbeats 4000000 in
theorem headLong_any (n many : Int) (on : Bool) (w : World) (hm : MaxAt w) : Calls Tryd.prog 4 #[.int .i64 n, .int .i64 many, .bool on] w (TrueP w) := by
  have HW := Lib.hid (fun W (h : MaxAt W) => works_any W h)
  have HM := Lib.hid hm
  have HW0 := Lib.hid (HW.out w hm)
  clear hm
  by_cases h1 : n < 2
  · go_enter Tryd.func4, Tryd.ntmps4
    go_wp2_with fail
    refine HW0.out.mono ?_
    rintro e w1 ⟨rfl, hb⟩
    have HB := Lib.hid hb
    clear hb
    go_wp2_with fail
    go_ret
    exact ⟨rfl, HB.out⟩
  by_cases h2 : 1100 < n
  · go_enter Tryd.func4, Tryd.ntmps4
    go_wp2_with fail
    refine HW0.out.mono ?_
    rintro e w1 ⟨rfl, hb⟩
    have HB := Lib.hid hb
    clear hb
    go_wp2_with fail
    go_ret
    exact ⟨rfl, HB.out⟩
  by_cases h3 : many < 0
  · go_enter Tryd.func4, Tryd.ntmps4
    go_wp2_with fail
    refine HW0.out.mono ?_
    rintro e w1 ⟨rfl, hb⟩
    have HB := Lib.hid hb
    clear hb
    go_wp2_with fail
    go_ret
    exact ⟨rfl, HB.out⟩
  by_cases h4 : 120 < many
  · go_enter Tryd.func4, Tryd.ntmps4
    go_wp2_with fail
    refine HW0.out.mono ?_
    rintro e w1 ⟨rfl, hb⟩
    have HB := Lib.hid hb
    clear hb
    go_wp2_with fail
    go_ret
    exact ⟨rfl, HB.out⟩
  obtain ⟨N, rfl⟩ : ∃ N : Nat, n = (N : Int) := ⟨n.toNat, by omega⟩
  obtain ⟨M, rfl⟩ : ∃ M : Nat, many = (M : Int) := ⟨many.toNat, by omega⟩
  have hmk : ∀ W : World, (Instr.makeSlice 32 (.int .i64 (N : Int)) (.int .i64 (N : Int))).run Tryd.prog W = .ok (.slice (some ⟨W.heap.size, 0, none⟩) N N) (W.alloc (.cells (madeCells #[.int .u8 0] N) 5)) :=
    run_make_row' (P := Tryd.prog) 32 5 (.int .u8 0) 1 Tryd.underlying32 infoU rfl .i64 .i64 N (by omega) (by omega)
  have HR0 : Hid (Row8 (w.alloc (.cells (madeCells #[.int .u8 0] N) 5)) w.heap.size (List.replicate N 0) ∧ Below w.heap.size w (w.alloc (.cells (madeCells #[.int .u8 0] N) 5))) := Lib.hid ⟨row_made w N, (Below.refl _ _).alloc (Nat.le_refl _) _⟩
  have HTAIL : Hid (∀ (x : ByteArray) (W : World), x.size ≤ 5000 → Below w.heap.size w W → Calls Tryd.prog 10 #[.string x] W fun e w1 => ∃ v, e = .returned (.tuple #[v, .string (ba (parseB (bl x))), .int .i64 (parseC (bl x))]) ∧ Below w.heap.size w w1 ∧ Calls Tryd.prog 11 #[.string x] w1 fun e w2 => ∃ v2, e = .returned (.tuple #[v2, .string (ba (parseB (bl x))), .int .i64 (parseC (bl x))]) ∧ Calls Tryd.prog 12 #[v, v2] w2 fun e w3 => e = .returned (.bool true) ∧ Calls Tryd.prog 9 #[] w3 fun e w4 => e = .returned (.bool true) ∧ Below w.heap.size w w4) := Lib.hid (fun x W hx hb => by
    have hfew := parse_few (bl x)
    rw [bl_len] at hfew
    refine (parse_any x W (by omega) (HM.out.below hb)).mono ?_
    rintro e w1 ⟨v, rfl, hf⟩
    have hb1 : Below w.heap.size w w1 := hb.trans (hf.2.mono hb.size)
    refine ⟨v, rfl, hb1, (rparse_any x w1 (by omega)).mono ?_⟩
    rintro e w2 ⟨v2, rfl, hf2⟩
    have hb2 : Below w.heap.size w w2 := hb1.trans (hf2.2.mono hb1.size)
    refine ⟨v2, rfl, (same_any v v2 (parseF (bl x)) w2 ((owns_readsF hf.1).below hf2.2) (owns_readsF hf2.1) (by omega)).mono ?_⟩
    rintro e w3 ⟨rfl, hb3⟩
    have hb3' : Below w.heap.size w w3 := hb2.trans (hb3.mono hb2.size)
    refine ⟨rfl, (HW.out w3 (HM.out.below hb3')).mono ?_⟩
    rintro e w4 ⟨rfl, hb4⟩
    exact ⟨rfl, hb3'.trans (hb4.mono hb3'.size)⟩)
  clear HW0
  go_enter Tryd.func4, Tryd.ntmps4
  go_wp2_with fail
  clear hmk
  go_loopw [36] (fun i wr => ∃ (k : Nat) (l : List UInt8), k ≤ N ∧ i = .int .i64 k ∧ l.length = N ∧ Hid (Row8 wr w.heap.size l ∧ Below w.heap.size w wr)) (fun i _ => N - (intOf i).toNat)
  case atStart => exact ⟨0, List.replicate N 0, Nat.zero_le _, rfl, by simp, HR0⟩
  case round =>
    clear HR0
    obtain ⟨k, l, hk, rfl, hl, hR⟩ := hrel
    by_cases hlt : k < N
    · have hcell := hR.out.1.cell (j := k) (by omega)
      have hfree := hR.out.1.free (j := k) (by omega)
      have HN : Hid (Row8 (wr.setCell ⟨w.heap.size, k, none⟩ (.int .u8 120)) w.heap.size (l.set k 120) ∧ Below w.heap.size w (wr.setCell ⟨w.heap.size, k, none⟩ (.int .u8 120))) := Lib.hid ⟨hR.out.1.set k 120, hR.out.2.setCell (p := ⟨w.heap.size, k, none⟩) (Nat.le_refl _) _⟩
      go_wp2_with fail
      go_roundw
      case rel => exact ⟨k + 1, l.set k 120, by omega, by simp, by rw [List.length_set]; exact hl, HN⟩
      case measure => simp [intOf]; omega
    · have h1N : 1 < N := by omega
      have hcell := hR.out.1.cell (j := 1) (by omega)
      have hfree := hR.out.1.free (j := 1) (by omega)
      have hrow := hR.out.1.set 1 58
      have hst := hrow.str (cap := N)
      rw [List.length_set, hl] at hst
      have HB1 : Hid (Below w.heap.size w (wr.setCell ⟨w.heap.size, 1, none⟩ (.int .u8 58))) := Lib.hid (hR.out.2.setCell (p := ⟨w.heap.size, 1, none⟩) (Nat.le_refl _) _)
      obtain ⟨x, hx⟩ : ∃ x : ByteArray, x = Glyph.ba (l.set 1 58) := ⟨_, rfl⟩
      have hxz : x.size = N := by rw [hx, Glyph.ba_size, List.length_set, hl]
      rw [← hx] at hst
      have hst' : (convert 32 9 (.slice (some ⟨w.heap.size, 0, none⟩) N N)).run Tryd.prog (wr.setCell ⟨w.heap.size, 1, none⟩ (.int .u8 58)) = .ok (.string x) (wr.setCell ⟨w.heap.size, 1, none⟩ (.int .u8 58)) := hst
      clear hrow hx hst hR
      obtain ⟨W1, hW1⟩ : ∃ W1, W1 = wr.setCell ⟨w.heap.size, 1, none⟩ (.int .u8 58) := ⟨_, rfl⟩
      rw [← hW1] at HB1 hst'
      have hW1' : wr.setCell ⟨w.heap.size, 1, none⟩ (.int .u8 58) = W1 := hW1.symm
      have hz2 : ∀ y : ByteArray, (y ++ (⟨#[13, 10]⟩ : ByteArray)).size = y.size + 2 := fun y => by rw [ByteArray.size_append]; rfl
      have hz4 : ∀ y : ByteArray, (y ++ (⟨#[32, 121, 13, 10]⟩ : ByteArray)).size = y.size + 4 := fun y => by rw [ByteArray.size_append]; rfl
      have hz5 : ∀ y : ByteArray, (y ++ (⟨#[97, 58, 98, 13, 10]⟩ : ByteArray)).size = y.size + 5 := fun y => by rw [ByteArray.size_append]; rfl
      have HZ := Lib.hid (And.intro hz2 (And.intro hz4 hz5))
      have HXZ := Lib.hid hxz
      have hxz2 : x.size ≤ 1100 := by omega
      clear hW1 hz2 hz4 hz5 hxz
      cases on
      · go_wp2_with fail
        go_loopw [9, 10] (fun sv i wr2 => ∃ (j : Nat) (y : ByteArray), j ≤ M ∧ i = .int .i64 j ∧ sv = .string y ∧ y.size ≤ 4000 ∧ Hid (y.size ≤ 1200 + 5 * j) ∧ W1 = wr2) (fun _ i _ => M - (intOf i).toNat)
        case atStart => exact ⟨0, _, Nat.zero_le _, rfl, rfl, by have := HZ.out.1 x; omega, Lib.hid (by have := HZ.out.1 x; omega), by first | exact hW1' | rfl⟩
        case round =>
          obtain ⟨j, y, hj, rfl, rfl, hy, hY, rfl⟩ := hrel
          by_cases hjl : j < M
          · have hN5 := HZ.out.2.2 y
            have hNY : Hid ((y ++ (⟨#[97, 58, 98, 13, 10]⟩ : ByteArray)).size ≤ 1200 + 5 * (j + 1)) := Lib.hid (by have := hY.out; omega)
            have hNZ : (y ++ (⟨#[97, 58, 98, 13, 10]⟩ : ByteArray)).size ≤ 4000 := by have := hNY.out; omega
            go_wp2_with fail
            go_roundw
            case rel => exact ⟨j + 1, _, by omega, by simp, rfl, hNZ, hNY, trivial⟩
            case measure => simp [intOf]; omega
          · have HT := Lib.hid (HTAIL.out y W1 (by omega) HB1.out)
            generalize ba (parseB (bl y)) = pb at *
            generalize parseC (bl y) = pc at *
            go_wp2_with fail
            refine HT.out.mono ?_
            rintro e w1 ⟨v, rfl, _, hc1⟩
            have HC1 := Lib.hid hc1
            clear hc1
            go_wp2_with fail
            refine HC1.out.mono ?_
            rintro e w2 ⟨v2, rfl, hc2⟩
            have HC2 := Lib.hid hc2
            clear hc2
            go_wp2_with fail
            refine HC2.out.mono ?_
            rintro e w3 ⟨rfl, hc3⟩
            have HC3 := Lib.hid hc3
            clear hc3
            go_wp2_with fail
            refine HC3.out.mono ?_
            rintro e w4 ⟨rfl, hb⟩
            have HB4 := Lib.hid hb
            clear hb
            go_wp2_with fail
            go_ret
            exact ⟨rfl, HB4.out⟩
      · go_wp2_with fail
        go_loopw [9, 10] (fun sv i wr2 => ∃ (j : Nat) (y : ByteArray), j ≤ M ∧ i = .int .i64 j ∧ sv = .string y ∧ y.size ≤ 4000 ∧ Hid (y.size ≤ 1200 + 5 * j) ∧ W1 = wr2) (fun _ i _ => M - (intOf i).toNat)
        case atStart => exact ⟨0, _, Nat.zero_le _, rfl, rfl, by have := HZ.out.1 x; have := HZ.out.2.1 (x ++ ⟨#[13, 10]⟩); omega, Lib.hid (by have := HZ.out.1 x; have := HZ.out.2.1 (x ++ ⟨#[13, 10]⟩); omega), by first | exact hW1' | rfl⟩
        case round =>
          obtain ⟨j, y, hj, rfl, rfl, hy, hY, rfl⟩ := hrel
          by_cases hjl : j < M
          · have hN5 := HZ.out.2.2 y
            have hNY : Hid ((y ++ (⟨#[97, 58, 98, 13, 10]⟩ : ByteArray)).size ≤ 1200 + 5 * (j + 1)) := Lib.hid (by have := hY.out; omega)
            have hNZ : (y ++ (⟨#[97, 58, 98, 13, 10]⟩ : ByteArray)).size ≤ 4000 := by have := hNY.out; omega
            go_wp2_with fail
            go_roundw
            case rel => exact ⟨j + 1, _, by omega, by simp, rfl, hNZ, hNY, trivial⟩
            case measure => simp [intOf]; omega
          · have HT := Lib.hid (HTAIL.out y W1 (by omega) HB1.out)
            generalize ba (parseB (bl y)) = pb at *
            generalize parseC (bl y) = pc at *
            go_wp2_with fail
            refine HT.out.mono ?_
            rintro e w1 ⟨v, rfl, _, hc1⟩
            have HC1 := Lib.hid hc1
            clear hc1
            go_wp2_with fail
            refine HC1.out.mono ?_
            rintro e w2 ⟨v2, rfl, hc2⟩
            have HC2 := Lib.hid hc2
            clear hc2
            go_wp2_with fail
            refine HC2.out.mono ?_
            rintro e w3 ⟨rfl, hc3⟩
            have HC3 := Lib.hid hc3
            clear hc3
            go_wp2_with fail
            refine HC3.out.mono ?_
            rintro e w4 ⟨rfl, hb⟩
            have HB4 := Lib.hid hb
            clear hb
            go_wp2_with fail
            go_ret
            exact ⟨rfl, HB4.out⟩
end Go.Proofs.YtpklmlhioklpoaaDoor.Head
