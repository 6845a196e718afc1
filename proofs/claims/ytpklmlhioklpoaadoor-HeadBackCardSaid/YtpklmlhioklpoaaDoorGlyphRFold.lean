/-
  The document's Fold alone (for seats that do not reach the document's Signs and Clip).
-/
import Derived.Test.YtpklmlhioklpoaaDoorGlyphFold
namespace Go.Proofs.YtpklmlhioklpoaaDoor.Glyph
open Go.RowKit

theorem row_laid (w : World) (ns : List Int) : (convert 32 9 (.slice (some ⟨w.heap.size, 0, none⟩) ns.length ns.length)).run Tryd.prog (w.alloc (.cells (ns.map (Value.int .u8)).toArray 5)) = .ok (.string (strOfNums ns)) (w.alloc (.cells (ns.map (Value.int .u8)).toArray 5)) :=
  run_convert_bytes_arg (P := Tryd.prog) (w.alloc (.cells (ns.map (Value.int .u8)).toArray 5)) 32 5 Tryd.underlying32 Tryd.underlying5 w.heap.size 0 ns.length ns.length ns rfl (fun i hi => by
    rw [Lib.cell_of_heap (heap_alloc_new w _), Nat.zero_add]
    simp [hi]) 9 Tryd.underlying9
theorem laid1 (w : World) (a : Int) : (convert 32 9 (.slice (some ⟨w.heap.size, 0, none⟩) 1 1)).run Tryd.prog (w.alloc (.cells #[.int .u8 a] 5)) = .ok (.string (strOfNums [a])) (w.alloc (.cells #[.int .u8 a] 5)) := row_laid w [a]
theorem strOf_byts (ns : List Nat) : strOfNums (ns.map fun n : Nat => (n : Int)) = ba (ns.map byt) := by
  unfold strOfNums ba
  rw [List.map_map]
  rfl
theorem take_succ_bl (s : ByteArray) (p : Nat) (h : p < s.size) : (bl s).take (p + 1) = (bl s).take p ++ [s[p]'h] := by
  rw [List.take_succ_eq_append_getElem (by rw [bl_len]; exact h)]
  rfl
theorem one_ext (s : ByteArray) (p : Nat) (h : p < s.size) : s.extract p (p + 1) = ba [s[p]'h] := by
  apply ba_ext
  rw [bl_extract, bl_ba, Nat.add_sub_cancel_left]
  rw [List.drop_eq_getElem_cons (by rw [bl_len]; exact h)]
  rfl
def RFoldAt (s : ByteArray) (w : World) (o i : Value) (wr : World) : Prop :=
  ∃ p : Nat, p ≤ s.size ∧ i = .int .i64 p ∧ o = .string (ba (foldL ((bl s).take p))) ∧ Below w.heap.size w wr
set_option maxRecDepth 100000 in
set_option maxHeartbeats 1000000 in
theorem refFold_any (s : ByteArray) (w : World) (hs : s.size ≤ 1000000) :
    Calls Tryd.prog 49 #[.string s] w fun e w' => e = .returned (.string (ba (foldL (bl s)))) ∧ Below w.heap.size w w' := by
  have HI : Hid (RFoldAt s w (.string ⟨#[]⟩) (.int .i64 0) w) := ⟨0, Nat.zero_le _, rfl, rfl, Below.refl _ _⟩
  go_enter Tryd.func49, Tryd.ntmps49
  go_wp2
  go_loopw [3, 4] (fun o i wr => RFoldAt s w o i wr) (fun _ i _ => s.size - (intOf i).toNat)
  case atStart => exact HI.out
  case round =>
    clear HI
    obtain ⟨p, hps, rfl, rfl, hb⟩ := hrel
    have hos : (ba (foldL ((bl s).take p))).size ≤ 1000000 := by
      rw [ba_size]
      unfold foldL
      rw [List.length_map, List.length_take, bl_len]
      omega
    by_cases hp : p < s.size
    · have hp' : (p : Int) < (s.size : Int) := by omega
      have hN : Hid (ba (foldL ((bl s).take (p + 1))) = ba (foldL ((bl s).take p)) ++ ba [fd (s[p]'hp)]) := Lib.hid (by rw [take_succ_bl s p hp, ba_append]; simp [foldL])
      have hf := fd_nat (s[p]'hp)
      have h8 := (s[p]'hp).toNat_lt
      have HB := Lib.hid hb
      have hbs := hb.size
      have hE := Lib.hid (one_ext s p hp)
      have hez : (s.extract p (p + 1)).size = 1 := by rw [hE.out, ba_size]; rfl
      clear hb
      generalize hF : ba (foldL ((bl s).take p)) = o at *
      clear hF
      by_cases c1 : 65 ≤ (s[p]'hp).toNat
      · by_cases c2 : (s[p]'hp).toNat ≤ 90
        · have d1 : (65 : Int) ≤ ((s[p]'hp).toNat : Int) := by omega
          have d2 : ((s[p]'hp).toNat : Int) ≤ 90 := by omega
          have hl := laid1 wr (((s[p]'hp).toNat : Int) + 32)
          have hst : Hid (strOfNums [((s[p]'hp).toNat : Int) + 32] = ba [fd (s[p]'hp)]) := by
            refine Lib.hid ?_
            rw [if_pos ⟨c1, c2⟩] at hf
            have := strOf_byts [(s[p]'hp).toNat + 32]
            simp only [List.map_cons, List.map_nil] at this
            rw [byt_eq (fd (s[p]'hp)) _ hf] at this
            exact this
          rw [hst.out] at hl
          have hqz : (ba [fd (s[p]'hp)]).size = 1 := by rw [ba_size]; rfl
          clear hf
          generalize ba [fd (s[p]'hp)] = q at hl hqz hN
          go_wp2
          go_roundw
          case rel => exact ⟨p + 1, hp, int_eq (by omega), by rw [hN.out], HB.out.alloc hbs _⟩
          case measure => simp [intOf]; omega
        · have d1 : (65 : Int) ≤ ((s[p]'hp).toNat : Int) := by omega
          have d2 : ¬ ((s[p]'hp).toNat : Int) ≤ 90 := by omega
          have hfx : Hid (fd (s[p]'hp) = s[p]'hp) := Lib.hid (by unfold fd; rw [if_neg (by omega)])
          clear hf
          go_wp2
          go_roundw
          case rel => exact ⟨p + 1, hp, int_eq (by omega), by rw [hN.out, hfx.out, ← hE.out], HB.out⟩
          case measure => simp [intOf]; omega
      · have d1 : ¬ (65 : Int) ≤ ((s[p]'hp).toNat : Int) := by omega
        have hfx : Hid (fd (s[p]'hp) = s[p]'hp) := Lib.hid (by unfold fd; rw [if_neg (by omega)])
        clear hf
        go_wp2
        go_roundw
        case rel => exact ⟨p + 1, hp, int_eq (by omega), by rw [hN.out, hfx.out, ← hE.out], HB.out⟩
        case measure => simp [intOf]; omega
    · have hp' : ¬ (p : Int) < (s.size : Int) := by omega
      have hE : Hid ((bl s).take p = bl s) := Lib.hid (List.take_of_length_le (by rw [bl_len]; omega))
      go_wp2
      go_ret
      exact ⟨by rw [hE.out]; rfl, hb⟩
end Go.Proofs.YtpklmlhioklpoaaDoor.Glyph
