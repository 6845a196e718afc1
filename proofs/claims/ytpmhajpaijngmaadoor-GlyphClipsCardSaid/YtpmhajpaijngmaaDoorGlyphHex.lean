/-
  Numbers in base 16: strconv.FormatInt and the document's Hex.
-/
import Derived.Test.YtpmhajpaijngmaaDoorGlyphSigns
import Derived.Lib.TrailingZeros
import Derived.Laws.Bits64b
namespace Go.Proofs.YtpmhajpaijngmaaDoor.Glyph
open Go.RowKit

/-- The place of the table of the library that is read. -/
def Tab (w : World) : Prop := w.cell? ⟨2, 15, none⟩ = some (.int .u8 4)
theorem cell_lt {w : World} {b o : Nat} {x : Value} (h : w.cell? ⟨b, o, none⟩ = some x) : b < w.heap.size := by
  by_cases hl : b < w.heap.size
  · exact hl
  · have : w.heap[b]? = none := by simp; omega
    simp [World.cell?, this] at h
theorem Tab.below {w w' : World} (h : Tab w) (hb : Below w.heap.size w w') : Tab w' := by
  unfold Tab
  rw [hb.cell (p := ⟨2, 15, none⟩) (cell_lt h)]
  exact h
set_option maxHeartbeats 1000000 in
theorem tz64_any (w : World) (ht : Tab w) :
    Calls Tryd.prog 52 #[.int .u64 16] w fun e w' => e = .returned (.int .i64 4) ∧ w = w' := by
  have hcell : w.cell? ⟨2, 15, none⟩ = some (.int .u8 4) := ht
  have key : IntKind.u64.wrap (bits BinOp.and IntKind.u64 16 (IntKind.u64.wrap (-16)) * 285870213051353865) / 288230376151711744 = 15 := by decide +kernel
  go_enter Tryd.func52, Tryd.ntmps52
  go_wp2_with (simp only [key])
  go_ret
  exact ⟨rfl, rfl⟩
set_option maxHeartbeats 1000000 in
theorem tz_any (w : World) (ht : Tab w) :
    Calls Tryd.prog 50 #[.int .u64 16] w fun e w' => e = .returned (.int .i64 4) ∧ w = w' := by
  go_enter Tryd.func50, Tryd.ntmps50
  go_wp2_with fail
  refine (tz64_any _ ht).mono ?_
  rintro e w' ⟨rfl, rfl⟩
  go_wp2
  go_ret
  exact ⟨rfl, rfl⟩
set_option maxHeartbeats 1000000 in
theorem pow2_any (w : World) :
    Calls Tryd.prog 49 #[.int .i64 16] w fun e w' => e = .returned (.bool true) ∧ w = w' := by
  have key : bits BinOp.and IntKind.i64 16 15 = 0 := by decide +kernel
  go_enter Tryd.func49, Tryd.ntmps49
  go_wp2
  go_ret
  exact ⟨rfl, rfl⟩

def zs (n : Nat) (acc : List UInt8) : List Value := Lib.byteCells (List.replicate n 0 ++ acc)
theorem zs_len (n : Nat) (acc : List UInt8) : (zs n acc).length = n + acc.length := by simp [zs, Lib.byteCells]
theorem zs_set (n : Nat) (acc : List UInt8) (c : UInt8) : (zs (n + 1) acc).toArray.setIfInBounds n (.int .u8 (c.toNat : Int)) = (zs n (c :: acc)).toArray := by
  apply Array.ext'
  rw [Array.toList_setIfInBounds]
  show (zs (n + 1) acc).set n _ = zs n (c :: acc)
  unfold zs Lib.byteCells
  rw [List.replicate_succ', List.append_assoc, List.map_append, List.map_append, List.set_append, if_neg (by simp)]
  simp
theorem zs_get (n : Nat) (acc : List UInt8) : (zs (n + 1) acc).toArray[n]? = some (.int .u8 0) := by
  unfold zs Lib.byteCells
  rw [List.getElem?_toArray, List.getElem?_map, List.getElem?_append_left (by simp)]
  simp
theorem zero_arr_at : (Tryd.prog.info? 67).map (·.zero) = some (some (.agg (zs 65 []).toArray)) := by kernel_rfl
theorem zero_arr (w : World) : (zeroValue 67).run Tryd.prog w = .ok (.agg (zs 65 []).toArray) w := by
  have h := zero_arr_at
  cases hq : Tryd.prog.info? 67 with
  | none => rw [hq] at h; cases h
  | some i =>
    rw [hq] at h
    have h2 : i.zero = some (.agg (zs 65 []).toArray) := by simpa using h
    simp [zeroValue, typeInfo, hq, h2]
theorem zs_str (W : World) (g n : Nat) (acc : List UInt8) (T : TypeId) (fz : Nat × Nat) (hg : W.heap[g]? = some (.cells (zs n acc).toArray T fz)) :
    (convert 38 9 (.slice (some ⟨g, n, none⟩) acc.length acc.length)).run Tryd.prog W = .ok (.string (ba acc)) W := by
  have e := run_convert_bytes_arg (P := Tryd.prog) W 38 5 Tryd.underlying38 Tryd.underlying5 g n acc.length acc.length (acc.map fun b => (b.toNat : Int)) (by simp) (fun i hi => by
    rw [cell_of_row W g (n + i) _ _ _ hg]
    unfold zs Lib.byteCells
    rw [List.getElem?_toArray, List.map_append, List.getElem?_append_right (by simp)]
    simp [hi]) 9 Tryd.underlying9
  rw [e, strOf_bytes]
def digs36 : ByteArray := ⟨#[48, 49, 50, 51, 52, 53, 54, 55, 56, 57, 97, 98, 99, 100, 101, 102, 103, 104, 105, 106, 107, 108, 109, 110, 111, 112, 113, 114, 115, 116, 117, 118, 119, 120, 121, 122]⟩
theorem digs36_at : ∀ d : Nat, d < 16 → ∃ h : d < digs36.size, digs36[d]'h = hx d := by decide +kernel
def HexAt (N : Nat) (w : World) (u i : Value) (wr : World) : Prop :=
  ∃ (n k : Nat) (acc : List UInt8), u = .int .u64 n ∧ i = .int .i64 k ∧ k + acc.length = 65 ∧ acc.length ≤ 5 ∧ n < 16 ^ (6 - acc.length) ∧ wr.heap[w.heap.size]? = some (.cells (zs k acc).toArray 67 (0, 0)) ∧ Below w.heap.size w wr ∧ Hid (hexL n ++ acc = hexL N)
theorem hex_bound (n k : Nat) (hk : k ≤ 5) (h : n < 16 ^ (6 - k)) (h16 : 16 ≤ n) : k + 1 ≤ 5 ∧ n / 16 < 16 ^ (6 - (k + 1)) := by
  have : k = 0 ∨ k = 1 ∨ k = 2 ∨ k = 3 ∨ k = 4 ∨ k = 5 := by omega
  rcases this with rfl | rfl | rfl | rfl | rfl | rfl <;> simp at h ⊢ <;> omega
theorem hex_small (n k : Nat) (h : n < 16 ^ (6 - k)) : n < 16777216 :=
  Nat.lt_of_lt_of_le h (Nat.le_trans (Nat.pow_le_pow_right (by decide) (Nat.sub_le 6 k)) (by decide))
set_option maxRecDepth 100000 in
set_option maxHeartbeats 2000000 in
theorem bits16_any (N : Nat) (w : World) (hN : N < 16777216) (ht : Tab w) :
    Calls Tryd.prog 45 #[.slice none 0 0, .int .u64 N, .int .i64 16, .bool false, .bool false] w fun e w' => e = .returned (.tuple #[.slice none 0 0, .string (ba (hexL N))]) ∧ Below w.heap.size w w' := by
  have hz := zero_arr
  have hzl := zs_len 65 []
  have HI : Hid (HexAt N w (.int .u64 N) (.int .i64 65) (w.alloc (.cells (zs 65 []).toArray 67))) := ⟨N, 65, [], rfl, rfl, rfl, by decide, hN, heap_alloc_new w _, (Below.refl _ w).alloc (Nat.le_refl _) _, Lib.hid (by simp)⟩
  have ht1 : Tab (w.alloc (.cells (zs 65 []).toArray 67)) := ht.below ((Below.refl _ w).alloc (Nat.le_refl _) _)
  have hD := Lib.hid digs36_at
  generalize zs 65 [] = Z at *
  go_enter Tryd.func45, Tryd.ntmps45
  go_wp2_with fail
  refine (pow2_any _).mono ?_
  rintro e w' ⟨rfl, rfl⟩
  go_wp2_with fail
  refine (tz_any _ ht1).mono ?_
  rintro e w' ⟨rfl, rfl⟩
  go_wp2
  go_loopw [1, 13] (fun u i wr => HexAt N w u i wr) (fun u _ _ => (intOf u).toNat)
  case atStart => exact HI.out
  case round =>
    clear HI
    obtain ⟨n, k, acc, rfl, rfl, hk, ha, hn, hg, hb, hx⟩ := hrel
    have hn2 := hex_small _ _ hn
    by_cases h16 : 16 ≤ n
    · have h16' : (16 : Int) ≤ (n : Int) := by omega
      obtain ⟨m, rfl⟩ : ∃ m, k = m + 1 := ⟨k - 1, by omega⟩
      obtain ⟨hka, hna⟩ := hex_bound n acc.length ha hn h16
      obtain ⟨d, hd⟩ : ∃ d, n % 16 = d := ⟨_, rfl⟩
      obtain ⟨q, hq⟩ : ∃ q, n / 16 = q := ⟨_, rfl⟩
      have hq2 : q < n := by omega
      rw [hq] at hna
      have hand : bits BinOp.and IntKind.u64 (n : Int) 15 = (d : Int) := by
        have := bits_and_u64_nat n 15 (by omega) (by decide)
        rw [show n &&& 15 = n % 16 from Nat.and_two_pow_sub_one_eq_mod n 4, hd] at this
        exact this
      have hdiv : (n : Int) / 16 = (q : Int) := by omega
      obtain ⟨hs, hc⟩ := hD.out d (by omega)
      have HX : Hid (hexL q ++ Glyph.hx d :: acc = hexL N) := Lib.hid (by rw [← hx.out, hexL_high (n := n) (by omega), hd, hq]; simp)
      have hcell : wr.cell? ⟨w.heap.size, m, none⟩ = some (.int .u8 0) := by rw [cell_of_row wr w.heap.size m _ _ _ hg]; exact zs_get m acc
      have hfree := frozen_of_row wr w.heap.size m _ _ hg
      have hd36 : (d : Int) < 36 := by omega
      have HG := Lib.hid hg
      have HB := Lib.hid hb
      clear hg hb hD hn
      go_wp2
      go_roundw
      case rel =>
        have hall : ∀ c : UInt8, c = Glyph.hx d → HexAt N w (.int .u64 q) (.int .i64 m) (wr.setCell ⟨w.heap.size, m, none⟩ (.int .u8 (c.toNat : Int))) := by
          rintro c rfl
          refine ⟨q, m, Glyph.hx d :: acc, rfl, rfl, ?_, hka, hna, ?_, HB.out.setCell (p := ⟨w.heap.size, m, none⟩) (Nat.le_refl _) _, HX⟩
          · rw [List.length_cons]; omega
          · rw [heap_setCell_same wr w.heap.size m _ _ _ HG.out, zs_set]
        exact hall _ hc
      case measure => simp [intOf]; omega
    · have h16' : ¬ (16 : Int) ≤ (n : Int) := by omega
      obtain ⟨m, rfl⟩ : ∃ m, k = m + 1 := ⟨k - 1, by omega⟩
      have hcell : wr.cell? ⟨w.heap.size, m, none⟩ = some (.int .u8 0) := by rw [cell_of_row wr w.heap.size m _ _ _ hg]; exact zs_get m acc
      have hfree := frozen_of_row wr w.heap.size m _ _ hg
      have hd36 : (n : Int) < 36 := by omega
      obtain ⟨hs, hc⟩ := hD.out n (by omega)
      have hst : ∀ c : UInt8, c = Glyph.hx n → (convert 38 9 (.slice (some ⟨w.heap.size, m, none⟩) (acc.length + 1) (acc.length + 1))).run Tryd.prog (wr.setCell ⟨w.heap.size, m, none⟩ (.int .u8 (c.toNat : Int))) = .ok (.string (ba (hexL N))) (wr.setCell ⟨w.heap.size, m, none⟩ (.int .u8 (c.toNat : Int))) := by
        rintro c rfl
        have hg2 := heap_setCell_same wr w.heap.size m _ _ (.int .u8 ((Glyph.hx n).toNat : Int)) hg
        rw [zs_set] at hg2
        have e := zs_str _ w.heap.size m (Glyph.hx n :: acc) _ _ hg2
        rw [← hx.out, hexL_low (by omega)]
        exact e
      have hsl : ∀ W, (Instr.sliceAt 67 (.pointer (some ⟨w.heap.size, 0, none⟩)) (some (.int .i64 m)) none none).run Tryd.prog W = .ok (.slice (some ⟨w.heap.size, m, none⟩) (acc.length + 1) (acc.length + 1)) W := fun W => by
        have hal : Tryd.prog.arrayLen 67 = 65 := by simp [Program.arrayLen, Tryd.underlying67]
        rw [run_sliceAt_array_l W 67 ⟨w.heap.size, 0, none⟩ (by simp [Program.arrayLen, Program.elem, Tryd.underlying67]) .i64 (m : Int) (by omega) (by rw [hal]; omega)]
        go_simp
        omega
      have HG := Lib.hid hg
      have HB := Lib.hid hb
      have HST := Lib.hid hst
      clear hg hb hD hn hst
      go_wp2
      erw [HST.out _ hc]
      simp only [Result.andThen]
      rw [Oper.upon_value]
      go_wp2
      go_ret2
      exact ⟨rfl, HB.out.setCell (p := ⟨w.heap.size, m, none⟩) (Nat.le_refl _) _⟩
end Go.Proofs.YtpmhajpaijngmaaDoor.Glyph
