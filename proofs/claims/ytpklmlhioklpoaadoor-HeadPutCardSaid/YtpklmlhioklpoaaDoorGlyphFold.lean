/-
  Fold and the document's Fold.
-/
import Derived.Test.YtpklmlhioklpoaaDoorGlyphCount
import Derived.Laws.IdiomStrings
import Derived.Lib.UnsafeStr
namespace Go.Proofs.YtpklmlhioklpoaaDoor.Glyph
open Go.RowKit

/-- A block whose first bytes are these, and may be written. -/
def Row8 (w : World) (g : Nat) (l : List UInt8) : Prop :=
  ∃ cur fz, w.heap[g]? = some (.cells cur 5 fz) ∧ l.length ≤ cur.size ∧ (cur.size ≤ fz.1 ∨ fz = (0, 0)) ∧ cur.toList.take l.length = Lib.byteCells l
theorem Row8.lt {w : World} {g : Nat} {l : List UInt8} (h : Row8 w g l) : g < w.heap.size := by
  obtain ⟨cur, fz, hg, _⟩ := h
  exact (Array.getElem?_eq_some_iff.1 hg).1
theorem Row8.cell {w : World} {g : Nat} {l : List UInt8} (h : Row8 w g l) {j : Nat} (hj : j < l.length) : w.cell? ⟨g, j, none⟩ = some (.int .u8 (l[j].toNat : Int)) := by
  obtain ⟨cur, fz, hg, hl, hf, ht⟩ := h
  rw [cell_of_row w g j cur _ fz hg]
  have e : (cur.toList.take l.length)[j]? = (Lib.byteCells l)[j]? := by rw [ht]
  rw [List.getElem?_take, if_pos hj] at e
  simpa [Lib.byteCells, hj] using e
theorem Row8.free {w : World} {g : Nat} {l : List UInt8} (h : Row8 w g l) {j : Nat} (hj : j < l.length) : w.frozen? ⟨g, j, none⟩ = false := by
  obtain ⟨cur, fz, hg, hl, hf, ht⟩ := h
  unfold World.frozen?
  rw [hg]
  obtain ⟨lo, hi⟩ := fz
  rcases hf with hf | hf
  · have : ¬ lo ≤ j := by
      have : cur.size ≤ lo := hf
      omega
    simp [this]
  · cases hf; simp
theorem Row8.iterAt {w : World} {g : Nat} {l : List UInt8} (h : Row8 w g l) {k : Nat} (hk : g ≠ k) (s : ByteArray) (p : Nat) : Row8 (w.iterAt k s p) g l := by
  obtain ⟨cur, fz, hg, rest⟩ := h
  exact ⟨cur, fz, by rw [Lib.iterAt_other w k g s p hk]; exact hg, rest⟩
theorem Row8.alloc {w : World} {g : Nat} {l : List UInt8} (h : Row8 w g l) (o : Obj) : Row8 (w.alloc o) g l := by
  have hl := h.lt
  obtain ⟨cur, fz, hg, rest⟩ := h
  exact ⟨cur, fz, by rw [Below.heap_alloc w o g hl]; exact hg, rest⟩
theorem Row8.set {w : World} {g : Nat} {l : List UInt8} (h : Row8 w g l) (j : Nat) (c : UInt8) : Row8 (w.setCell ⟨g, j, none⟩ (.int .u8 (c.toNat : Int))) g (l.set j c) := by
  obtain ⟨cur, fz, hg, hl, hf, ht⟩ := h
  refine ⟨cur.setIfInBounds j (.int .u8 (c.toNat : Int)), fz, ?_, by simpa using hl, by simpa using hf, ?_⟩
  · simp [World.setCell, Array.getElem?_modify, hg]
  · rw [List.length_set, Array.toList_setIfInBounds, List.take_set, ht]
    simp [Lib.byteCells, List.map_set]
theorem strOf_bytes (l : List UInt8) : strOfNums (l.map fun b => (b.toNat : Int)) = ba l := by
  unfold strOfNums ba
  rw [List.map_map]
  have e2 : l.map ((fun n : Int => UInt8.ofNat n.toNat) ∘ fun b : UInt8 => (b.toNat : Int)) = l := by
    conv => rhs; rw [← List.map_id l]
    apply List.map_congr_left
    intro b _
    show UInt8.ofNat b.toNat = b
    exact UInt8.ofNat_toNat
  rw [e2]
theorem Row8.str {w : World} {g cap : Nat} {l : List UInt8} (h : Row8 w g l) :
    (convert 32 9 (.slice (some ⟨g, 0, none⟩) l.length cap)).run Tryd.prog w = .ok (.string (ba l)) w := by
  have e := run_convert_bytes_arg (P := Tryd.prog) w 32 5 Tryd.underlying32 Tryd.underlying5 g 0 l.length cap (l.map fun b => (b.toNat : Int)) (by simp) (fun i hi => by
    rw [Nat.zero_add, h.cell hi]
    simp [hi]) 9 Tryd.underlying9
  rw [e, strOf_bytes]
theorem bytes_start (s : ByteArray) (w : World) (hl : s.size < 1000000000) : ∃ w' cap, (convert 9 32 (.string s)).run Tryd.prog w = .ok (.slice (some ⟨w.heap.size, 0, none⟩) s.size cap) w' ∧ s.size ≤ cap ∧ cap ≤ maxLen ∧ w'.heap.size = w.heap.size + 1 ∧ Row8 w' w.heap.size (bl s) ∧ Below w.heap.size w w' := by
  have hr := run_bytes_of_string (P := Tryd.prog) w 9 32 5 s Tryd.underlying9 Tryd.underlying32 Tryd.underlying5
  have hge := grownCap_ge w s.size 0 5
  have hle := grownCap_le_maxLen w s.size 0 5 (by simp only [maxLen]; omega)
  have hlen := bl_len s
  have hd : s.data.size = s.size := rfl
  refine ⟨_, _, hr, hge, hle, by simp, ⟨_, _, heap_alloc_new w.drew _, ?_, .inl (Nat.le_refl _), ?_⟩, (Below.drew (Below.refl _ _)).alloc (Nat.le_refl _) _⟩
  · unfold bytesRow
    simp [hd]
  · unfold bytesRow
    rw [Array.toList_append, List.take_append_of_le_length (by simp), List.take_of_length_le (by simp)]
    simp [Lib.byteCells]

/-- The text, folded as far as p. -/
def foldTo (l : List UInt8) (p : Nat) : List UInt8 := foldL (l.take p) ++ l.drop p
theorem foldTo_zero (l : List UInt8) : foldTo l 0 = l := by simp [foldTo, foldL]
theorem foldTo_len (l : List UInt8) (p : Nat) : (foldTo l p).length = l.length := by
  unfold foldTo foldL
  rw [List.length_append, List.length_map, List.length_take, List.length_drop]
  omega
theorem foldTo_end (l : List UInt8) (p : Nat) (h : l.length ≤ p) : foldTo l p = foldL l := by
  unfold foldTo
  rw [List.take_of_length_le h, List.drop_eq_nil_of_le h, List.append_nil]
theorem take_add' (l : List UInt8) (p k : Nat) : l.take (p + k) = l.take p ++ (l.drop p).take k := List.take_add
theorem foldTo_next {s : ByteArray} {p r k : Nat} (hp : p < s.size) (H : AtHand s p r k) :
    foldTo (bl s) (p + k) = if 65 ≤ r ∧ r ≤ 90 then (foldTo (bl s) p).set p (byt (r + 32)) else foldTo (bl s) p := by
  have hf := fold_piece _ (drop_ne s p hp)
  rw [H.2.2, H.one] at hf
  have hl : (foldL ((bl s).take p)).length = p := by
    unfold foldL
    rw [List.length_map, List.length_take, bl_len]
    omega
  unfold foldTo
  rw [take_add', show foldL ((bl s).take p ++ ((bl s).drop p).take k) = foldL ((bl s).take p) ++ foldL (((bl s).drop p).take k) from List.map_append, hf, List.append_assoc]
  split
  · rename_i g
    have hw := (low_piece _ (drop_ne s p hp) (by rw [H.one]; omega)).1
    rw [H.2.2] at hw
    subst hw
    rw [List.set_append, if_neg (by omega), hl, Nat.sub_self, ← List.drop_drop]
    congr 1
    cases hd : (bl s).drop p with
    | nil => exact absurd hd (drop_ne s p hp)
    | cons c t => rfl
  · rw [← drop_drop, List.take_append_drop]
theorem foldTo_at {s : ByteArray} {p r k : Nat} (hp : p < s.size) (H : AtHand s p r k) (h : r ≤ 90) : ∃ hj : p < (foldTo (bl s) p).length, ((foldTo (bl s) p)[p]).toNat = r := by
  have hj : p < (foldTo (bl s) p).length := by rw [foldTo_len, bl_len]; exact hp
  refine ⟨hj, ?_⟩
  have hw := (low_piece _ (drop_ne s p hp) (by rw [H.one]; omega)).2
  rw [H.one] at hw
  have hl : (foldL ((bl s).take p)).length = p := by
    unfold foldL
    rw [List.length_map, List.length_take, bl_len]
    omega
  have e : (foldTo (bl s) p)[p]? = ((bl s).drop p)[0]? := by
    unfold foldTo
    rw [List.getElem?_append_right (by omega), hl, Nat.sub_self]
  rw [List.getElem?_eq_getElem hj] at e
  rw [List.getD_eq_getElem?_getD, ← e] at hw
  exact hw
def FoldAt (s : ByteArray) (w wr : World) (p : Nat) : Prop := Row8 wr w.heap.size (foldTo (bl s) p) ∧ wr.heap[w.heap.size + 1]? = some (.stringIter s p) ∧ Below w.heap.size w wr
set_option maxRecDepth 100000 in
set_option maxHeartbeats 1000000 in
theorem fold_any (s : ByteArray) (w : World) (hs : s.size ≤ 1000000) :
    Calls Tryd.prog 53 #[.string s] w fun e w' => e = .returned (.string (ba (foldL (bl s)))) ∧ Below w.heap.size w w' := by
  obtain ⟨w1, cap, hr1, hc1, hc2, hz1, hrow, hb1⟩ := bytes_start s w (by omega)
  have hc3 : (s.size : Int) ≤ (cap : Int) := by omega
  go_enter Tryd.func53, Tryd.ntmps53
  have HI : Hid (FoldAt s w (w1.iter s 0) 0) := by
    refine ⟨?_, ?_, ?_⟩
    · rw [foldTo_zero]; exact hrow.alloc _
    · rw [← hz1]; exact World.iter_heap w1 s 0
    · exact hb1.alloc (by omega) _
  clear hrow hb1
  go_wp2
  go_loopw [] (fun wr => ∃ p, p ≤ s.size ∧ Hid (FoldAt s w wr p)) (fun wr => s.size - wr.iterPos (w.heap.size + 1))
  case atStart => exact ⟨0, Nat.zero_le _, HI⟩
  case round =>
    clear HI
    obtain ⟨p, hps, hI⟩ := hrel
    have hit := hI.out.2.1
    by_cases hp : p < s.size
    · obtain ⟨r, k, H, hd, hk, hk2, hr⟩ := at_hand s p hp
      have hnx : ∀ ty, (Instr.next (.pointer (some ⟨w.heap.size + 1, 0, none⟩)) true ty).run Tryd.prog wr = .ok (.tuple #[.bool true, .int .i64 p, .int .i32 r]) (wr.iterAt (w.heap.size + 1) s (p + k)) := fun ty => by
        have := Lib.run_next_any_at (P := Tryd.prog) wr (w.heap.size + 1) s p ty hit hp
        rw [hd] at this
        exact this
      clear hd
      have hN := Lib.hid (foldTo_next hp H.out)
      have hrow2 := hI.out.1.iterAt (k := w.heap.size + 1) (by omega) s (p + k)
      have hit2 := Lib.hid (Lib.iterAt_heap wr (w.heap.size + 1) s p (p + k) hit)
      have hb2 := Lib.hid (Lib.below_iterAt hI.out.2.2 (k := w.heap.size + 1) (by omega) s (p + k))
      have hm : Hid (wr.iterPos (w.heap.size + 1) = p) := Lib.hid (by simp only [World.iterPos, hit])
      clear hit
      by_cases h65 : 65 ≤ r ∧ r ≤ 90
      · obtain ⟨hj, he⟩ := foldTo_at hp H.out h65.2
        have hcell := hrow2.cell hj
        have hfree := hrow2.free hj
        rw [he] at hcell
        have H1 : (65 : Int) ≤ (r : Int) := by omega
        have H2 : (r : Int) ≤ 90 := by omega
        have hset := Lib.hid (hrow2.set p (byt (r + 32)))
        have hbyt := Lib.hid (byt_nat (r + 32) (by omega))
        clear hrow2 he
        go_wp2
        go_roundw
        case rel =>
          refine ⟨p + k, hk2, Lib.hid ⟨?_, ?_, ?_⟩⟩
          · rw [hN.out, if_pos h65]
            have := hset.out
            rw [hbyt.out] at this
            exact this
          · rw [heap_setCell_other _ _ _ _ (by show w.heap.size + 1 ≠ w.heap.size; omega)]
            exact hit2.out
          · exact hb2.out.setCell (p := ⟨w.heap.size, p, none⟩) (Nat.le_refl _) _
        case measure =>
          have e1 : ∀ v, ((wr.iterAt (w.heap.size + 1) s (p + k)).setCell ⟨w.heap.size, p, none⟩ v).iterPos (w.heap.size + 1) = p + k := fun v => by
            simp only [World.iterPos]
            rw [heap_setCell_other _ _ _ _ (by show w.heap.size + 1 ≠ w.heap.size; omega), hit2.out]
          rw [hm.out, e1]
          omega
      · have H1 : ((decide ((65 : Int) ≤ (r : Int))) && (decide ((r : Int) ≤ 90))) = false := by
          rw [Bool.eq_false_iff]
          simp only [ne_eq, Bool.and_eq_true, decide_eq_true_eq]
          omega
        clear hrow2
        have hrow2 := Lib.hid (hI.out.1.iterAt (k := w.heap.size + 1) (by omega) s (p + k))
        by_cases g1 : 65 ≤ r
        · have G1 : (65 : Int) ≤ (r : Int) := by omega
          have G2 : ¬ (r : Int) ≤ 90 := by omega
          clear H1
          go_wp2
          go_roundw
          case rel => exact ⟨p + k, hk2, Lib.hid ⟨by rw [hN.out, if_neg h65]; exact hrow2.out, hit2.out, hb2.out⟩⟩
          case measure =>
            rw [hm.out]
            simp only [World.iterPos, hit2.out]
            omega
        · have G1 : ¬ (65 : Int) ≤ (r : Int) := by omega
          clear H1
          go_wp2
          go_roundw
          case rel => exact ⟨p + k, hk2, Lib.hid ⟨by rw [hN.out, if_neg h65]; exact hrow2.out, hit2.out, hb2.out⟩⟩
          case measure =>
            rw [hm.out]
            simp only [World.iterPos, hit2.out]
            omega
    · have hnx : ∀ ty, (Instr.next (.pointer (some ⟨w.heap.size + 1, 0, none⟩)) true ty).run Tryd.prog wr = _ := fun ty => Lib.run_next_end_at wr (w.heap.size + 1) s p ty hit hp
      have hst := hI.out.1.str (cap := cap)
      rw [foldTo_len, bl_len, foldTo_end _ _ (by rw [bl_len]; omega)] at hst
      clear hit
      go_wp2
      go_ret
      exact ⟨rfl, hI.out.2.2⟩
end Go.Proofs.YtpklmlhioklpoaaDoor.Glyph
