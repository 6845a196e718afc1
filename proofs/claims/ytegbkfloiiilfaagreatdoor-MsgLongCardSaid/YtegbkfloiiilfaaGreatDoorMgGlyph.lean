/-
  Walks of glyph, and of the document Fold.
-/
import Derived.Test.YtegbkfloiiilfaaGreatDoorMgPlain
import Derived.Test.YtegbkfloiiilfaaGreatDoorProg
import Derived.WalkKit
import Derived.WalkSpells
import Derived.WalkLawsBesides
import Derived.WalkSmall
import Derived.ShutString
import Derived.RegionTactic
import Derived.Lib.Walk
import Derived.Lib.Strings
import Derived.Lib.OthersKept
import Derived.Lib.Hide
import Derived.Below
import Derived.Laws.BitsAllLaws
import Derived.Laws.BytesArg
import Derived.Laws.Rows
import Derived.Laws.Tables
import Derived.Outline
import Derived.Laws.IdiomStrings
import Derived.Lib.UnsafeStr

/-
  The small tests of runes at this program, and the runes of a text as the range over a string gives them.
-/
namespace Go.Proofs.YtegbkfloiiilfaaGreatDoor.Glyph
open Go.RowKit

theorem ret_int {k : IntKind} {a b : Int} (h : a = b) : Ending.returned (.int k a) = .returned (.int k b) := by rw [h]
theorem int_eq {k : IntKind} {a b : Int} (h : a = b) : Value.int k a = .int k b := by rw [h]
abbrev bl (s : ByteArray) : List UInt8 := s.data.toList
abbrev ba (l : List UInt8) : ByteArray := ⟨l.toArray⟩
theorem bl_len (s : ByteArray) : (bl s).length = s.size := by show s.data.toList.length = _; rw [← Lib.size_eq]
theorem ba_size (l : List UInt8) : (ba l).size = l.length := by simp [ByteArray.size]
theorem bl_ba (l : List UInt8) : bl (ba l) = l := by simp
theorem ba_bl (s : ByteArray) : ba (bl s) = s := by simp
theorem ba_append (l m : List UInt8) : ba l ++ ba m = ba (l ++ m) := by
  apply ByteArray.ext
  rw [ByteArray.data_append]
  simp
theorem toList_bl (a : ByteArray) : a.toList = bl a := Lib.toList_data a
theorem bl_extract (s : ByteArray) (a b : Nat) : bl (s.extract a b) = ((bl s).drop a).take (b - a) := by
  exact Lib.extract_data s a b
theorem bl_from (s : ByteArray) (a : Nat) : bl (s.extract a s.size) = (bl s).drop a := by
  rw [bl_extract, List.take_of_length_le]
  rw [List.length_drop, bl_len]
  omega
theorem bl_to (s : ByteArray) (b : Nat) : bl (s.extract 0 b) = (bl s).take b := by rw [bl_extract]; simp
theorem ba_ext {a b : ByteArray} (h : bl a = bl b) : a = b := by rw [← ba_bl a, h, ba_bl]
theorem drop_ne (s : ByteArray) (p : Nat) (h : p < s.size) : (bl s).drop p ≠ [] := by
  intro e
  have := congrArg List.length e
  rw [List.length_drop, bl_len, List.length_nil] at this
  omega
theorem drop_end (s : ByteArray) (p : Nat) (h : ¬ p < s.size) : (bl s).drop p = [] := List.drop_eq_nil_of_le (by rw [bl_len]; omega)
theorem drop_drop (l : List UInt8) (p k : Nat) : (l.drop p).drop k = l.drop (p + k) := List.drop_drop

theorem get_bl (s : ByteArray) (p i : Nat) : (s.get! (p + i)).toNat = at4 ((bl s).drop p) i := by
  unfold at4
  rw [List.getD_eq_getElem?_getD, List.getElem?_drop]
  by_cases h : p + i < s.size
  · rw [List.getElem?_eq_getElem (by rw [bl_len]; exact h)]
    show (s.data[p + i]!).toNat = (s.data.toList[p + i]'(by rw [bl_len]; exact h)).toNat
    rw [getElem!_pos s.data (p + i) h]
    rfl
  · rw [List.getElem?_eq_none (by rw [bl_len]; omega)]
    have : s.get! (p + i) = 0 := by
      show s.data[p + i]! = 0
      rw [getElem!_neg _ _ (by exact h)]
      rfl
    rw [this]; rfl
/-- The model's rune at a place is the rune that the rest of the text begins with. -/
theorem decode_dec (s : ByteArray) (p : Nat) : Utf8.decode s p = dec ((bl s).drop p) := by
  rw [Lib.decode_at]
  unfold dec
  rw [show s.get! p = s.get! (p + 0) from rfl, get_bl, get_bl, get_bl, get_bl, List.length_drop, bl_len]
/-- All that a round knows of the rune at hand. -/
def AtHand (s : ByteArray) (p r k : Nat) : Prop := Utf8.decode s p = (r, k) ∧ dec ((bl s).drop p) = (r, k) ∧ wd ((bl s).drop p) = k
theorem at_hand (s : ByteArray) (p : Nat) (h : p < s.size) : ∃ r k, Hid (AtHand s p r k) ∧ Utf8.decode s p = (r, k) ∧ 1 ≤ k ∧ p + k ≤ s.size ∧ r ≤ 1114111 := by
  have hne := drop_ne s p h
  have h1 := wd_pos _ hne
  have h2 := dec_le _ hne
  rw [List.length_drop, bl_len] at h1
  have hd := decode_dec s p
  obtain ⟨r, k⟩ : Nat × Nat := dec ((bl s).drop p)
  refine ⟨(dec ((bl s).drop p)).1, (dec ((bl s).drop p)).2, ⟨hd, rfl, rfl⟩, hd, h1.1, ?_, h2⟩
  unfold wd at h1
  omega
theorem AtHand.drop {s : ByteArray} {p r k : Nat} (H : AtHand s p r k) : ((bl s).drop p).drop (wd ((bl s).drop p)) = (bl s).drop (p + k) := by
  rw [H.2.2, drop_drop]
theorem AtHand.one {s : ByteArray} {p r k : Nat} (H : AtHand s p r k) : (dec ((bl s).drop p)).1 = r := by rw [H.2.1]

theorem below_iter (w : World) (s : ByteArray) (p : Nat) : Below w.heap.size w (w.iter s p) := (Below.refl _ w).alloc (Nat.le_refl _) _

set_option maxRecDepth 100000 in
set_option maxHeartbeats 400000 in
theorem prefixL_any (s p : ByteArray) (w : World) :
    Calls Tryz.prog 160 #[.string s, .string p] w fun e w' => e = .returned (.bool (decide (bl p <+: bl s))) ∧ w = w' := by
  by_cases h : p.size ≤ s.size
  · have h' : (p.size : Int) ≤ (s.size : Int) := by omega
    have e : ((s.extract 0 p.size).toList == p.toList) = decide (bl p <+: bl s) := by
      rw [toList_bl, toList_bl, bl_to]
      rw [Bool.eq_iff_iff, beq_iff_eq, decide_eq_true_iff, List.prefix_iff_eq_take, bl_len]
      exact eq_comm
    have he := Lib.hid e
    clear e
    go_enter Tryz.func160, Tryz.ntmps160
    go_wp2
    go_ret
    exact ⟨by rw [← he.out]; rfl, rfl⟩
  · have h' : ¬ (p.size : Int) ≤ (s.size : Int) := by omega
    have e : Hid (decide (bl p <+: bl s) = false) := by
      refine Lib.hid (decide_eq_false fun hp => ?_)
      have := hp.length_le
      rw [bl_len, bl_len] at this
      omega
    go_enter Tryz.func160, Tryz.ntmps160
    go_wp2
    go_ret
    exact ⟨by rw [e.out]; rfl, rfl⟩
set_option maxRecDepth 100000 in
set_option maxHeartbeats 400000 in
theorem prefix_any (s p : ByteArray) (w : World) :
    Calls Tryz.prog 145 #[.string s, .string p] w fun e w' => e = .returned (.bool (decide (bl p <+: bl s))) ∧ w = w' := by
  go_enter Tryz.func145, Tryz.ntmps145
  go_wp2_with fail
  refine (prefixL_any s p _).mono ?_
  rintro e w' ⟨rfl, rfl⟩
  go_wp2
  go_ret
  exact ⟨rfl, rfl⟩
def plainB (r : Int) : Bool := decide (32 ≤ r) && decide (r ≤ 126)
set_option maxRecDepth 100000 in
set_option maxHeartbeats 400000 in
theorem plain_any (r : Int) (w : World) :
    Calls Tryz.prog 179 #[.int .i32 r] w fun e w' => e = .returned (.bool (plainB r)) ∧ w = w' := by
  have e : ∀ a0 a1, decide ((32 : Int) ≤ r) = a0 → decide (r ≤ 126) = a1 → plainB r = (a0 && a1) := by rintro _ _ rfl rfl; rfl
  cases h1 : decide ((32 : Int) ≤ r) <;> cases h2 : decide (r ≤ 126)
  all_goals
    go_enter Tryz.func179, Tryz.ntmps179
    go_wp2
    go_ret
    exact ⟨by rw [e _ _ h1 h2]; rfl, rfl⟩
def ctlB (r : Int) : Bool := decide (r < 32) || (decide (126 < r) && decide (r ≤ 159))
def blankB (r : Int) : Bool := (r == 32) || (r == 9) || (r == 13) || (r == 10)
end Go.Proofs.YtegbkfloiiilfaaGreatDoor.Glyph

/-
  Valid, Plain, Count and Clip: by ranges over the text.
-/
namespace Go.Proofs.YtegbkfloiiilfaaGreatDoor.Glyph
open Go.RowKit

theorem AtHand.signs {s : ByteArray} {p r k : Nat} (hp : p < s.size) (H : AtHand s p r k) : signs ((bl s).drop p) = sg ((bl s).drop p) :: signs ((bl s).drop (p + k)) := by
  rw [signs_cons _ (drop_ne s p hp), H.drop]
theorem next_at {P : Program} (w : World) (s : ByteArray) (p r k : Nat) (hp : p < s.size) (hd : Utf8.decode s p = (r, k)) (ty : TypeId) :
    (Instr.next (.pointer (some ⟨w.heap.size, 0, none⟩)) true ty).run P (w.iter s p) = .ok (.tuple #[.bool true, .int .i64 p, .int .i32 r]) (w.iter s (p + k)) := by
  have := run_next_any (P := P) w s p ty hp
  rw [hd] at this
  exact this
def validB (l : List UInt8) : Bool := decide (∀ n ∈ signs l, 0 ≤ n)
theorem valid_end (s : ByteArray) (p : Nat) (h : ¬ p < s.size) : validB ((bl s).drop p) = true := by
  rw [drop_end s p h]; rfl
theorem valid_next {s : ByteArray} {p r k : Nat} (hp : p < s.size) (H : AtHand s p r k) : validB ((bl s).drop p) = (!decide (sg ((bl s).drop p) = -1) && validB ((bl s).drop (p + k))) := by
  unfold validB
  rw [H.signs hp, Bool.eq_iff_iff]
  simp only [decide_eq_true_eq, Bool.and_eq_true, Bool.not_eq_true', decide_eq_false_iff_not, List.forall_mem_cons]
  have h0 : 0 ≤ sg ((bl s).drop p) ↔ ¬ sg ((bl s).drop p) = -1 := by
    rcases sg_cases _ (drop_ne s p hp) with h | ⟨r, t, _, _, h⟩ <;> omega
  rw [h0]
def printB (l : List UInt8) : Bool := decide (∀ n ∈ signs l, 32 ≤ n ∧ n ≤ 126)
theorem print_end (s : ByteArray) (p : Nat) (h : ¬ p < s.size) : printB ((bl s).drop p) = true := by
  rw [drop_end s p h]; rfl
theorem print_next {s : ByteArray} {p r k : Nat} (hp : p < s.size) (H : AtHand s p r k) : printB ((bl s).drop p) = (plainB r && printB ((bl s).drop (p + k))) := by
  unfold printB plainB
  rw [H.signs hp, Bool.eq_iff_iff]
  simp only [decide_eq_true_eq, Bool.and_eq_true, List.forall_mem_cons]
  have h0 : (32 ≤ sg ((bl s).drop p) ∧ sg ((bl s).drop p) ≤ 126) ↔ (32 ≤ (r : Int) ∧ (r : Int) ≤ 126) := by
    by_cases hb : sg ((bl s).drop p) = -1
    · have := sg_bad _ hb
      have hr := H.2.1
      rw [this] at hr
      obtain ⟨rfl, _⟩ := Prod.mk.inj hr
      rw [hb]
      decide
    · rw [sg_of_good _ hb, H.one]
  rw [h0]
set_option maxRecDepth 100000 in
set_option maxHeartbeats 1000000 in
theorem print_any (s : ByteArray) (w : World) :
    Calls Tryz.prog 175 #[.string s] w fun e w' => e = .returned (.bool (printB (bl s))) ∧ Below w.heap.size w w' := by
  go_enter Tryz.func175, Tryz.ntmps175
  go_wp2
  go_loopw [] (fun wr => ∃ p, wr = w.iter s p ∧ Hid (printB (bl s) = printB ((bl s).drop p))) (fun wr => s.size - wr.iterPos w.heap.size)
  case atStart => exact ⟨0, rfl, Lib.hid rfl⟩
  case round =>
    obtain ⟨p, rfl, hc⟩ := hrel
    by_cases hp : p < s.size
    · obtain ⟨r, k, H, hd, hk, hk2, hr⟩ := at_hand s p hp
      have hnx := next_at (P := Tryz.prog) w s p r k hp hd
      have hi := fun W => plain_any r W
      have hn := Lib.hid (print_next hp H.out)
      clear hd
      cases hv : plainB r
      · rw [hv] at hi
        go_wp2_with fail
        refine (hi _).mono ?_
        rintro e w' ⟨rfl, rfl⟩
        go_wp2
        go_ret
        exact ⟨by rw [hc.out, hn.out, hv]; rfl, below_iter w s _⟩
      · rw [hv] at hi
        go_wp2_with fail
        refine (hi _).mono ?_
        rintro e w' ⟨rfl, rfl⟩
        go_wp2
        go_roundw
        case rel => exact ⟨p + k, rfl, Lib.hid (by rw [hc.out, hn.out, hv]; rfl)⟩
        case measure => simp; omega
    · have hnx := fun ty => run_next_end (P := Tryz.prog) w s p ty hp
      have hn := Lib.hid (print_end s p hp)
      go_wp2
      go_ret
      exact ⟨by rw [hc.out, hn.out]; rfl, below_iter w s _⟩
def clipL (l : List UInt8) (n : Int) : List UInt8 := l.take (cl l n.toNat)
theorem clip_next {s : ByteArray} {p r k : Nat} (hp : p < s.size) (H : AtHand s p r k) (n : Int) (hn : ¬ n < 1) : cl ((bl s).drop p) n.toNat = k + cl ((bl s).drop (p + k)) (n - 1).toNat := by
  have e : n.toNat = (n - 1).toNat + 1 := by omega
  rw [e, cl_cons _ (drop_ne s p hp), H.drop, H.2.2]
end Go.Proofs.YtegbkfloiiilfaaGreatDoor.Glyph

/-
  Fold and the document's Fold.
-/
namespace Go.Proofs.YtegbkfloiiilfaaGreatDoor.Glyph
open Go.RowKit

/-- A block whose first bytes are these, and may be written. -/
def Row8 (w : World) (g : Nat) (l : List UInt8) : Prop :=
  ∃ cur fz, w.heap[g]? = some (.cells cur 5 fz) ∧ l.length ≤ cur.size ∧ (cur.size ≤ fz.1 ∨ fz = (0, 0)) ∧ cur.toList.take l.length = Lib.byteCells l
theorem Row8.lt {w : World} {g : Nat} {l : List UInt8} (h : Row8 w g l) : g < w.heap.size := by
  obtain ⟨cur, fz, hg, _⟩ := h
  exact (Array.getElem?_eq_some_iff.1 hg).1
theorem Row8.cell {w : World} {g : Nat} {l : List UInt8} (h : Row8 w g l) {j : Nat} (hj : j < l.length) : w.cell? ⟨g, j, none⟩ = some (.int .u8 (l[j].toNat : Int)) := by
  obtain ⟨cur, fz, hg, hl, hf, ht⟩ := h
  rw [cell_of_row w g j cur _ fz hg]
  have e : (cur.toList.take l.length)[j]? = (Lib.byteCells l)[j]? := by rw [ht]
  rw [List.getElem?_take, if_pos hj] at e
  simpa [Lib.byteCells, hj] using e
theorem Row8.free {w : World} {g : Nat} {l : List UInt8} (h : Row8 w g l) {j : Nat} (hj : j < l.length) : w.frozen? ⟨g, j, none⟩ = false := by
  obtain ⟨cur, fz, hg, hl, hf, ht⟩ := h
  unfold World.frozen?
  rw [hg]
  obtain ⟨lo, hi⟩ := fz
  rcases hf with hf | hf
  · have : ¬ lo ≤ j := by
      have : cur.size ≤ lo := hf
      omega
    simp [this]
  · cases hf; simp
theorem Row8.iterAt {w : World} {g : Nat} {l : List UInt8} (h : Row8 w g l) {k : Nat} (hk : g ≠ k) (s : ByteArray) (p : Nat) : Row8 (w.iterAt k s p) g l := by
  obtain ⟨cur, fz, hg, rest⟩ := h
  exact ⟨cur, fz, by rw [Lib.iterAt_other w k g s p hk]; exact hg, rest⟩
theorem Row8.alloc {w : World} {g : Nat} {l : List UInt8} (h : Row8 w g l) (o : Obj) : Row8 (w.alloc o) g l := by
  have hl := h.lt
  obtain ⟨cur, fz, hg, rest⟩ := h
  exact ⟨cur, fz, by rw [Below.heap_alloc w o g hl]; exact hg, rest⟩
theorem Row8.set {w : World} {g : Nat} {l : List UInt8} (h : Row8 w g l) (j : Nat) (c : UInt8) : Row8 (w.setCell ⟨g, j, none⟩ (.int .u8 (c.toNat : Int))) g (l.set j c) := by
  obtain ⟨cur, fz, hg, hl, hf, ht⟩ := h
  refine ⟨cur.setIfInBounds j (.int .u8 (c.toNat : Int)), fz, ?_, by simpa using hl, by simpa using hf, ?_⟩
  · simp [World.setCell, Array.getElem?_modify, hg]
  · rw [List.length_set, Array.toList_setIfInBounds, List.take_set, ht]
    simp [Lib.byteCells, List.map_set]
theorem strOf_bytes (l : List UInt8) : strOfNums (l.map fun b => (b.toNat : Int)) = ba l := by
  unfold strOfNums ba
  rw [List.map_map]
  have e2 : l.map ((fun n : Int => UInt8.ofNat n.toNat) ∘ fun b : UInt8 => (b.toNat : Int)) = l := by
    conv => rhs; rw [← List.map_id l]
    apply List.map_congr_left
    intro b _
    show UInt8.ofNat b.toNat = b
    exact UInt8.ofNat_toNat
  rw [e2]
theorem Row8.str {w : World} {g cap : Nat} {l : List UInt8} (h : Row8 w g l) :
    (convert 38 9 (.slice (some ⟨g, 0, none⟩) l.length cap)).run Tryz.prog w = .ok (.string (ba l)) w := by
  have e := run_convert_bytes_arg (P := Tryz.prog) w 38 5 Tryz.underlying38 Tryz.underlying5 g 0 l.length cap (l.map fun b => (b.toNat : Int)) (by simp) (fun i hi => by
    rw [Nat.zero_add, h.cell hi]
    simp [hi]) 9 Tryz.underlying9
  rw [e, strOf_bytes]
theorem bytes_start (s : ByteArray) (w : World) (hl : s.size < 1000000000) : ∃ w' cap, (convert 9 38 (.string s)).run Tryz.prog w = .ok (.slice (some ⟨w.heap.size, 0, none⟩) s.size cap) w' ∧ s.size ≤ cap ∧ cap ≤ maxLen ∧ w'.heap.size = w.heap.size + 1 ∧ Row8 w' w.heap.size (bl s) ∧ Below w.heap.size w w' := by
  have hr := run_bytes_of_string (P := Tryz.prog) w 9 38 5 s Tryz.underlying9 Tryz.underlying38 Tryz.underlying5
  have hge := grownCap_ge w s.size 0 5
  have hle := grownCap_le_maxLen w s.size 0 5 (by simp only [maxLen]; omega)
  have hlen := bl_len s
  have hd : s.data.size = s.size := rfl
  refine ⟨_, _, hr, hge, hle, by simp, ⟨_, _, heap_alloc_new w.drew _, ?_, .inl (Nat.le_refl _), ?_⟩, (Below.drew (Below.refl _ _)).alloc (Nat.le_refl _) _⟩
  · unfold bytesRow
    simp [hd]
  · unfold bytesRow
    rw [Array.toList_append, List.take_append_of_le_length (by simp), List.take_of_length_le (by simp)]
    simp [Lib.byteCells]

/-- The text, folded as far as p. -/
def foldTo (l : List UInt8) (p : Nat) : List UInt8 := foldL (l.take p) ++ l.drop p
theorem foldTo_zero (l : List UInt8) : foldTo l 0 = l := by simp [foldTo, foldL]
theorem foldTo_len (l : List UInt8) (p : Nat) : (foldTo l p).length = l.length := by
  unfold foldTo foldL
  rw [List.length_append, List.length_map, List.length_take, List.length_drop]
  omega
theorem foldTo_end (l : List UInt8) (p : Nat) (h : l.length ≤ p) : foldTo l p = foldL l := by
  unfold foldTo
  rw [List.take_of_length_le h, List.drop_eq_nil_of_le h, List.append_nil]
theorem take_add' (l : List UInt8) (p k : Nat) : l.take (p + k) = l.take p ++ (l.drop p).take k := List.take_add
theorem foldTo_next {s : ByteArray} {p r k : Nat} (hp : p < s.size) (H : AtHand s p r k) :
    foldTo (bl s) (p + k) = if 65 ≤ r ∧ r ≤ 90 then (foldTo (bl s) p).set p (byt (r + 32)) else foldTo (bl s) p := by
  have hf := fold_piece _ (drop_ne s p hp)
  rw [H.2.2, H.one] at hf
  have hl : (foldL ((bl s).take p)).length = p := by
    unfold foldL
    rw [List.length_map, List.length_take, bl_len]
    omega
  unfold foldTo
  rw [take_add', show foldL ((bl s).take p ++ ((bl s).drop p).take k) = foldL ((bl s).take p) ++ foldL (((bl s).drop p).take k) from List.map_append, hf, List.append_assoc]
  split
  · rename_i g
    have hw := (low_piece _ (drop_ne s p hp) (by rw [H.one]; omega)).1
    rw [H.2.2] at hw
    subst hw
    rw [List.set_append, if_neg (by omega), hl, Nat.sub_self, ← List.drop_drop]
    congr 1
    cases hd : (bl s).drop p with
    | nil => exact absurd hd (drop_ne s p hp)
    | cons c t => rfl
  · rw [← drop_drop, List.take_append_drop]
theorem foldTo_at {s : ByteArray} {p r k : Nat} (hp : p < s.size) (H : AtHand s p r k) (h : r ≤ 90) : ∃ hj : p < (foldTo (bl s) p).length, ((foldTo (bl s) p)[p]).toNat = r := by
  have hj : p < (foldTo (bl s) p).length := by rw [foldTo_len, bl_len]; exact hp
  refine ⟨hj, ?_⟩
  have hw := (low_piece _ (drop_ne s p hp) (by rw [H.one]; omega)).2
  rw [H.one] at hw
  have hl : (foldL ((bl s).take p)).length = p := by
    unfold foldL
    rw [List.length_map, List.length_take, bl_len]
    omega
  have e : (foldTo (bl s) p)[p]? = ((bl s).drop p)[0]? := by
    unfold foldTo
    rw [List.getElem?_append_right (by omega), hl, Nat.sub_self]
  rw [List.getElem?_eq_getElem hj] at e
  rw [List.getD_eq_getElem?_getD, ← e] at hw
  exact hw
def FoldAt (s : ByteArray) (w wr : World) (p : Nat) : Prop := Row8 wr w.heap.size (foldTo (bl s) p) ∧ wr.heap[w.heap.size + 1]? = some (.stringIter s p) ∧ Below w.heap.size w wr
set_option maxRecDepth 100000 in
set_option maxHeartbeats 1000000 in
theorem fold_any (s : ByteArray) (w : World) (hs : s.size ≤ 1000000) :
    Calls Tryz.prog 50 #[.string s] w fun e w' => e = .returned (.string (ba (foldL (bl s)))) ∧ Below w.heap.size w w' := by
  obtain ⟨w1, cap, hr1, hc1, hc2, hz1, hrow, hb1⟩ := bytes_start s w (by omega)
  have hc3 : (s.size : Int) ≤ (cap : Int) := by omega
  go_enter Tryz.func50, Tryz.ntmps50
  have HI : Hid (FoldAt s w (w1.iter s 0) 0) := by
    refine ⟨?_, ?_, ?_⟩
    · rw [foldTo_zero]; exact hrow.alloc _
    · rw [← hz1]; exact World.iter_heap w1 s 0
    · exact hb1.alloc (by omega) _
  clear hrow hb1
  go_wp2
  go_loopw [] (fun wr => ∃ p, p ≤ s.size ∧ Hid (FoldAt s w wr p)) (fun wr => s.size - wr.iterPos (w.heap.size + 1))
  case atStart => exact ⟨0, Nat.zero_le _, HI⟩
  case round =>
    clear HI
    obtain ⟨p, hps, hI⟩ := hrel
    have hit := hI.out.2.1
    by_cases hp : p < s.size
    · obtain ⟨r, k, H, hd, hk, hk2, hr⟩ := at_hand s p hp
      have hnx : ∀ ty, (Instr.next (.pointer (some ⟨w.heap.size + 1, 0, none⟩)) true ty).run Tryz.prog wr = .ok (.tuple #[.bool true, .int .i64 p, .int .i32 r]) (wr.iterAt (w.heap.size + 1) s (p + k)) := fun ty => by
        have := Lib.run_next_any_at (P := Tryz.prog) wr (w.heap.size + 1) s p ty hit hp
        rw [hd] at this
        exact this
      clear hd
      have hN := Lib.hid (foldTo_next hp H.out)
      have hrow2 := hI.out.1.iterAt (k := w.heap.size + 1) (by omega) s (p + k)
      have hit2 := Lib.hid (Lib.iterAt_heap wr (w.heap.size + 1) s p (p + k) hit)
      have hb2 := Lib.hid (Lib.below_iterAt hI.out.2.2 (k := w.heap.size + 1) (by omega) s (p + k))
      have hm : Hid (wr.iterPos (w.heap.size + 1) = p) := Lib.hid (by simp only [World.iterPos, hit])
      clear hit
      by_cases h65 : 65 ≤ r ∧ r ≤ 90
      · obtain ⟨hj, he⟩ := foldTo_at hp H.out h65.2
        have hcell := hrow2.cell hj
        have hfree := hrow2.free hj
        rw [he] at hcell
        have H1 : (65 : Int) ≤ (r : Int) := by omega
        have H2 : (r : Int) ≤ 90 := by omega
        have hset := Lib.hid (hrow2.set p (byt (r + 32)))
        have hbyt := Lib.hid (byt_nat (r + 32) (by omega))
        clear hrow2 he
        go_wp2
        go_roundw
        case rel =>
          refine ⟨p + k, hk2, Lib.hid ⟨?_, ?_, ?_⟩⟩
          · rw [hN.out, if_pos h65]
            have := hset.out
            rw [hbyt.out] at this
            exact this
          · rw [heap_setCell_other _ _ _ _ (by show w.heap.size + 1 ≠ w.heap.size; omega)]
            exact hit2.out
          · exact hb2.out.setCell (p := ⟨w.heap.size, p, none⟩) (Nat.le_refl _) _
        case measure =>
          have e1 : ∀ v, ((wr.iterAt (w.heap.size + 1) s (p + k)).setCell ⟨w.heap.size, p, none⟩ v).iterPos (w.heap.size + 1) = p + k := fun v => by
            simp only [World.iterPos]
            rw [heap_setCell_other _ _ _ _ (by show w.heap.size + 1 ≠ w.heap.size; omega), hit2.out]
          rw [hm.out, e1]
          omega
      · have H1 : ((decide ((65 : Int) ≤ (r : Int))) && (decide ((r : Int) ≤ 90))) = false := by
          rw [Bool.eq_false_iff]
          simp only [ne_eq, Bool.and_eq_true, decide_eq_true_eq]
          omega
        clear hrow2
        have hrow2 := Lib.hid (hI.out.1.iterAt (k := w.heap.size + 1) (by omega) s (p + k))
        by_cases g1 : 65 ≤ r
        · have G1 : (65 : Int) ≤ (r : Int) := by omega
          have G2 : ¬ (r : Int) ≤ 90 := by omega
          clear H1
          go_wp2
          go_roundw
          case rel => exact ⟨p + k, hk2, Lib.hid ⟨by rw [hN.out, if_neg h65]; exact hrow2.out, hit2.out, hb2.out⟩⟩
          case measure =>
            rw [hm.out]
            simp only [World.iterPos, hit2.out]
            omega
        · have G1 : ¬ (65 : Int) ≤ (r : Int) := by omega
          clear H1
          go_wp2
          go_roundw
          case rel => exact ⟨p + k, hk2, Lib.hid ⟨by rw [hN.out, if_neg h65]; exact hrow2.out, hit2.out, hb2.out⟩⟩
          case measure =>
            rw [hm.out]
            simp only [World.iterPos, hit2.out]
            omega
    · have hnx : ∀ ty, (Instr.next (.pointer (some ⟨w.heap.size + 1, 0, none⟩)) true ty).run Tryz.prog wr = _ := fun ty => Lib.run_next_end_at wr (w.heap.size + 1) s p ty hit hp
      have hst := hI.out.1.str (cap := cap)
      rw [foldTo_len, bl_len, foldTo_end _ _ (by rw [bl_len]; omega)] at hst
      clear hit
      go_wp2
      go_ret
      exact ⟨rfl, hI.out.2.2⟩
end Go.Proofs.YtegbkfloiiilfaaGreatDoor.Glyph

/-
  The document's Fold alone (for seats that do not reach the document's Signs and Clip).
-/
namespace Go.Proofs.YtegbkfloiiilfaaGreatDoor.Glyph
open Go.RowKit

theorem row_laid (w : World) (ns : List Int) : (convert 38 9 (.slice (some ⟨w.heap.size, 0, none⟩) ns.length ns.length)).run Tryz.prog (w.alloc (.cells (ns.map (Value.int .u8)).toArray 5)) = .ok (.string (strOfNums ns)) (w.alloc (.cells (ns.map (Value.int .u8)).toArray 5)) :=
  run_convert_bytes_arg (P := Tryz.prog) (w.alloc (.cells (ns.map (Value.int .u8)).toArray 5)) 38 5 Tryz.underlying38 Tryz.underlying5 w.heap.size 0 ns.length ns.length ns rfl (fun i hi => by
    rw [Lib.cell_of_heap (heap_alloc_new w _), Nat.zero_add]
    simp [hi]) 9 Tryz.underlying9
theorem laid1 (w : World) (a : Int) : (convert 38 9 (.slice (some ⟨w.heap.size, 0, none⟩) 1 1)).run Tryz.prog (w.alloc (.cells #[.int .u8 a] 5)) = .ok (.string (strOfNums [a])) (w.alloc (.cells #[.int .u8 a] 5)) := row_laid w [a]
theorem strOf_byts (ns : List Nat) : strOfNums (ns.map fun n : Nat => (n : Int)) = ba (ns.map byt) := by
  unfold strOfNums ba
  rw [List.map_map]
  rfl
theorem take_succ_bl (s : ByteArray) (p : Nat) (h : p < s.size) : (bl s).take (p + 1) = (bl s).take p ++ [s[p]'h] := by
  rw [List.take_succ_eq_append_getElem (by rw [bl_len]; exact h)]
  rfl
theorem one_ext (s : ByteArray) (p : Nat) (h : p < s.size) : s.extract p (p + 1) = ba [s[p]'h] := by
  apply ba_ext
  rw [bl_extract, bl_ba, Nat.add_sub_cancel_left]
  rw [List.drop_eq_getElem_cons (by rw [bl_len]; exact h)]
  rfl
def RFoldAt (s : ByteArray) (w : World) (o i : Value) (wr : World) : Prop :=
  ∃ p : Nat, p ≤ s.size ∧ i = .int .i64 p ∧ o = .string (ba (foldL ((bl s).take p))) ∧ Below w.heap.size w wr
set_option maxRecDepth 100000 in
set_option maxHeartbeats 1000000 in
theorem refFold_any (s : ByteArray) (w : World) (hs : s.size ≤ 1000000) :
    Calls Tryz.prog 51 #[.string s] w fun e w' => e = .returned (.string (ba (foldL (bl s)))) ∧ Below w.heap.size w w' := by
  have HI : Hid (RFoldAt s w (.string ⟨#[]⟩) (.int .i64 0) w) := ⟨0, Nat.zero_le _, rfl, rfl, Below.refl _ _⟩
  go_enter Tryz.func51, Tryz.ntmps51
  go_wp2
  go_loopw [3, 4] (fun o i wr => RFoldAt s w o i wr) (fun _ i _ => s.size - (intOf i).toNat)
  case atStart => exact HI.out
  case round =>
    clear HI
    obtain ⟨p, hps, rfl, rfl, hb⟩ := hrel
    have hos : (ba (foldL ((bl s).take p))).size ≤ 1000000 := by
      rw [ba_size]
      unfold foldL
      rw [List.length_map, List.length_take, bl_len]
      omega
    by_cases hp : p < s.size
    · have hp' : (p : Int) < (s.size : Int) := by omega
      have hN : Hid (ba (foldL ((bl s).take (p + 1))) = ba (foldL ((bl s).take p)) ++ ba [fd (s[p]'hp)]) := Lib.hid (by rw [take_succ_bl s p hp, ba_append]; simp [foldL])
      have hf := fd_nat (s[p]'hp)
      have h8 := (s[p]'hp).toNat_lt
      have HB := Lib.hid hb
      have hbs := hb.size
      have hE := Lib.hid (one_ext s p hp)
      have hez : (s.extract p (p + 1)).size = 1 := by rw [hE.out, ba_size]; rfl
      clear hb
      generalize hF : ba (foldL ((bl s).take p)) = o at *
      clear hF
      by_cases c1 : 65 ≤ (s[p]'hp).toNat
      · by_cases c2 : (s[p]'hp).toNat ≤ 90
        · have d1 : (65 : Int) ≤ ((s[p]'hp).toNat : Int) := by omega
          have d2 : ((s[p]'hp).toNat : Int) ≤ 90 := by omega
          have hl := laid1 wr (((s[p]'hp).toNat : Int) + 32)
          have hst : Hid (strOfNums [((s[p]'hp).toNat : Int) + 32] = ba [fd (s[p]'hp)]) := by
            refine Lib.hid ?_
            rw [if_pos ⟨c1, c2⟩] at hf
            have := strOf_byts [(s[p]'hp).toNat + 32]
            simp only [List.map_cons, List.map_nil] at this
            rw [byt_eq (fd (s[p]'hp)) _ hf] at this
            exact this
          rw [hst.out] at hl
          have hqz : (ba [fd (s[p]'hp)]).size = 1 := by rw [ba_size]; rfl
          clear hf
          generalize ba [fd (s[p]'hp)] = q at hl hqz hN
          go_wp2
          go_roundw
          case rel => exact ⟨p + 1, hp, int_eq (by omega), by rw [hN.out], HB.out.alloc hbs _⟩
          case measure => simp [intOf]; omega
        · have d1 : (65 : Int) ≤ ((s[p]'hp).toNat : Int) := by omega
          have d2 : ¬ ((s[p]'hp).toNat : Int) ≤ 90 := by omega
          have hfx : Hid (fd (s[p]'hp) = s[p]'hp) := Lib.hid (by unfold fd; rw [if_neg (by omega)])
          clear hf
          go_wp2
          go_roundw
          case rel => exact ⟨p + 1, hp, int_eq (by omega), by rw [hN.out, hfx.out, ← hE.out], HB.out⟩
          case measure => simp [intOf]; omega
      · have d1 : ¬ (65 : Int) ≤ ((s[p]'hp).toNat : Int) := by omega
        have hfx : Hid (fd (s[p]'hp) = s[p]'hp) := Lib.hid (by unfold fd; rw [if_neg (by omega)])
        clear hf
        go_wp2
        go_roundw
        case rel => exact ⟨p + 1, hp, int_eq (by omega), by rw [hN.out, hfx.out, ← hE.out], HB.out⟩
        case measure => simp [intOf]; omega
    · have hp' : ¬ (p : Int) < (s.size : Int) := by omega
      have hE : Hid ((bl s).take p = bl s) := Lib.hid (List.take_of_length_le (by rw [bl_len]; omega))
      go_wp2
      go_ret
      exact ⟨by rw [hE.out]; rfl, hb⟩
end Go.Proofs.YtegbkfloiiilfaaGreatDoor.Glyph
