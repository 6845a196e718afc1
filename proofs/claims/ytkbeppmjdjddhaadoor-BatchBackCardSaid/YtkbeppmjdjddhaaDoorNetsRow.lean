/-
  Walks over lists of texts: Put, Row (the program's and the document's), SameTexts.
-/
import Derived.Test.YtkbeppmjdjddhaaDoorNetsDigits
import Derived.Test.YtkbeppmjdjddhaaDoorNetsBuild
import Derived.Lib.AppendIntMem
import Derived.Lib.LaidTab
namespace Go.Proofs.YtkbeppmjdjddhaaDoor.Nets
open Go.RowKit

/-- The table of powers of ten, where the call finds it. -/
def Tab (w : World) : Prop := Lib.TabIs Tryd.prog w "internal/strconv.uint64pow10" .u64 Lib.pow10Tab ∧ 1 < w.heap.size
theorem gPow : Tryd.prog.globalNamed "internal/strconv.uint64pow10" = some 1 := by kernel_rfl
theorem Tab.below {w w' : World} (h : Tab w) (hb : Below w.heap.size w w') : Tab w' :=
  ⟨var?_below hb gPow h.2 h.1, by have := h.2; have := hb.size; omega⟩

set_option maxHeartbeats 400000 in
theorem put_any (s : ByteArray) (w : World) (hs : s.size ≤ 100000) (ht : Tab w) :
    Calls Tryd.prog 49 #[.string s] w fun e w' => e = .returned (str (putS (bl s))) ∧ Below w.heap.size w w' := by
  have hdl := dec_len s.size hs
  have hi : Lib.itoa (s.size : Int) = Lib.decDigits s.size := Lib.itoa_nonneg _
  have HT := Lib.hid ht
  clear ht
  go_enter Tryd.func49, Tryd.ntmps49
  go_wp2_with (go_at_call 59; refine (Tryd.strconv_Itoa _ (by omega) (by omega) _ HT.out.1).mono ?_; rintro e w' ⟨rfl, k, os, rfl⟩; have hb := Lib.below_grow w.heap.size w (Nat.le_refl _) k os)
  go_ret
  exact ⟨by rw [← put_str s ⟨(Lib.decDigits s.size).toArray⟩ rfl]; rfl, hb⟩

abbrev ba (l : List UInt8) : ByteArray := ⟨l.toArray⟩
theorem bl_ba (l : List UInt8) : bl (ba l) = l := by simp

/-- The value is a slice that reads as these texts. -/
def Reads (w : World) (v : Value) (ss : List ByteArray) : Prop :=
  (∃ a cap, v = .slice a 0 cap ∧ ss = []) ∨
  (0 < ss.length ∧ ∃ b off cap, v = .slice (some ⟨b, off, none⟩) ss.length cap ∧ ss.length ≤ cap ∧ cap ≤ maxLen ∧ b < w.heap.size ∧ ∀ i, i < ss.length → w.cell? ⟨b, off + i, none⟩ = some (.string (ss.getD i ByteArray.empty)))
theorem Reads.below {w w' : World} {v : Value} {ss : List ByteArray} (h : Reads w v ss) (hb : Below w.heap.size w w') : Reads w' v ss := by
  rcases h with h | ⟨h0, b, off, cap, rfl, h1, h2, h3, h4⟩
  · exact .inl h
  · refine .inr ⟨h0, b, off, cap, rfl, h1, h2, by have := hb.size; omega, fun i hi => ?_⟩
    rw [hb.cell (p := ⟨b, off + i, none⟩) h3]
    exact h4 i hi

def Small (ss : List ByteArray) : Prop := ss.length ≤ 1000 ∧ ∀ s ∈ ss, s.size ≤ 100000
theorem Small.at {ss : List ByteArray} (h : Small ss) (i : Nat) (hi : i < ss.length) : (ss.getD i ByteArray.empty).size ≤ 100000 := by
  rw [List.getD_eq_getElem?_getD, List.getElem?_eq_getElem hi]
  exact h.2 _ (List.getElem_mem hi)

theorem put_len (l : List UInt8) (h : l.length ≤ 100000) : (putS l).length ≤ 100011 := by
  have := dec_len l.length h
  unfold putS
  simp
  omega
theorem row_len (ls : List (List UInt8)) (h : ∀ l ∈ ls, l.length ≤ 100000) : (rowS ls).length ≤ ls.length * 100011 := by
  induction ls with
  | nil => simp [rowS]
  | cons l ls ih =>
    have h1 := put_len l (h l (List.mem_cons_self ..))
    have h2 := ih (fun x hx => h x (List.mem_cons_of_mem _ hx))
    have e : rowS (l :: ls) = putS l ++ rowS ls := by simp [rowS]
    rw [e, List.length_append, List.length_cons]
    omega
theorem row_snoc (ls : List (List UInt8)) (l : List UInt8) : rowS (ls ++ [l]) = rowS ls ++ putS l := by simp [rowS]
/-- The row of the first k texts. -/
def rowK (ss : List ByteArray) (k : Nat) : List UInt8 := rowS ((ss.take k).map bl)
theorem rowK_len (ss : List ByteArray) (k : Nat) (h : Small ss) : (rowK ss k).length ≤ 100011000 := by
  have h1 := row_len ((ss.take k).map bl) (by
    intro l hl
    obtain ⟨s, hs, rfl⟩ := List.mem_map.1 hl
    have := h.2 s (List.mem_of_mem_take hs)
    simpa using this)
  have h2 : ((ss.take k).map bl).length ≤ 1000 := by
    have := h.1
    simp
    omega
  unfold rowK
  omega
theorem rowK_succ (ss : List ByteArray) (k : Nat) (hk : k < ss.length) : rowK ss (k + 1) = rowK ss k ++ putS (bl (ss.getD k ByteArray.empty)) := by
  unfold rowK
  rw [List.take_succ_eq_append_getElem hk, List.map_append, List.map_singleton, row_snoc, List.getD_eq_getElem?_getD, List.getElem?_eq_getElem hk]
  rfl
theorem rowK_all (ss : List ByteArray) : rowK ss ss.length = rowS (ss.map bl) := by unfold rowK; rw [List.take_length]
theorem rowK_zero (ss : List ByteArray) : rowK ss 0 = [] := rfl
theorem cells_put (x l : List UInt8) : Lib.byteCells x ++ Lib.strCells (ba l) = Lib.byteCells (x ++ l) := by simp [Lib.byteCells, Lib.strCells]

def RowAt (ss : List ByteArray) (w : World) (i : Value) (wr : World) : Prop :=
  ∃ k : Nat, k ≤ ss.length ∧ i = .int .i64 k ∧ Lib.IsBuilder 91 5 w.heap.size w.heap.size (Lib.byteCells (rowK ss k)) wr ∧ Below w.heap.size w wr

theorem fresh (w : World) : Lib.IsBuilder 91 5 w.heap.size w.heap.size (Lib.byteCells []) (w.alloc (.cells #[.pointer none, .slice none 0 0] 91)) :=
  .inl ⟨Nat.le_refl _, .slice none 0 0, by
    show (w.heap.push _)[w.heap.size]? = _
    simp, World.ownsRow_nil _ _ _ _, by simp [Value.ownBlock]⟩

theorem grown_of_below {w w' : World} (h : Below w.heap.size w w') : w.grownBy w' none :=
  ⟨h.os, h.tape, h.output, h.size, fun k hk _ => h.block k hk⟩
theorem owns_below {w w' : World} {B : Nat} {e : TypeId} {z : Nat} {v : Value} {n : Nat} {xs : List Value} (h : w.ownsRow B e z v n xs) (hb : Below w.heap.size w w') : w'.ownsRow B e z v n xs :=
  h.kept (grown_of_below hb) (by cases hv : v.ownBlock <;> simp)
theorem at_below {T e : TypeId} {B b : Nat} {p : Value} {bs : List Value} {w w' : World} (h : Lib.BuilderAt T e B b p bs w) (hb : Below w.heap.size w w') : Lib.BuilderAt T e B b p bs w' := by
  have hl := h.lt
  obtain ⟨h1, v, h2, h3, h4⟩ := h
  exact ⟨h1, v, (hb.block b hl).trans h2, owns_below h3 hb, h4⟩
theorem is_below {T e : TypeId} {B b : Nat} {bs : List Value} {w w' : World} (h : Lib.IsBuilder T e B b bs w) (hb : Below w.heap.size w w') : Lib.IsBuilder T e B b bs w' := by
  rcases h with h | h
  · exact .inl (at_below h hb)
  · exact .inr (at_below h hb)

theorem RowAt_step (ss : List ByteArray) (w wr w1 w2 : World) (k : Nat) (hk : k < ss.length) (hb : Below w.heap.size w wr) (hb1 : Below wr.heap.size wr w1)
    (hB : Lib.BuilderAt 91 5 w.heap.size w.heap.size (.pointer (some ⟨w.heap.size, 0, none⟩)) (Lib.byteCells (rowK ss k) ++ Lib.strCells (ba (putS (bl (ss.getD k ByteArray.empty))))) w2)
    (hb2 : Below w.heap.size w1 w2) : RowAt ss w (.int .i64 ((k : Int) + 1)) w2 := by
  refine ⟨k + 1, by omega, by simp, .inr ?_, (hb.trans (hb1.mono hb.size)).trans hb2⟩
  rw [cells_put, ← rowK_succ ss k hk] at hB
  exact hB
theorem bytes_length (l : List UInt8) : (Lib.byteCells l).length = l.length := by simp [Lib.byteCells]

set_option maxHeartbeats 1000000 in
theorem row_any (v : Value) (ss : List ByteArray) (w : World) (hr : Reads w v ss) (hs : Small ss) (ht : Tab w) :
    Calls Tryd.prog 38 #[v] w fun e w' => e = .returned (str (rowS (ss.map bl))) ∧ Below w.heap.size w w' := by
  have hfr := fresh w
  rcases hr with ⟨a, cap, rfl, rfl⟩ | ⟨h0, b, off, cap, rfl, h1, h2, h3, h4⟩
  · go_enter Tryd.func38, Tryd.ntmps38
    go_wp2_with fail
    go_loopw [5, 8] (fun _ i wr => RowAt [] w i wr) (fun _ i _ => 0 - (intOf i).toNat)
    case atStart => exact ⟨0, Nat.le_refl _, rfl, hfr, (Below.refl _ _).alloc (Nat.le_refl _) _⟩
    case round =>
      obtain ⟨k, hk, rfl, hB, hb⟩ := hrel
      go_wp2_with (go_at_call 50; refine (Tryd.Builder_String_any _ _ _ _ hB hb.size).mono ?_; rintro e w1 ⟨rfl, hb1⟩)
      go_ret
      exact ⟨by simp [rowK], hb.trans hb1⟩
  · have hm := hs.1
    have HL := Lib.hid h4
    have HT := Lib.hid ht
    have HS := Lib.hid hs
    clear h4 ht hs h1 h2
    go_enter Tryd.func38, Tryd.ntmps38
    go_wp2_with fail
    go_loopw [5, 8] (fun _ i wr => RowAt ss w i wr) (fun _ i _ => ss.length - (intOf i).toNat)
    case atStart => exact ⟨0, Nat.zero_le _, rfl, hfr, (Below.refl _ _).alloc (Nat.le_refl _) _⟩
    case round =>
      obtain ⟨k, hk, rfl, hB, hb⟩ := hrel
      by_cases hlt : k < ss.length
      · have hc : wr.cell? ⟨b, off + k, none⟩ = some (.string (ss.getD k ByteArray.empty)) := by
          rw [hb.cell (p := ⟨b, off + k, none⟩) h3]; exact HL.out k hlt
        have hz := HS.out.at k hlt
        have HP := Lib.hid (put_len (bl (ss.getD k ByteArray.empty)) (by simpa using hz))
        have HR := Lib.hid (rowK_len ss k HS.out)
        have HG := Lib.hid (fun (w1 w2 : World) => RowAt_step ss w wr w1 w2 k hlt hb)
        generalize hx : ss.getD k ByteArray.empty = x at *
        clear hx
        go_wp2_with (go_at_call 49; refine (put_any _ _ (by omega) (HT.out.below hb)).mono ?_; rintro e w1 ⟨rfl, hb1⟩)
        refine (bwrite_any _ _ _ (ba (putS (bl x))) _ (is_below hB hb1) ?c1 ?c2).mono ?_
        case c1 =>
          have e1 : (ba (putS (bl x))).size = (putS (bl x)).length := by simp [ByteArray.size]
          have := HP.out
          have := HR.out
          rw [bytes_length, e1]
          omega
        case c2 =>
          have := hb.size
          have := hb1.size
          omega
        rintro e w2 ⟨rfl, hB2, hb2⟩
        go_wp2_with fail
        go_roundw
        case rel => exact HG.out w1 w2 hb1 hB2 hb2
        case measure => simp [intOf]; omega
      · go_wp2_with (go_at_call 50; refine (Tryd.Builder_String_any _ _ _ _ hB hb.size).mono ?_; rintro e w1 ⟨rfl, hb1⟩)
        go_ret
        exact ⟨by rw [← rowK_all, show ss.length = k by omega]; rfl, hb.trans hb1⟩
end Go.Proofs.YtkbeppmjdjddhaaDoor.Nets
