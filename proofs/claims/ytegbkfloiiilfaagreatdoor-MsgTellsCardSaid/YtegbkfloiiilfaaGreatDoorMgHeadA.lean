/-
  Walks of head, the first part.
-/
import Derived.Test.YtegbkfloiiilfaaGreatDoorMgPlain
import Derived.Test.YtegbkfloiiilfaaGreatDoorMgShelf
import Derived.Test.YtegbkfloiiilfaaGreatDoorMgLexA
import Derived.Laws.IdiomStrings
import Derived.Laws.Rows
import Derived.Laws.Tables
import Derived.Laws.MakeOwn
import Derived.Laws.StructEq
import Derived.Maps.AppendAt
import Derived.Deep.RegionWith
import Derived.Deep.MidRow
import Derived.Deep.CutRange
import Derived.Lib.SliceRun
import Derived.Lib.AppendZeros
import Derived.StillTailTactics

/-
  The small tests of bytes and lines at this program; strings.Cut at a colon and at a line end, strings.Trim; the document's small tests.
-/
namespace Go.Proofs.YtegbkfloiiilfaaGreatDoor.Head
open Go Go.RowKit

theorem bl_extract (s : ByteArray) (a b : Nat) : bl (s.extract a b) = ((bl s).drop a).take (b - a) := Lib.extract_data s a b
theorem bl_from (s : ByteArray) (a : Nat) : bl (s.extract a s.size) = (bl s).drop a := by
  rw [bl_extract, List.take_of_length_le]
  rw [List.length_drop, bl_len]
  omega
theorem drop_cons (s : ByteArray) (k : Nat) (h : k < s.size) : (bl s).drop k = s[k] :: (bl s).drop (k + 1) := by
  rw [List.drop_eq_getElem_cons (by rw [bl_len]; exact h)]; rfl
theorem drop_end (s : ByteArray) (p : Nat) (h : ¬ p < s.size) : (bl s).drop p = [] := List.drop_eq_nil_of_le (by rw [bl_len]; omega)
theorem ret_bool {a b : Bool} (h : a = b) : Ending.returned (.bool a) = .returned (.bool b) := by rw [h]
theorem ret_str {a b : ByteArray} (h : a = b) : Ending.returned (.string a) = .returned (.string b) := by rw [h]
theorem empty_any (s : ByteArray) : s.toList.isEmpty = (bl s).isEmpty := by rw [Lib.toList_data]
theorem below_drewN {B : Nat} {a w : World} (h : Below B a w) : ∀ n, Below B a (w.drewN n)
  | _n => ⟨h.os, h.tape, h.output, h.size, h.block⟩

/-- internal/bytealg.MaxLen holds some number. -/
def MaxAt (w : World) : Prop := ∃ m, w.cell? ⟨0, 0, none⟩ = some (.int .i64 m)
theorem cell_lt {W : World} {b o : Nat} {x : Value} (h : W.cell? ⟨b, o, none⟩ = some x) : b < W.heap.size := by
  rcases Nat.lt_or_ge b W.heap.size with h' | h'
  · exact h'
  · have : W.heap[b]? = none := Array.getElem?_eq_none h'
    simp [World.cell?, this] at h
theorem MaxAt.below {w w' : World} (h : MaxAt w) (hb : Below w.heap.size w w') : MaxAt w' := by
  obtain ⟨m, hm⟩ := h
  exact ⟨m, by rw [hb.cell (p := ⟨0, 0, none⟩) (cell_lt hm)]; exact hm⟩

/-! Cut at a colon; at a line end. -/
theorem first_colon : ∀ l : List UInt8, (l.contains 58 = false ∧ Lib.index l [58] = -1 ∧ pre l = l ∧ post l = []) ∨ ∃ a b, l = a ++ 58 :: b ∧ (∀ x ∈ a, x ≠ 58) ∧ Lib.index l [58] = (a.length : Int)
  | [] => .inl ⟨rfl, rfl, rfl, rfl⟩
  | x :: t => by
    by_cases hx : x = 58
    · subst hx
      exact .inr ⟨[], t, rfl, by simp, by simp [Lib.index, List.isPrefixOf]⟩
    · have hp : ([58] : List UInt8).isPrefixOf (x :: t) = false := by simp [List.isPrefixOf, Ne.symm hx]
      have hb : (x != 58) = true := by rw [bne_iff_ne]; exact hx
      have hi : Lib.index (x :: t) [58] = if Lib.index t [58] == -1 then -1 else Lib.index t [58] + 1 := by rw [Lib.index, hp]; simp
      rcases first_colon t with ⟨h0, h1, h2, h3⟩ | ⟨a, b, h1, h2, h3⟩
      · refine .inl ⟨?_, by rw [hi, h1]; rfl, ?_, ?_⟩
        · rw [List.contains_cons, h0, Bool.or_false, beq_eq_false_iff_ne]; exact Ne.symm hx
        · unfold pre at *; rw [List.takeWhile_cons, if_pos hb, h2]
        · unfold post at *; rw [List.dropWhile_cons, if_pos hb, h3]
      · refine .inr ⟨x :: a, b, by rw [h1]; rfl, ?_, ?_⟩
        · intro y hy
          rcases List.mem_cons.1 hy with rfl | hy
          · exact hx
          · exact h2 y hy
        · rw [hi, h3]
          have : ((a.length : Int) == -1) = false := by rw [beq_eq_false_iff_ne]; omega
          rw [this]
          simp
theorem cut_colon (l : List UInt8) : Lib.cut l [58] = (pre l, post l, l.contains 58) := by
  unfold Lib.cut
  rcases first_colon l with ⟨h0, h1, h2, h3⟩ | ⟨a, b, h1, h2, h3⟩
  · rw [h1, if_neg (by omega), h0, h2, h3]
  · rw [h3, if_pos (by omega), h1, (pre_run a b h2).1, (pre_run a b h2).2]
    simp
theorem crlf_pre (l : List UInt8) : ([13, 10] : List UInt8).isPrefixOf l = crlf l := by
  match l with
  | [] => rfl
  | [c] => simp [List.isPrefixOf, crlf]
  | c :: d :: t =>
    simp only [List.isPrefixOf, crlf, Bool.and_true]
    rw [Bool.eq_iff_iff]
    simp only [Bool.and_eq_true, beq_iff_eq]
    exact ⟨fun h => ⟨h.1.symm, h.2.symm⟩, fun h => ⟨h.1.symm, h.2.symm⟩⟩
theorem index_crlf : ∀ l : List UInt8, Lib.index l [13, 10] = match cut2 l with | none => -1 | some (t, _) => (t.length : Int)
  | [] => rfl
  | c :: t => by
    rw [Lib.index, crlf_pre]
    cases hc : crlf (c :: t)
    · rw [cut2_cons hc, index_crlf t, if_neg (by decide)]
      cases h2 : cut2 t with
      | none => rfl
      | some p =>
        obtain ⟨a, r⟩ := p
        have : ((a.length : Int) == -1) = false := by rw [beq_eq_false_iff_ne]; omega
        simp [this]
    · rw [if_pos rfl, cut2, if_pos hc]
      rfl
theorem cut_none {l : List UInt8} (h : cut2 l = none) : Lib.cut l [13, 10] = (l, [], false) := by
  unfold Lib.cut
  rw [index_crlf, h]
  rfl
theorem cut_some {l t r : List UInt8} (h : cut2 l = some (t, r)) : Lib.cut l [13, 10] = (t, r, true) := by
  unfold Lib.cut
  rw [index_crlf, h]
  have e := cut2_some h
  simp only
  rw [if_pos (by omega), e]
  simp
abbrev colS : ByteArray := ⟨#[58]⟩
abbrev endS : ByteArray := ⟨#[13, 10]⟩
theorem cutC_any (s : ByteArray) (w : World) (hs : s.size ≤ 1000000000) (hm : MaxAt w) :
    Calls Tryz.prog 64 #[.string s, .string colS] w fun e w' => e = .returned (.tuple #[.string (ba (pre (bl s))), .string (ba (post (bl s))), .bool ((bl s).contains 58)]) ∧ Below w.heap.size w w' := by
  obtain ⟨m, hm⟩ := hm
  refine (Tryz.strings_Cut s colS m w (by omega) hm).mono ?_
  rintro e w' ⟨rfl, n, rfl⟩
  rw [show (colS.data.toList) = [58] from rfl, cut_colon]
  exact ⟨rfl, below_drewN (Below.refl _ _) n⟩
theorem cutN_any (s : ByteArray) (w : World) (hs : s.size ≤ 1000000000) (hm : MaxAt w) (h : cut2 (bl s) = none) :
    Calls Tryz.prog 64 #[.string s, .string endS] w fun e w' => e = .returned (.tuple #[.string s, .string ⟨#[]⟩, .bool false]) ∧ Below w.heap.size w w' := by
  obtain ⟨m, hm⟩ := hm
  refine (Tryz.strings_Cut s endS m w (by omega) hm).mono ?_
  rintro e w' ⟨rfl, n, rfl⟩
  rw [show (endS.data.toList) = [13, 10] from rfl, cut_none h]
  refine ⟨?_, below_drewN (Below.refl _ _) n⟩
  show Ending.returned (Value.tuple #[Value.string (ba (bl s)), .string ⟨#[]⟩, .bool false]) = _
  rw [ba_bl]
theorem cutS_any (s : ByteArray) (t r : List UInt8) (w : World) (hs : s.size ≤ 1000000000) (hm : MaxAt w) (h : cut2 (bl s) = some (t, r)) :
    Calls Tryz.prog 64 #[.string s, .string endS] w fun e w' => e = .returned (.tuple #[.string (ba t), .string (ba r), .bool true]) ∧ Below w.heap.size w w' := by
  obtain ⟨m, hm⟩ := hm
  refine (Tryz.strings_Cut s endS m w (by omega) hm).mono ?_
  rintro e w' ⟨rfl, n, rfl⟩
  rw [show (endS.data.toList) = [13, 10] from rfl, cut_some h]
  exact ⟨rfl, below_drewN (Below.refl _ _) n⟩

/-! Trim. -/
abbrev bkS : ByteArray := ⟨#[32, 9]⟩
theorem bk_set (c : UInt8) : ([32, 9] : List UInt8).contains c = bk c := by
  unfold bk bkN
  rw [Bool.eq_iff_iff]
  simp only [List.contains_cons, List.contains_nil, Bool.or_false, Bool.or_eq_true, beq_iff_eq]
  constructor
  · rintro (rfl | rfl)
    · exact .inl rfl
    · exact .inr rfl
  · rintro (h | h)
    · exact .inl (UInt8.toNat_inj.1 h)
    · exact .inr (UInt8.toNat_inj.1 h)
theorem trim_set (l : List UInt8) : Lib.trimS l [32, 9] = trimL l := by
  unfold Lib.trimS Lib.trimLeftS Lib.trimRightS trimL trimR
  have : (fun x : UInt8 => ([32, 9] : List UInt8).contains x) = bk := funext bk_set
  rw [this]
set_option maxRecDepth 100000 in
set_option maxHeartbeats 400000 in
theorem trim_any (s : ByteArray) (w : World) (hs : s.size ≤ 1000000000) :
    Calls Tryz.prog 61 #[.string s] w fun e w' => e = .returned (.string (ba (trimL (bl s)))) ∧ Below w.heap.size w w' := by
  have HT := Lib.hid (fun W => Tryz.strings_Trim_laid s bkS W (by omega) (by decide) (ascii_of_all (by decide)))
  have HE := Lib.hid (trim_set (bl s))
  go_enter Tryz.func61, Tryz.ntmps61
  go_wp2_with fail
  refine (HT.out _).mono ?_
  rintro e w1 ⟨rfl, hb⟩
  have HB := Lib.hid hb
  clear hb
  go_wp2_with fail
  go_ret
  exact ⟨by rw [← HE.out]; rfl, HB.out⟩

/-! The program's small tests. -/
set_option maxRecDepth 100000 in
set_option maxHeartbeats 400000 in
theorem blank_any (c : UInt8) (w : World) :
    Calls Tryz.prog 67 #[.int .u8 c.toNat] w fun e w' => e = .returned (.bool (bk c)) ∧ w = w' := by
  have e : Hid (bk c = (((c.toNat : Int) == 32) || ((c.toNat : Int) == 9))) := Lib.hid (by
    unfold bk bkN
    rw [Bool.eq_iff_iff]
    simp only [Bool.or_eq_true, beq_iff_eq]
    omega)
  generalize bk c = q at *
  cases h1 : ((c.toNat : Int) == 32) <;> cases h2 : ((c.toNat : Int) == 9)
  all_goals
    rw [h1, h2] at e
    go_enter Tryz.func67, Tryz.ntmps67
    go_wp2
    go_ret
    exact ⟨by rw [e.out]; rfl, rfl⟩
theorem all_step {p : UInt8 → Bool} (s : ByteArray) (k : Nat) (h : k < s.size) : ((bl s).drop k).all p = (p s[k] && ((bl s).drop (k + 1)).all p) := by
  rw [drop_cons s k h, List.all_cons]
set_option maxRecDepth 100000 in
set_option maxHeartbeats 1000000 in
theorem text_any (s : ByteArray) (w : World) (hs : s.size ≤ 1000000000) :
    Calls Tryz.prog 60 #[.string s] w fun e w' => e = .returned (.bool (textB (bl s))) ∧ w = w' := by
  go_enter Tryz.func60, Tryz.ntmps60
  go_wp2_with fail
  go_loopw [6] (fun i wr => ∃ k : Nat, k ≤ s.size ∧ i = .int .i64 k ∧ Hid (textB (bl s) = ((bl s).drop k).all tx) ∧ w = wr) (fun i _ => s.size - (intOf i).toNat)
  case atStart => exact ⟨0, Nat.zero_le _, rfl, Lib.hid rfl, rfl⟩
  case round =>
    obtain ⟨k, hk, rfl, hE, rfl⟩ := hrel
    by_cases hlt : k < s.size
    · have hst := all_step (p := tx) s k hlt
      have h8 := s[k].toNat_lt
      have htx : tx s[k] = !((decide (s[k].toNat < 32) && !(s[k].toNat == 9)) || s[k].toNat == 127) := rfl
      by_cases c1 : s[k].toNat < 32
      · by_cases c2 : s[k].toNat = 9
        · have d1 : ((s[k].toNat : Int) < 32) := by omega
          have d2 : ((s[k].toNat : Int) != 9) = false := by rw [c2]; rfl
          have d3 : ((s[k].toNat : Int) == 127) = false := by rw [c2]; rfl
          have HN : Hid (textB (bl s) = ((bl s).drop (k + 1)).all tx) := Lib.hid (by rw [hE.out, hst, htx, c2]; simp)
          clear hst htx
          go_wp2_with fail
          go_roundw
          case rel => exact ⟨k + 1, by omega, by simp, HN, trivial⟩
          case measure => simp [intOf]; omega
        · have d1 : ((s[k].toNat : Int) < 32) := by omega
          have d2 : ((s[k].toNat : Int) != 9) = true := by rw [bne_iff_ne]; omega
          have HN : Hid (textB (bl s) = false) := Lib.hid (by rw [hE.out, hst, htx]; simp [c1, c2])
          clear hst htx
          go_wp2_with fail
          go_ret
          rw [HN.out]
          exact ⟨rfl, rfl⟩
      · have d1 : ¬ ((s[k].toNat : Int) < 32) := by omega
        by_cases c2 : s[k].toNat = 127
        · have d3 : ((s[k].toNat : Int) == 127) = true := by rw [c2]; rfl
          have HN : Hid (textB (bl s) = false) := Lib.hid (by rw [hE.out, hst, htx, c2]; simp)
          clear hst htx
          go_wp2_with fail
          go_ret
          rw [HN.out]
          exact ⟨rfl, rfl⟩
        · have d3 : ((s[k].toNat : Int) == 127) = false := by rw [beq_eq_false_iff_ne]; omega
          have HN : Hid (textB (bl s) = ((bl s).drop (k + 1)).all tx) := Lib.hid (by rw [hE.out, hst, htx]; simp [c1, c2])
          clear hst htx
          go_wp2_with fail
          go_roundw
          case rel => exact ⟨k + 1, by omega, by simp, HN, trivial⟩
          case measure => simp [intOf]; omega
    · have HN : Hid (textB (bl s) = true) := Lib.hid (by rw [hE.out, drop_end s k hlt]; rfl)
      go_wp2_with fail
      go_ret
      rw [HN.out]
      exact ⟨rfl, rfl⟩
end Go.Proofs.YtegbkfloiiilfaaGreatDoor.Head

/-
  Fields and texts in memory: lists of them, read and appended to.
-/
namespace Go.Proofs.YtegbkfloiiilfaaGreatDoor.Head
open Go Go.RowKit

theorem addr_add (b off j : Nat) : (⟨b, off, none⟩ : Addr).add j = ⟨b, off + j, none⟩ := by unfold Addr.add; split <;> simp_all

/-- A block of memory that lies there whole, and may be written. -/
def Lies (w : World) (b : Nat) (cs : Array Value) (t : TypeId) : Prop := w.heap[b]? = some (.cells cs t (0, 0))
section
variable {w w' : World} {b c i : Nat} {cs : Array Value} {t : TypeId}
theorem Lies.lt (h : Lies w b cs t) : b < w.heap.size := by
  by_cases hl : b < w.heap.size
  · exact hl
  · have : w.heap[b]? = none := by simp; omega
    rw [Lies, this] at h
    cases h
theorem Lies.cell (h : Lies w b cs t) (j : Nat) : w.cell? ⟨b, j, none⟩ = cs[j]? := cell_of_row w b j cs t (0, 0) h
theorem Lies.free (h : Lies w b cs t) (j : Nat) : w.frozen? ⟨b, j, none⟩ = false := frozen_of_row w b j cs t h
theorem Lies.same (h : Lies w b cs t) (e : w'.heap[b]? = w.heap[b]?) : Lies w' b cs t := e.trans h
theorem Lies.new (w : World) (cs : Array Value) (t : TypeId) : Lies (w.alloc (.cells cs t)) w.heap.size cs t := heap_alloc_new w _
theorem Lies.set (h : Lies w b cs t) (i : Nat) (v : Value) : Lies (w.setCell ⟨b, i, none⟩ v) b (cs.setIfInBounds i v) t := heap_setCell_same w b i cs t v h
theorem Lies.other (h : Lies w b cs t) (v : Value) (hne : b ≠ c) : Lies (w.setCell ⟨c, i, none⟩ v) b cs t := by
  unfold Lies
  rw [heap_setCell_other w ⟨c, i, none⟩ b v hne]; exact h
end

/-- What of the blocks that were there may have turned: those of F alone. -/
structure Fr (F : Nat → Prop) (w w' : World) : Prop where
  os : w'.os = w.os
  tape : w'.tape = w.tape
  output : w'.output = w.output
  size : w.heap.size ≤ w'.heap.size
  block : ∀ k, k < w.heap.size → ¬ F k → w'.heap[k]? = w.heap[k]?
theorem Fr.refl (F : Nat → Prop) (w : World) : Fr F w w := ⟨rfl, rfl, rfl, Nat.le_refl _, fun _ _ _ => rfl⟩
theorem Fr.trans {F F' : Nat → Prop} {a b c : World} (h : Fr F a b) (k : Fr F' b c) (hF : ∀ i, i < a.heap.size → F' i → F i) : Fr F a c :=
  ⟨k.os.trans h.os, k.tape.trans h.tape, k.output.trans h.output, Nat.le_trans h.size k.size, fun i hi hn => (k.block i (Nat.lt_of_lt_of_le hi h.size) fun e => hn (hF i hi e)).trans (h.block i hi hn)⟩
theorem Fr.mono {F F' : Nat → Prop} {a b : World} (h : Fr F a b) (hF : ∀ i, i < a.heap.size → F i → F' i) : Fr F' a b :=
  ⟨h.os, h.tape, h.output, h.size, fun i hi hn => h.block i hi fun e => hn (hF i hi e)⟩
theorem Fr.of_below {F : Nat → Prop} {w w' : World} (h : Below w.heap.size w w') : Fr F w w' := ⟨h.os, h.tape, h.output, h.size, fun k hk _ => h.block k hk⟩
theorem Fr.below {F : Nat → Prop} {w w' : World} {B : Nat} (h : Fr F w w') (hB : B ≤ w.heap.size) (hF : ∀ k, F k → B ≤ k) : Below B w w' :=
  ⟨h.os, h.tape, h.output, h.size, fun k hk => h.block k (by omega) fun e => by have := hF k e; omega⟩
theorem Fr.setCell {F : Nat → Prop} {a w : World} (h : Fr F a w) {b i : Nat} (hb : b < a.heap.size → F b) (v : Value) : Fr F a (w.setCell ⟨b, i, none⟩ v) :=
  ⟨h.os, h.tape, h.output, by simpa [World.setCell] using h.size, fun k hk hn => (Below.heap_setCell _ _ _ _ (fun e => hn (by subst e; exact hb hk))).trans (h.block k hk hn)⟩
theorem Fr.one (w : World) (b i : Nat) (v : Value) : Fr (fun k => k = b) w (w.setCell ⟨b, i, none⟩ v) := Fr.setCell (F := fun k => k = b) (Fr.refl _ w) (fun _ => rfl) v
theorem Fr.alloc {F : Nat → Prop} {a w : World} (h : Fr F a w) (o : Obj) : Fr F a (w.alloc o) :=
  ⟨h.os, h.tape, h.output, by simpa using Nat.le_succ_of_le h.size, fun k hk hn => (Below.heap_alloc _ _ _ (Nat.lt_of_lt_of_le hk h.size)).trans (h.block k hk hn)⟩
theorem Fr.drew {F : Nat → Prop} {a w : World} (h : Fr F a w) : Fr F a w.drew := ⟨h.os, h.tape, h.output, h.size, h.block⟩
theorem Fr.drewN {F : Nat → Prop} {a w : World} (h : Fr F a w) (n : Nat) : Fr F a (w.drewN n) :=
  h.trans (Fr.of_below (F := fun _ => False) (below_drewN (Below.refl _ _) n)) fun _ _ e => e.elim
theorem Fr.grown {F : Nat → Prop} {a w w' : World} {row : Option Nat} (h : Fr F a w) (hg : w.grownBy w' row) (hr : ∀ k, row = some k → k < a.heap.size → F k) : Fr F a w' :=
  ⟨hg.os.trans h.os, hg.tape.trans h.tape, hg.output.trans h.output, Nat.le_trans h.size hg.size, fun k hk hn => (hg.block k (Nat.lt_of_lt_of_le hk h.size) fun e => hn (hr k e.symm hk)).trans (h.block k hk hn)⟩
theorem Fr.owns {F : Nat → Prop} {w w' : World} {B : Nat} {t : TypeId} {z n : Nat} {v : Value} {xs : List Value} (h : w.ownsRow B t z v n xs) (hf : Fr F w w') (hn : ∀ k, v.ownBlock = some k → ¬ F k) : w'.ownsRow B t z v n xs := by
  refine ⟨h.1, ?_⟩
  rcases h.2 with h2 | ⟨g, cap, cur, rfl, hb, hg, r⟩
  · exact .inl h2
  · refine .inr ⟨g, cap, cur, rfl, hb, ?_, r⟩
    rw [hf.block g (Array.getElem?_eq_some_iff.1 hg).1 (hn g rfl)]
    exact hg
theorem owns_set {w : World} {B : Nat} {t : TypeId} {z n : Nat} {v : Value} {xs : List Value} (h : w.ownsRow B t z v n xs) {g : Nat} (hg : v.ownBlock = some g) (i : Nat) (x : Value) (_hi : i < n * z) : (w.setCell ⟨g, i, none⟩ x).ownsRow B t z v n (xs.set i x) := by
  refine ⟨by rw [List.length_set]; exact h.1, ?_⟩
  rcases h.2 with ⟨rfl, _⟩ | ⟨g', cap, cur, rfl, hb, hh, h1, h2, h3, h4⟩
  · cases hg
  · obtain rfl : g' = g := by simpa [Value.ownBlock] using hg
    refine .inr ⟨g', cap, cur.setIfInBounds i x, rfl, hb, heap_setCell_same w g' i cur t x hh, h1, h2, by rw [Array.size_setIfInBounds]; exact h3, ?_⟩
    rw [Array.toList_setIfInBounds, List.take_set, h4]
theorem owns_slice {w : World} {B : Nat} {t : TypeId} {z n : Nat} {v : Value} {xs : List Value} (h : w.ownsRow B t z v n xs) : ∃ a c, v = .slice a n c := by
  rcases h.2 with ⟨rfl, rfl⟩ | ⟨g, cap, cur, rfl, _⟩
  · exact ⟨_, _, rfl⟩
  · exact ⟨_, _, rfl⟩


theorem range_below {w w' : World} {b o : Nat} {cs : List Value} (h : w.rangeAt b o cs) (hl : b < w.heap.size) (hb : Below w.heap.size w w') : w'.rangeAt b o cs := fun j v hv => by
  rw [hb.cell (p := ⟨b, o + j, none⟩) hl]
  exact h j v hv
theorem owns_below {w w' : World} {B : Nat} {e : TypeId} {z : Nat} {v : Value} {n : Nat} {xs : List Value} (h : w.ownsRow B e z v n xs) (hb : Below w.heap.size w w') : w'.ownsRow B e z v n xs :=
  Fr.owns (F := fun _ => False) h (Fr.of_below hb) (fun _ _ e => e)


/-! Texts. -/
abbrev strT : TypeId := 9
abbrev strsT : TypeId := 57
theorem infoS : (Tryz.prog.info? strT).map (fun i => (i.zero, i.size, i.bytes)) = some (some (.string ByteArray.empty), 1, 16) := by kernel_rfl
theorem new_str (w : World) (x : ByteArray) : (w.alloc (.cells #[.string x] strT)).cell? ⟨w.heap.size, 0, none⟩ = some (.string x) := by
  rw [cell_of_row _ _ _ _ _ _ (heap_alloc_new w _)]
  rfl
/-- One text appended. -/
theorem append_str (w : World) (B : Nat) (v : Value) (ws : List ByteArray) (x : ByteArray) (ho : w.ownsRow B strT 1 v ws.length (ws.map Value.string)) (hl : ws.length ≤ 2000000) (hB : B ≤ w.heap.size) :
    ∃ a c w', (Builtin.append_ #[strsT, strsT] strsT #[v, .slice (some ⟨w.heap.size, 0, none⟩) 1 1]).run Tryz.prog (w.alloc (.cells #[.string x] strT)) = .ok (.slice a (ws.length + 1) c) w' ∧
      Hid (w'.ownsRow B strT 1 (.slice a (ws.length + 1) c) (ws.length + 1) ((ws ++ [x]).map Value.string) ∧ Below B w w' ∧ (w.alloc (.cells #[.string x] strT)).grownBy w' v.ownBlock ∧ (∀ k, (Value.slice a (ws.length + 1) c).ownBlock = some k → v.ownBlock = some k ∨ w.heap.size ≤ k)) := by
  obtain ⟨i, hi, hz, hs, hb⟩ := info_parts infoS
  obtain ⟨v', w', hr, h2, h3, _, h5⟩ := run_append_own_at (P := Tryz.prog) (w.alloc (.cells #[.string x] strT)) B strsT strsT strT i (.string ByteArray.empty) 1 16 Tryz.underlying57 hi hz hs hb rfl (by decide) v ws.length (ws.map Value.string) (ho.alloc _) ⟨w.heap.size, 0, none⟩ 1 1 [.string x] rfl (fun j u hu => by
    rw [addr_add, Nat.zero_add]
    match j, hu with
    | 0, hu =>
      obtain rfl : Value.string x = u := by simpa using hu
      exact new_str w x
    | j + 1, hu => simp at hu) (by intro u hu; obtain rfl := List.mem_singleton.1 hu; rfl) (by unfold maxLen; omega) (by omega) (by simp; omega)
  obtain ⟨a, c, rfl⟩ := owns_slice h2
  refine ⟨a, c, w', hr, Lib.hid ⟨by simpa using h2, ((Below.refl B w).alloc hB _).grown h3 (by simp; omega) fun k hk => ((ho.alloc (.cells #[.string x] strT)).lt k hk).1, h3, fun k hk => ?_⟩⟩
  rcases h5 with e | e
  · rw [e] at hk; exact .inl hk
  · rw [e] at hk
    obtain rfl := Option.some.inj hk
    exact .inr (by simp)
/-- The value is a slice that reads as these strings. -/
def ReadsS (w : World) (v : Value) (ws : List ByteArray) : Prop :=
  (∃ a cap, v = .slice a 0 cap ∧ ws = []) ∨
  (∃ b cap, v = .slice (some ⟨b, 0, none⟩) ws.length cap ∧ ws.length ≤ cap ∧ cap ≤ 9223372036854775807 ∧ b < w.heap.size ∧ ∀ i x, ws[i]? = some x → w.cell? ⟨b, i, none⟩ = some (.string x))
section
variable {w w' : World} {v : Value} {q : List ByteArray}
theorem ReadsS.below (h : ReadsS w v q) (hb : Below w.heap.size w w') : ReadsS w' v q := by
  rcases h with h | ⟨b, cap, rfl, h1, h2, h3, h4⟩
  · exact .inl h
  · exact .inr ⟨b, cap, rfl, h1, h2, by have := hb.size; omega, fun i e hi => by rw [hb.cell (p := ⟨b, i, none⟩) h3]; exact h4 i e hi⟩
theorem owns_readsS {B : Nat} (h : w.ownsRow B strT 1 v q.length (q.map Value.string)) : ReadsS w v q := by
  have hc := fun g hg => h.cells (g := g) hg
  have hlt := h.lt
  rcases h.2 with ⟨rfl, hn⟩ | ⟨g, cap, cur, rfl, hb, hg, h1, h2, _, _⟩
  · exact .inl ⟨_, _, rfl, List.length_eq_zero_iff.1 hn⟩
  · refine .inr ⟨g, cap, rfl, h1, by unfold maxLen at h2; omega, (hlt g rfl).2, fun i e hi => ?_⟩
    have e1 := hc g rfl i (.string e) (by rw [List.getElem?_map, hi]; rfl)
    rw [addr_add, Nat.zero_add] at e1
    exact e1
end
def TxAt (w wr : World) (v : Value) (ws : List ByteArray) : Prop := wr.ownsRow w.heap.size strT 1 v ws.length (ws.map Value.string) ∧ Below w.heap.size w wr
theorem TxAt.start (w : World) : TxAt w w (.slice none 0 0) [] := ⟨World.ownsRow_nil _ _ _ _, Below.refl _ _⟩
theorem TxAt.on {w wr w' : World} {v : Value} {ws : List ByteArray} (h : TxAt w wr v ws) (hb : Below wr.heap.size wr w') : TxAt w w' v ws := ⟨owns_below h.1 hb, h.2.trans (hb.mono h.2.size)⟩

/-! Fields. -/
abbrev fdT : TypeId := 68
abbrev fdsT : TypeId := 23
abbrev rfT : TypeId := 65
abbrev rfsT : TypeId := 29
def fdC (p : Fd) : List Value := [.string p.n, .string p.v]
abbrev fdV (p : Fd) : Value := .agg #[.string p.n, .string p.v]
abbrev boxF (t : TypeId) (p : Fd) : Obj := .cells #[.string p.n, .string p.v] t
theorem tkC_length (p : Fd) : (fdC p).length = 2 := rfl
theorem flat2_length (q : List Fd) : (q.flatMap fdC).length = q.length * 2 := by
  induction q with
  | nil => rfl
  | cons e q ih => rw [List.flatMap_cons, List.length_append, ih, tkC_length, List.length_cons]; omega
theorem flat2_get : ∀ (q : List Fd) (i : Nat) (e : Fd), q[i]? = some e → ∀ j, j < 2 → (q.flatMap fdC)[i * 2 + j]? = (fdC e)[j]?
  | [], _, _, h, _, _ => by simp at h
  | x :: q, 0, e, h, j, hj => by
    obtain rfl : x = e := by simpa using h
    rw [List.flatMap_cons, List.getElem?_append_left (by rw [tkC_length]; omega)]
    simp
  | x :: q, i + 1, e, h, j, hj => by
    rw [List.flatMap_cons, List.getElem?_append_right (by rw [tkC_length]; omega), tkC_length, show (i + 1) * 2 + j - 2 = i * 2 + j by omega]
    exact flat2_get q i e (by simpa using h) j hj
theorem flat2_snoc (l : List Fd) (e : Fd) : (l ++ [e]).flatMap fdC = l.flatMap fdC ++ fdC e := by simp
theorem one_cell2 (c : Fd) : ∀ u ∈ fdC c, u.oneCell' = true := by
  intro u hu
  unfold fdC at hu
  simp only [List.mem_cons, List.not_mem_nil, or_false] at hu
  rcases hu with rfl | rfl <;> rfl
theorem flat2_one (q : List Fd) : ∀ u ∈ q.flatMap fdC, u.oneCell' = true := by
  intro u hu
  obtain ⟨c, _, hc⟩ := List.mem_flatMap.1 hu
  exact one_cell2 c u hc
theorem two {w : World} {b o : Nat} {e : Fd} (h : w.rangeAt b o (fdC e)) : w.cell? ⟨b, o, none⟩ = some (.string e.n) ∧ w.cell? ⟨b, o + 1, none⟩ = some (.string e.v) := ⟨h 0 _ rfl, h 1 _ rfl⟩

/-- The value is a slice that reads as these fields. -/
def ReadsF (w : World) (v : Value) (q : List Fd) : Prop :=
  (∃ a cap, v = .slice a 0 cap ∧ q = []) ∨
  (∃ b off cap, v = .slice (some ⟨b, off, none⟩) q.length cap ∧ q.length ≤ cap ∧ cap ≤ 9223372036854775807 ∧ b < w.heap.size ∧ ∀ i e, q[i]? = some e → w.rangeAt b (off + i * 2) (fdC e))
section
variable {w w' : World} {v : Value} {q : List Fd}
theorem ReadsF.below (h : ReadsF w v q) (hb : Below w.heap.size w w') : ReadsF w' v q := by
  rcases h with h | ⟨b, off, cap, rfl, h1, h2, h3, h4⟩
  · exact .inl h
  · exact .inr ⟨b, off, cap, rfl, h1, h2, by have := hb.size; omega, fun i e hi => range_below (h4 i e hi) h3 hb⟩
theorem ReadsF.shape (h : ReadsF w v q) : ∃ a cap, v = .slice a q.length cap := by
  rcases h with ⟨a, cap, rfl, rfl⟩ | ⟨b, off, cap, rfl, _⟩
  · exact ⟨a, cap, rfl⟩
  · exact ⟨_, cap, rfl⟩
theorem nil_readsF (w : World) : ReadsF w (.slice none 0 0) [] := .inl ⟨_, _, rfl, rfl⟩
/-- Where the cells of an entry stand. -/
theorem ReadsF.at_ {a : Option Addr} {n cap : Nat} (h : ReadsF w (.slice a n cap) q) (i : Nat) (e : Fd) (hi : q[i]? = some e) : ∃ b off, a = some ⟨b, off, none⟩ ∧ b < w.heap.size ∧ w.rangeAt b (off + i * 2) (fdC e) := by
  rcases h with ⟨a', cap', he, rfl⟩ | ⟨b, off, cap', he, h1, h2, h3, h4⟩
  · simp at hi
  · obtain ⟨rfl, -, -⟩ := Value.slice.inj he
    exact ⟨b, off, rfl, h3, h4 i e hi⟩
end
theorem owns_readsF {w : World} {B : Nat} {t : TypeId} {v : Value} {q : List Fd} (h : w.ownsRow B t 2 v q.length (q.flatMap fdC)) : ReadsF w v q := by
  have hc := fun g hg => h.cells (g := g) hg
  have hlt := h.lt
  rcases h.2 with ⟨rfl, hn⟩ | ⟨g, cap, cur, rfl, hb, hg, h1, h2, _, _⟩
  · exact .inl ⟨_, _, rfl, List.length_eq_zero_iff.1 hn⟩
  · refine .inr ⟨g, 0, cap, rfl, h1, by unfold maxLen at h2; omega, (hlt g rfl).2, fun i e hi j v hv => ?_⟩
    have hj : j < 2 := by
      have := (List.getElem?_eq_some_iff.1 hv).1
      rw [tkC_length] at this
      exact this
    have e1 := hc g rfl (i * 2 + j) v (by rw [flat2_get q i e hi j hj]; exact hv)
    rw [addr_add] at e1
    rw [← e1]
    congr 2
    omega
theorem sizeFd : (Tryz.prog.info? fdT).map (·.size) = some 2 := by kernel_rfl
theorem sizeR : (Tryz.prog.info? rfT).map (·.size) = some 2 := by kernel_rfl
theorem infoFd : (Tryz.prog.info? fdT).map (fun i => (i.zero, i.size, i.bytes)) = some (some (.agg #[.string ⟨#[]⟩, .string ⟨#[]⟩]), 2, 32) := by kernel_rfl
theorem infoR : (Tryz.prog.info? rfT).map (fun i => (i.zero, i.size, i.bytes)) = some (some (.agg #[.string ⟨#[]⟩, .string ⟨#[]⟩]), 2, 32) := by kernel_rfl
theorem new_boxF (w : World) (t : TypeId) (c : Fd) : (w.alloc (boxF t c)).rangeAt w.heap.size 0 (fdC c) := by
  intro j u h
  have hb := heap_alloc_new w (boxF t c)
  simp only [World.cell?, hb, Nat.zero_add]
  unfold fdC at h
  match j, h with
  | 0, h => simpa using h
  | 1, h => simpa using h
  | j + 2, h => simp at h
/-- One field appended, as the program does it. -/
theorem append_oneF (mo : Nat) {us : List Fd} (hn : us.length = mo) (W : World) (B : Nat) (ou : Value) (y : Fd) (ho : W.ownsRow B fdT 2 ou mo (us.flatMap fdC)) (hl : mo ≤ 100000000) (hB : B ≤ W.heap.size) :
    ∃ a c w', (Builtin.append_ #[fdsT, fdsT] fdsT #[ou, .slice (some ⟨W.heap.size, 0, none⟩) 1 1]).run Tryz.prog (W.alloc (boxF fdT y)) = .ok (.slice a (mo + 1) c) w' ∧
      Hid (w'.ownsRow B fdT 2 (.slice a (mo + 1) c) (mo + 1) ((us ++ [y]).flatMap fdC) ∧ Below B W w') := by
  subst hn
  have hal : Below B W (W.alloc (boxF fdT y)) := (Below.refl _ _).alloc hB _
  obtain ⟨i0, hi, hz0, hz1, hz2⟩ := info_parts infoFd
  obtain ⟨v', w', hr, h2, h3, h4⟩ := run_append_own (P := Tryz.prog) (W.alloc (boxF fdT y)) B fdsT fdsT fdT i0 _ 2 32 Tryz.underlying23 hi hz0 hz1 hz2 rfl (by decide) ou us.length _ (ho.alloc _) ⟨W.heap.size, 0, none⟩ 1 1 (fdC y) rfl (fun j u hu => by rw [addr_add]; exact new_boxF W fdT y j u hu) (one_cell2 y) (by unfold maxLen; omega) (by omega) (by simp; omega)
  obtain ⟨a, c, rfl⟩ := owns_slice h2
  refine ⟨a, c, w', hr, Lib.hid ⟨?_, ?_⟩⟩
  · rw [flat2_snoc]; exact h2
  · exact hal.grown h3 (by simp; omega) fun k hk => ((ho.alloc (boxF fdT y)).lt k hk).1
/-- One field appended, as the document does it. -/
theorem append_oneR (mo : Nat) {us : List Fd} (hn : us.length = mo) (W : World) (B : Nat) (ou : Value) (y : Fd) (ho : W.ownsRow B rfT 2 ou mo (us.flatMap fdC)) (hl : mo ≤ 100000000) (hB : B ≤ W.heap.size) :
    ∃ a c w', (Builtin.append_ #[rfsT, rfsT] rfsT #[ou, .slice (some ⟨W.heap.size, 0, none⟩) 1 1]).run Tryz.prog (W.alloc (boxF rfT y)) = .ok (.slice a (mo + 1) c) w' ∧
      Hid (w'.ownsRow B rfT 2 (.slice a (mo + 1) c) (mo + 1) ((us ++ [y]).flatMap fdC) ∧ Below B W w') := by
  subst hn
  have hal : Below B W (W.alloc (boxF rfT y)) := (Below.refl _ _).alloc hB _
  obtain ⟨i0, hi, hz0, hz1, hz2⟩ := info_parts infoR
  obtain ⟨v', w', hr, h2, h3, h4⟩ := run_append_own (P := Tryz.prog) (W.alloc (boxF rfT y)) B rfsT rfsT rfT i0 _ 2 32 Tryz.underlying29 hi hz0 hz1 hz2 rfl (by decide) ou us.length _ (ho.alloc _) ⟨W.heap.size, 0, none⟩ 1 1 (fdC y) rfl (fun j u hu => by rw [addr_add]; exact new_boxF W rfT y j u hu) (one_cell2 y) (by unfold maxLen; omega) (by omega) (by simp; omega)
  obtain ⟨a, c, rfl⟩ := owns_slice h2
  refine ⟨a, c, w', hr, Lib.hid ⟨?_, ?_⟩⟩
  · rw [flat2_snoc]; exact h2
  · exact hal.grown h3 (by simp; omega) fun k hk => ((ho.alloc (boxF rfT y)).lt k hk).1
end Go.Proofs.YtegbkfloiiilfaaGreatDoor.Head

/-
  Walks: isName, isField, check.
-/
namespace Go.Proofs.YtegbkfloiiilfaaGreatDoor.Head
open Go Go.RowKit

theorem nameB_all {l : List UInt8} (h : l.all nm = false) : nameB l = false := by unfold nameB; rw [h]; simp
set_option maxRecDepth 100000 in
set_option maxHeartbeats 1000000 in
theorem name_any (s : ByteArray) (w : World) (hs : s.size ≤ 1000000000) :
    Calls Tryz.prog 59 #[.string s] w fun e w' => e = .returned (.bool (nameB (bl s))) ∧ w = w' := by
  go_enter Tryz.func59, Tryz.ntmps59
  go_wp2_with fail
  go_loopw [6] (fun i wr => ∃ k : Nat, k ≤ s.size ∧ i = .int .i64 k ∧ Hid ((bl s).all nm = ((bl s).drop k).all nm) ∧ w = wr) (fun i _ => s.size - (intOf i).toNat)
  case atStart => exact ⟨0, Nat.zero_le _, rfl, Lib.hid rfl, rfl⟩
  case round =>
    obtain ⟨k, hk, rfl, hE, rfl⟩ := hrel
    by_cases hlt : k < s.size
    · have hst := all_step (p := nm) s k hlt
      have h8 := s[k].toNat_lt
      have hnm : nm s[k] = !(decide (s[k].toNat < 33) || (decide (126 < s[k].toNat) || s[k].toNat == 58)) := rfl
      by_cases c1 : s[k].toNat < 33
      · have d1 : ((s[k].toNat : Int) < 33) := by omega
        have HN : Hid (nameB (bl s) = false) := Lib.hid (nameB_all (by rw [hE.out, hst, hnm]; simp [c1]))
        clear hst hnm
        go_wp2_with fail
        go_ret
        rw [HN.out]
        exact ⟨rfl, rfl⟩
      · have d1 : ¬ ((s[k].toNat : Int) < 33) := by omega
        by_cases c2 : 126 < s[k].toNat
        · have d2 : (126 : Int) < (s[k].toNat : Int) := by omega
          have HN : Hid (nameB (bl s) = false) := Lib.hid (nameB_all (by rw [hE.out, hst, hnm]; simp [c1, c2]))
          clear hst hnm
          go_wp2_with fail
          go_ret
          rw [HN.out]
          exact ⟨rfl, rfl⟩
        · have d2 : ¬ (126 : Int) < (s[k].toNat : Int) := by omega
          by_cases c3 : s[k].toNat = 58
          · have d3 : ((s[k].toNat : Int) == 58) = true := by rw [c3]; rfl
            have HN : Hid (nameB (bl s) = false) := Lib.hid (nameB_all (by rw [hE.out, hst, hnm, c3]; simp))
            clear hst hnm
            go_wp2_with fail
            go_ret
            rw [HN.out]
            exact ⟨rfl, rfl⟩
          · have d3 : ((s[k].toNat : Int) == 58) = false := by rw [beq_eq_false_iff_ne]; omega
            have HN : Hid ((bl s).all nm = ((bl s).drop (k + 1)).all nm) := Lib.hid (by rw [hE.out, hst, hnm]; simp [c1, c2, c3])
            clear hst hnm
            go_wp2_with fail
            go_roundw
            case rel => exact ⟨k + 1, by omega, by simp, HN, trivial⟩
            case measure => simp [intOf]; omega
    · have hq := empty_any s
      have HN : Hid (nameB (bl s) = (!(bl s).isEmpty && decide (s.size ≤ 76))) := Lib.hid (by
        unfold nameB
        rw [hE.out, drop_end s k hlt, bl_len]
        simp)
      cases he : (bl s).isEmpty
      · rw [he] at hq HN
        by_cases c : s.size ≤ 76
        · have d : (s.size : Int) ≤ 76 := by omega
          rw [decide_eq_true c] at HN
          go_wp2_with fail
          go_ret
          exact ⟨ret_bool (by rw [HN.out]; rfl), rfl⟩
        · have d : ¬ (s.size : Int) ≤ 76 := by omega
          rw [decide_eq_false c] at HN
          go_wp2_with fail
          go_ret
          exact ⟨ret_bool (by rw [HN.out]; rfl), rfl⟩
      · rw [he] at hq HN
        go_wp2_with fail
        go_ret
        exact ⟨ret_bool (by rw [HN.out]; rfl), rfl⟩
set_option maxRecDepth 100000 in
set_option maxHeartbeats 1000000 in
theorem field_any (s : ByteArray) (w : World) (hs : s.size ≤ 1000000000) (hm : MaxAt w) :
    Calls Tryz.prog 97 #[.string s] w fun e w' => e = .returned (.bool (fieldB (bl s))) ∧ Below w.heap.size w w' := by
  have HC := Lib.hid (fun W (h : MaxAt W) => cutC_any s W hs h)
  have HM := Lib.hid hm
  have hp : (pre (bl s)).length ≤ s.size := by
    unfold pre
    have := (List.takeWhile_sublist (fun x : UInt8 => x != 58) (l := bl s)).length_le
    rw [bl_len] at this
    exact this
  have HN := Lib.hid (fun W => name_any (ba (pre (bl s))) W (by rw [ba_size]; omega))
  rw [bl_ba] at HN
  have HF : Hid (fieldB (bl s) = ((bl s).contains 58 && nameB (pre (bl s)))) := Lib.hid rfl
  generalize fieldB (bl s) = fb at *
  generalize nameB (pre (bl s)) = nb at *
  generalize (bl s).contains 58 = cb at *
  generalize ba (pre (bl s)) = p at *
  generalize ba (post (bl s)) = q at *
  clear hm hp
  go_enter Tryz.func97, Tryz.ntmps97
  go_wp2_with fail
  refine (HC.out _ HM.out).mono ?_
  rintro e w1 ⟨rfl, hb⟩
  have HB := Lib.hid hb
  clear hb
  cases cb
  · go_wp2_with fail
    go_ret
    exact ⟨ret_bool (by rw [HF.out]; rfl), HB.out⟩
  · go_wp2_with fail
    refine (HN.out _).mono ?_
    rintro e w2 ⟨rfl, rfl⟩
    go_wp2_with fail
    go_ret
    exact ⟨ret_bool (by rw [HF.out]; rfl), HB.out⟩
theorem hd_get (s : ByteArray) (h : 0 < s.size) : hdB (bl s) = bk s[0] := by
  have := drop_cons s 0 h
  rw [List.drop_zero] at this
  rw [this]
  rfl
set_option maxRecDepth 100000 in
set_option maxHeartbeats 2000000 in
theorem check_any (s : ByteArray) (k : Nat) (w : World) (h0 : 0 < s.size) (hs : s.size ≤ 1000000000) (_hk : k ≤ 1000000) (hm : MaxAt w) :
    Calls Tryz.prog 66 #[.string s, .int .i64 k] w fun e w' => e = .returned (.int .i64 (chk (bl s) k)) ∧ Below w.heap.size w w' := by
  have HB := Lib.hid (fun W => blank_any s[0] W)
  have HT := Lib.hid (fun W => text_any s W hs)
  have HF := Lib.hid (fun W (h : MaxAt W) => field_any s W hs h)
  have HM := Lib.hid hm
  have hc : chk (bl s) k = if 998 < s.size then 2 else if textB (bl s) = false then 150 else if bk s[0] = true then (if k = 0 then 150 else 0) else if fieldB (bl s) = false then 150 else if k = 100 then 8 else 0 := by
    unfold chk
    rw [bl_len, hd_get s h0]
  have HCK := Lib.hid hc
  generalize chk (bl s) k = ck at *
  clear hm hc
  by_cases c1 : 998 < s.size
  · have d1 : (998 : Int) < (s.size : Int) := by omega
    rw [if_pos c1] at HCK
    generalize bk s[0] = hb at *
    go_enter Tryz.func66, Tryz.ntmps66
    go_wp2_with fail
    refine (HB.out _).mono ?_
    rintro e w1 ⟨rfl, rfl⟩
    go_wp2_with fail
    go_ret
    rw [HCK.out]
    exact ⟨rfl, Below.refl _ _⟩
  · have d1 : ¬ (998 : Int) < (s.size : Int) := by omega
    rw [if_neg c1] at HCK
    cases c2 : textB (bl s)
    · rw [c2] at HT HCK
      generalize bk s[0] = hb at *
      go_enter Tryz.func66, Tryz.ntmps66
      go_wp2_with fail
      refine (HB.out _).mono ?_
      rintro e w1 ⟨rfl, rfl⟩
      go_wp2_with fail
      refine (HT.out _).mono ?_
      rintro e w2 ⟨rfl, rfl⟩
      go_wp2_with fail
      go_ret
      rw [HCK.out]
      exact ⟨rfl, Below.refl _ _⟩
    · rw [c2] at HT HCK
      cases c3 : bk s[0]
      · rw [c3] at HB HCK
        cases c4 : fieldB (bl s)
        · rw [c4] at HF HCK
          clear c1 c2 c3 c4
          go_enter Tryz.func66, Tryz.ntmps66
          go_wp2_with fail
          refine (HB.out _).mono ?_
          rintro e w1 ⟨rfl, rfl⟩
          go_wp2_with fail
          refine (HT.out _).mono ?_
          rintro e w2 ⟨rfl, rfl⟩
          go_wp2_with fail
          refine (HF.out _ HM.out).mono ?_
          rintro e w3 ⟨rfl, hb⟩
          have HB3 := Lib.hid hb
          clear hb
          go_wp2_with fail
          go_ret
          rw [HCK.out]
          exact ⟨rfl, HB3.out⟩
        · rw [c4] at HF HCK
          have hq : ((k : Int) == 100) = decide (k = 100) := by
            rw [Bool.eq_iff_iff, beq_iff_eq, decide_eq_true_iff]
            omega
          by_cases c5 : k = 100
          · rw [decide_eq_true c5] at hq
            rw [if_pos c5] at HCK
            clear c1 c2 c3 c4 c5
            go_enter Tryz.func66, Tryz.ntmps66
            go_wp2_with fail
            refine (HB.out _).mono ?_
            rintro e w1 ⟨rfl, rfl⟩
            go_wp2_with fail
            refine (HT.out _).mono ?_
            rintro e w2 ⟨rfl, rfl⟩
            go_wp2_with fail
            refine (HF.out _ HM.out).mono ?_
            rintro e w3 ⟨rfl, hb⟩
            have HB3 := Lib.hid hb
            clear hb
            go_wp2_with fail
            go_ret
            rw [HCK.out]
            exact ⟨rfl, HB3.out⟩
          · rw [decide_eq_false c5] at hq
            rw [if_neg c5] at HCK
            clear c1 c2 c3 c4 c5
            go_enter Tryz.func66, Tryz.ntmps66
            go_wp2_with fail
            refine (HB.out _).mono ?_
            rintro e w1 ⟨rfl, rfl⟩
            go_wp2_with fail
            refine (HT.out _).mono ?_
            rintro e w2 ⟨rfl, rfl⟩
            go_wp2_with fail
            refine (HF.out _ HM.out).mono ?_
            rintro e w3 ⟨rfl, hb⟩
            have HB3 := Lib.hid hb
            clear hb
            go_wp2_with fail
            go_ret
            rw [HCK.out]
            exact ⟨rfl, HB3.out⟩
      · rw [c3] at HB HCK
        have hq : ((k : Int) == 0) = decide (k = 0) := by
          rw [Bool.eq_iff_iff, beq_iff_eq, decide_eq_true_iff]
          omega
        by_cases c5 : k = 0
        · rw [decide_eq_true c5] at hq
          rw [if_pos rfl, if_pos c5] at HCK
          clear c1 c2 c3 c5
          go_enter Tryz.func66, Tryz.ntmps66
          go_wp2_with fail
          refine (HB.out _).mono ?_
          rintro e w1 ⟨rfl, rfl⟩
          go_wp2_with fail
          refine (HT.out _).mono ?_
          rintro e w2 ⟨rfl, rfl⟩
          go_wp2_with fail
          go_ret
          rw [HCK.out]
          exact ⟨rfl, Below.refl _ _⟩
        · rw [decide_eq_false c5] at hq
          rw [if_pos rfl, if_neg c5] at HCK
          clear c1 c2 c3 c5
          go_enter Tryz.func66, Tryz.ntmps66
          go_wp2_with fail
          refine (HB.out _).mono ?_
          rintro e w1 ⟨rfl, rfl⟩
          go_wp2_with fail
          refine (HT.out _).mono ?_
          rintro e w2 ⟨rfl, rfl⟩
          go_wp2_with fail
          go_ret
          rw [HCK.out]
          exact ⟨rfl, Below.refl _ _⟩
end Go.Proofs.YtegbkfloiiilfaaGreatDoor.Head

/-
  Lists of lists of texts in memory, built by the call; a walk: join.
-/
namespace Go.Proofs.YtegbkfloiiilfaaGreatDoor.Head
open Go Go.RowKit

abbrev gridT : TypeId := 94
theorem infoG : (Tryz.prog.info? strsT).map (fun i => (i.zero, i.size, i.bytes)) = some (some (.slice none 0 0), 1, 24) := by kernel_rfl
/-- A slice of slices of texts, all of them the call's own, no two in one block. -/
structure GridAt (B : Nat) (w : World) (ov : Value) (vs : List Value) (F : List (List ByteArray)) : Prop where
  len : vs.length = F.length
  outer : w.ownsRow B strsT 1 ov F.length vs
  inner : ∀ (i : Nat) (v : Value) (ls : List ByteArray), vs[i]? = some v → F[i]? = some ls → w.ownsRow B strT 1 v ls.length (ls.map Value.string)
  apart : ∀ (i : Nat) (v : Value) (g : Nat), vs[i]? = some v → v.ownBlock = some g → ov.ownBlock ≠ some g
  away : ∀ (i j : Nat) (u v : Value) (g : Nat), vs[i]? = some u → vs[j]? = some v → i ≠ j → u.ownBlock = some g → v.ownBlock ≠ some g
section
variable {B : Nat} {w w' : World} {ov : Value} {vs : List Value} {F : List (List ByteArray)}
theorem GridAt.start (B : Nat) (w : World) : GridAt B w (.slice none 0 0) [] [] :=
  ⟨rfl, World.ownsRow_nil _ _ _ _, fun i v ls h => by simp at h, fun i v g h => by simp at h, fun i j u v g h => by simp at h⟩
theorem GridAt.on (h : GridAt B w ov vs F) (hb : Below w.heap.size w w') : GridAt B w' ov vs F :=
  ⟨h.len, owns_below h.outer hb, fun i v ls h1 h2 => owns_below (h.inner i v ls h1 h2) hb, h.apart, h.away⟩
theorem own_lt {t : TypeId} {z n : Nat} {v : Value} {xs : List Value} (h : w.ownsRow B t z v n xs) {g : Nat} (hg : v.ownBlock = some g) : B ≤ g ∧ g < w.heap.size := h.lt g hg
theorem owns_new (w : World) (hB : B ≤ w.heap.size) (x : ByteArray) : (w.alloc (.cells #[.string x] strT)).ownsRow B strT 1 (.slice (some ⟨w.heap.size, 0, none⟩) 1 1) 1 [.string x] :=
  ⟨rfl, .inr ⟨w.heap.size, 1, #[.string x], rfl, hB, heap_alloc_new w _, Nat.le_refl _, by unfold maxLen; omega, rfl, rfl⟩⟩
theorem owns_grown {t : TypeId} {z n : Nat} {v : Value} {xs : List Value} {row : Option Nat} (h : w.ownsRow B t z v n xs) (hg : w.grownBy w' row) (hne : ∀ g, v.ownBlock = some g → row ≠ some g) : w'.ownsRow B t z v n xs :=
  Fr.owns (F := fun k => row = some k) h ((Fr.refl (fun k => row = some k) w).grown hg fun _k hk _ => hk) hne
theorem owns_put {t : TypeId} {z n : Nat} {v x : Value} {xs : List Value} {b i : Nat} (h : w.ownsRow B t z v n xs) (hne : v.ownBlock ≠ some b) : (w.setCell ⟨b, i, none⟩ x).ownsRow B t z v n xs :=
  Fr.owns (F := fun k => k = b) h (Fr.one w b i x) fun k hk e => hne (by rw [← e]; exact hk)
/-- A new list with one text, put behind. -/
theorem GridAt.push (h : GridAt B w ov vs F) (n : Nat) (hn : F.length = n) (x : ByteArray) (hl : n ≤ 1000000) (hB : B ≤ w.heap.size) :
    ∃ a c w', (Builtin.append_ #[gridT, gridT] gridT #[ov, .slice (some ⟨w.heap.size + 1, 0, none⟩) 1 1]).run Tryz.prog ((w.alloc (.cells #[.string x] strT)).alloc (.cells #[.slice (some ⟨w.heap.size, 0, none⟩) 1 1] strsT)) = .ok (.slice a (n + 1) c) w' ∧
      Hid (GridAt B w' (.slice a (n + 1) c) (vs ++ [.slice (some ⟨w.heap.size, 0, none⟩) 1 1]) (F ++ [[x]]) ∧ Below B w w') := by
  subst hn
  obtain ⟨i, hi, hz, hs, hb⟩ := info_parts infoG
  obtain ⟨W, hW⟩ : ∃ W, W = (w.alloc (.cells #[.string x] strT)).alloc (.cells #[.slice (some ⟨w.heap.size, 0, none⟩) 1 1] strsT) := ⟨_, rfl⟩
  have hWs : W.heap.size = w.heap.size + 2 := by rw [hW]; simp
  have hbl : Below B w W := by rw [hW]; exact ((Below.refl B w).alloc hB _).alloc (by simp; omega) _
  have hblw : Below w.heap.size w W := by rw [hW]; exact ((Below.refl _ w).alloc (Nat.le_refl _) _).alloc (by simp) _
  have ho := owns_below h.outer hblw
  have hx : W.ownsRow B strT 1 (.slice (some ⟨w.heap.size, 0, none⟩) 1 1) 1 [.string x] := by
    rw [hW]
    exact (owns_new w hB x).alloc _
  obtain ⟨v', w', hr, h2, h3, _, h5⟩ := run_append_own_at (P := Tryz.prog) W B gridT gridT strsT i (.slice none 0 0) 1 24 Tryz.underlying94 hi hz hs hb rfl (by decide) ov F.length vs ho ⟨w.heap.size + 1, 0, none⟩ 1 1 [.slice (some ⟨w.heap.size, 0, none⟩) 1 1] rfl (fun j u hu => by
    rw [addr_add, Nat.zero_add]
    match j, hu with
    | 0, hu =>
      obtain rfl : Value.slice (some ⟨w.heap.size, 0, none⟩) 1 1 = u := by simpa using hu
      rw [hW]
      have e0 := heap_alloc_new (w.alloc (.cells #[.string x] strT)) (.cells #[.slice (some ⟨w.heap.size, 0, none⟩) 1 1] strsT)
      have e1 : (w.alloc (.cells #[.string x] strT)).heap.size = w.heap.size + 1 := by simp
      rw [e1] at e0
      rw [cell_of_row _ _ _ _ _ _ e0]
      rfl
    | j + 1, hu => simp at hu) (by intro u hu; obtain rfl := List.mem_singleton.1 hu; rfl) (by unfold maxLen; omega) (by omega) (by omega)
  obtain ⟨a, c, rfl⟩ := owns_slice h2
  have hov : ∀ g, ov.ownBlock = some g → g < w.heap.size := fun g hg => (h.outer.lt g hg).2
  have hin : ∀ (i : Nat) (v : Value) (g : Nat), vs[i]? = some v → v.ownBlock = some g → g < w.heap.size := fun i v g h1 hg => by
    have hl := (List.getElem?_eq_some_iff.1 h1).1
    exact ((h.inner i v _ h1 (List.getElem?_eq_getElem (by rw [← h.len]; exact hl))).lt g hg).2
  have hnew : ∀ g, (Value.slice a (F.length + 1) c).ownBlock = some g → ov.ownBlock = some g ∨ g = w.heap.size + 2 := fun g hg => by
    rcases h5 with e | e
    · rw [e] at hg; exact .inl hg
    · rw [e, hWs] at hg
      exact .inr (Option.some.inj hg).symm
  refine ⟨a, c, w', by rw [← hW]; exact hr, Lib.hid ⟨⟨?_, ?_, ?_, ?_, ?_⟩, hbl.grown h3 (by omega) fun k hk => (ho.lt k hk).1⟩⟩
  · simp [h.len]
  · simpa using h2
  · intro i v ls h1 h6
    rw [List.getElem?_append] at h1 h6
    rw [h.len] at h1
    split at h1
    · rename_i hlt
      rw [if_pos hlt] at h6
      refine owns_grown (owns_below (h.inner i v ls h1 h6) hblw) h3 fun g hg e => ?_
      exact h.apart i v g h1 hg e
    · rename_i hlt
      rw [if_neg hlt] at h6
      obtain rfl : Value.slice (some ⟨w.heap.size, 0, none⟩) 1 1 = v := by
        exact (List.mem_singleton.1 (List.mem_of_getElem? h1)).symm
      obtain rfl : [x] = ls := by
        exact (List.mem_singleton.1 (List.mem_of_getElem? h6)).symm
      refine owns_grown hx h3 fun g hg e => ?_
      have e2 := hov g e
      have e3 : w.heap.size = g := by simpa [Value.ownBlock] using hg
      omega
  · intro i v g h1 hg e
    rw [List.getElem?_append] at h1
    rw [h.len] at h1
    rcases hnew g e with e1 | e1
    · split at h1
      · exact h.apart i v g h1 hg e1
      · obtain rfl : Value.slice (some ⟨w.heap.size, 0, none⟩) 1 1 = v := by
          exact (List.mem_singleton.1 (List.mem_of_getElem? h1)).symm
        have e2 := hov g e1
        have e3 : w.heap.size = g := by simpa [Value.ownBlock] using hg
        omega
    · split at h1
      · have := hin i v g h1 hg
        omega
      · obtain rfl : Value.slice (some ⟨w.heap.size, 0, none⟩) 1 1 = v := by
          exact (List.mem_singleton.1 (List.mem_of_getElem? h1)).symm
        have e3 : w.heap.size = g := by simpa [Value.ownBlock] using hg
        omega
  · intro i j u v g h1 h6 hij hu hv
    have hone : ∀ i v, (vs ++ [Value.slice (some ⟨w.heap.size, 0, none⟩) 1 1])[i]? = some v → (i < F.length ∧ vs[i]? = some v) ∨ (i = F.length ∧ v = .slice (some ⟨w.heap.size, 0, none⟩) 1 1) := fun i v h1 => by
      have hl := (List.getElem?_eq_some_iff.1 h1).1
      rw [List.length_append, h.len, List.length_singleton] at hl
      rw [List.getElem?_append, h.len] at h1
      split at h1
      · rename_i hlt; exact .inl ⟨hlt, h1⟩
      · rename_i hlt
        have := List.mem_of_getElem? h1
        exact .inr ⟨by omega, by simpa using this⟩
    rcases hone i u h1 with ⟨_, a1⟩ | ⟨a1, rfl⟩ <;> rcases hone j v h6 with ⟨_, b1⟩ | ⟨b1, rfl⟩
    · exact h.away i j u v g a1 b1 hij hu hv
    · have := hin i u g a1 hu
      have e3 : w.heap.size = g := by simpa [Value.ownBlock] using hv
      omega
    · have := hin j v g b1 hv
      have e3 : w.heap.size = g := by simpa [Value.ownBlock] using hu
      omega
    · omega
/-- A text put behind the last list's. -/
theorem GridAt.last {G : List (List ByteArray)} {us : List ByteArray} (h : GridAt B w ov vs (G ++ [us])) (x : ByteArray) (hl : us.length ≤ 1000000) (hB : B ≤ w.heap.size) (k : Nat) (hk : G.length = k) :
    ∃ b c v a d w', ov = .slice (some ⟨b, 0, none⟩) (k + 1) c ∧ B ≤ b ∧ w.cell? ⟨b, k, none⟩ = some v ∧ (∃ va vc, v = .slice va us.length vc) ∧
      (Builtin.append_ #[strsT, strsT] strsT #[v, .slice (some ⟨w.heap.size, 0, none⟩) 1 1]).run Tryz.prog (w.alloc (.cells #[.string x] strT)) = .ok (.slice a (us.length + 1) d) w' ∧
      w'.frozen? ⟨b, k, none⟩ = false ∧ w'.cell? ⟨b, k, none⟩ = some v ∧
      Hid (GridAt B (w'.setCell ⟨b, k, none⟩ (.slice a (us.length + 1) d)) ov (vs.set k (.slice a (us.length + 1) d)) (G ++ [us ++ [x]]) ∧ Below B w (w'.setCell ⟨b, k, none⟩ (.slice a (us.length + 1) d))) := by
  subst hk
  have hlen : vs.length = G.length + 1 := by rw [h.len]; simp
  obtain ⟨v, hv⟩ : ∃ v, vs[G.length]? = some v := ⟨vs[G.length]'(by omega), List.getElem?_eq_getElem _⟩
  have hin := h.inner G.length v us hv (by simp)
  obtain ⟨b, c, rfl⟩ : ∃ b c, ov = .slice (some ⟨b, 0, none⟩) (G.length + 1) c := by
    rcases h.outer.2 with ⟨_, h2⟩ | ⟨g, cap, cur, rfl, _⟩
    · simp at h2
    · exact ⟨g, cap, by simp⟩
  have hBb := h.outer.lt b rfl
  have hcell : w.cell? ⟨b, G.length, none⟩ = some v := by
    have := h.outer.cells (g := b) rfl G.length v hv
    rw [addr_add, Nat.zero_add] at this
    exact this
  obtain ⟨a, d, w', hr, hh⟩ := append_str w B v us x hin (by omega) hB
  obtain ⟨h1, h2, h3, h4⟩ := hh.out
  have hal : Below w.heap.size w (w.alloc (.cells #[.string x] strT)) := (Below.refl _ w).alloc (Nat.le_refl _) _
  have hvb : v.ownBlock ≠ some b := fun e => h.apart G.length v b hv e rfl
  have ho1 : w'.ownsRow B strsT 1 (.slice (some ⟨b, 0, none⟩) (G ++ [us]).length c) (G ++ [us]).length vs := by
    have := h.outer
    simp only [List.length_append, List.length_singleton] at this ⊢
    exact owns_grown (owns_below this hal) h3 fun g hg e => by
      have e2 : b = g := by simpa [Value.ownBlock] using hg
      rw [← e2] at e
      exact hvb e
  have hfro : w'.frozen? ⟨b, G.length, none⟩ = false := by
    rcases ho1.2 with ⟨h5, _⟩ | ⟨g, cap, cur, h5, _, h6, _⟩
    · cases h5
    · obtain ⟨e1, _, _⟩ := Value.slice.inj h5
      have e2 : b = g := by simpa using e1
      subst e2
      exact frozen_of_row w' b G.length cur _ h6
  have hcell1 : w'.cell? ⟨b, G.length, none⟩ = some v := by
    have := ho1.cells (g := b) rfl G.length v hv
    rw [addr_add, Nat.zero_add] at this
    exact this
  have hset := owns_set ho1 (g := b) rfl G.length (.slice a (us.length + 1) d) (by simp)
  have hnb : ∀ g, (Value.slice a (us.length + 1) d).ownBlock = some g → v.ownBlock = some g ∨ w.heap.size ≤ g := h4
  have hnewb : (Value.slice a (us.length + 1) d).ownBlock ≠ some b := fun e => by
    rcases hnb b e with e1 | e1
    · exact hvb e1
    · omega
  have hold : ∀ (i : Nat) (u : Value) (g : Nat), vs[i]? = some u → u.ownBlock = some g → g < w.heap.size := fun i u g h5 hg => by
    have hl2 := (List.getElem?_eq_some_iff.1 h5).1
    exact ((h.inner i u _ h5 (List.getElem?_eq_getElem (by rw [← h.len]; exact hl2))).lt g hg).2
  refine ⟨b, c, v, a, d, w', rfl, hBb.1, hcell, owns_slice hin, hr, hfro, hcell1, Lib.hid ⟨⟨?_, ?_, ?_, ?_, ?_⟩, h2.setCell (p := ⟨b, G.length, none⟩) hBb.1 _⟩⟩
  · rw [List.length_set, hlen]; simp
  · simp only [List.length_append, List.length_singleton] at hset ⊢
    exact hset
  · intro i u ls h5 h6
    rw [List.getElem?_set] at h5
    rw [List.getElem?_append] at h6
    split at h5
    · rename_i e
      subst e
      rw [if_neg (by omega)] at h6
      split at h5
      · obtain rfl := Option.some.inj h5
        obtain rfl : us ++ [x] = ls := by
          exact (List.mem_singleton.1 (List.mem_of_getElem? h6)).symm
        have := owns_put (i := G.length) (x := .slice a (us.length + 1) d) h1 hnewb
        simpa using this
      · cases h5
    · rename_i e
      have hi : i < G.length := by
        have := (List.getElem?_eq_some_iff.1 h5).1
        omega
      rw [if_pos hi] at h6
      have ho := h.inner i u ls h5 (by rw [List.getElem?_append_left hi]; exact h6)
      have h7 := owns_grown (owns_below ho hal) h3 fun g hg e2 => h.away i G.length u v g h5 hv (by omega) hg e2
      exact owns_put h7 fun e2 => h.apart i u b h5 e2 rfl
  · intro i u g h5 hg e
    have e2 : b = g := by simpa [Value.ownBlock] using e
    subst e2
    rw [List.getElem?_set] at h5
    split at h5
    · split at h5
      · obtain rfl := Option.some.inj h5
        exact hnewb hg
      · cases h5
    · exact h.apart i u b h5 hg rfl
  · intro i j u u' g h5 h6 hij hu hu'
    rw [List.getElem?_set] at h5 h6
    split at h5
    · rename_i e1
      split at h5
      · obtain rfl := Option.some.inj h5
        rw [if_neg (by omega)] at h6
        rcases hnb g hu with e | e
        · exact h.away G.length j v u' g hv h6 (by omega) e hu'
        · have := hold j u' g h6 hu'
          omega
      · cases h5
    · split at h6
      · split at h6
        · obtain rfl := Option.some.inj h6
          rename_i e1 e2 e3
          rcases hnb g hu' with e | e
          · exact h.away i G.length u v g h5 hv (by omega) hu e
          · have := hold i u g h5 hu
            omega
        · cases h6
      · exact h.away i j u u' g h5 h6 hij hu hu'
/-- The value reads as these lists of texts. -/
def ReadsG (w : World) (ov : Value) (F : List (List ByteArray)) : Prop :=
  (∃ a cap, ov = .slice a 0 cap ∧ F = []) ∨
  (∃ b cap, ov = .slice (some ⟨b, 0, none⟩) F.length cap ∧ b < w.heap.size ∧ ∀ i ls, F[i]? = some ls → ∃ v, w.cell? ⟨b, i, none⟩ = some v ∧ ReadsS w v ls)
theorem ReadsG.below (h : ReadsG w ov F) (hb : Below w.heap.size w w') : ReadsG w' ov F := by
  rcases h with h | ⟨b, cap, rfl, h1, h2⟩
  · exact .inl h
  · refine .inr ⟨b, cap, rfl, by have := hb.size; omega, fun i ls hi => ?_⟩
    obtain ⟨v, h3, h4⟩ := h2 i ls hi
    exact ⟨v, by rw [hb.cell (p := ⟨b, i, none⟩) h1]; exact h3, h4.below hb⟩
theorem GridAt.reads (h : GridAt B w ov vs F) : ReadsG w ov F := by
  rcases h.outer.2 with ⟨rfl, h2⟩ | ⟨g, cap, cur, rfl, _, h3, _⟩
  · exact .inl ⟨_, _, rfl, List.length_eq_zero_iff.1 h2⟩
  · refine .inr ⟨g, cap, rfl, (h.outer.lt g rfl).2, fun i ls hi => ?_⟩
    have hl := (List.getElem?_eq_some_iff.1 hi).1
    have hv : vs[i]? = some (vs[i]'(by rw [h.len]; exact hl)) := List.getElem?_eq_getElem _
    refine ⟨_, ?_, owns_readsS (h.inner i _ ls hv hi)⟩
    have := h.outer.cells (g := g) rfl i _ hv
    rw [addr_add, Nat.zero_add] at this
    exact this
end
end Go.Proofs.YtegbkfloiiilfaaGreatDoor.Head

/-
  Walks: pieces, Show.
-/
namespace Go.Proofs.YtegbkfloiiilfaaGreatDoor.Head
open Go Go.RowKit
open Go.Proofs.YtegbkfloiiilfaaGreatDoor.Lex (wstr wend BuiltAt)

theorem TxAt.add {w W : World} {n c : Nat} {a : Option Addr} {ws : List ByteArray} (h : TxAt w W (.slice a n c) ws) (hn : ws.length = n) (x : ByteArray) (hl : n ≤ 2000000) :
    ∃ a' c' w', (Builtin.append_ #[strsT, strsT] strsT #[.slice a n c, .slice (some ⟨W.heap.size, 0, none⟩) 1 1]).run Tryz.prog (W.alloc (.cells #[.string x] strT)) = .ok (.slice a' (n + 1) c') w' ∧ Hid (TxAt w w' (.slice a' (n + 1) c') (ws ++ [x])) := by
  have ho := h.1
  obtain ⟨a', c', w', hr, hh⟩ := append_str W w.heap.size (.slice a n c) ws x (by rw [hn]; rw [hn] at ho; exact ho) (by omega) h.2.size
  rw [hn] at hr hh
  refine ⟨a', c', w', hr, Lib.hid ⟨?_, h.2.trans hh.out.2.1⟩⟩
  rw [List.length_append, hn]
  exact hh.out.1
theorem pcs_count : ∀ (t w : List UInt8) (b : Bool), (pcs w b t).length ≤ t.length + 1
  | [], w, b => by simp [pcs]
  | c :: t, w, b => by
    rw [pcs]
    split
    · have := pcs_count t [c] true
      simp only [List.length_cons]
      omega
    · have := pcs_count t (w ++ [c]) (bk c)
      simp only [List.length_cons]
      omega
/-- The pieces so far, and the one at hand. -/
structure PcAt (x : ByteArray) (P : List (List UInt8)) (w wr : World) (ov : Value) (D : List ByteArray) (st i : Nat) : Prop where
  eq : ∃ h : i - 1 < x.size, D.map bl ++ pcs (bl (x.extract st i)) (bk (x[i - 1]'h)) ((bl x).drop i) = P
  le : st ≤ i
  few : D.length ≤ i
  own : TxAt w wr ov D
theorem ext_snoc (x : ByteArray) (st i : Nat) (hs : st ≤ i) (hi : i < x.size) : bl (x.extract st (i + 1)) = bl (x.extract st i) ++ [x[i]] := by
  rw [bl_extract, bl_extract, show i + 1 - st = (i - st) + 1 by omega, List.take_add_one, List.getElem?_drop, show st + (i - st) = i by omega]
  rw [List.getElem?_eq_getElem (by rw [bl_len]; exact hi)]
  rfl
theorem ext_one (x : ByteArray) (i : Nat) (hi : i < x.size) : bl (x.extract i (i + 1)) = [x[i]] := by
  rw [ext_snoc x i i (Nat.le_refl _) hi]
  rw [bl_extract]
  simp
set_option maxRecDepth 100000 in
set_option maxHeartbeats 2000000 in
theorem pieces_any (s : ByteArray) (w : World) (hs : s.size ≤ 1000000) :
    Calls Tryz.prog 94 #[.string s] w fun e w' => ∃ v, e = .returned v ∧ TxAt w w' v ((piecesL (bl s)).map ba) := by
  have hq := empty_any s
  by_cases h0 : bl s = []
  · rw [h0] at hq ⊢
    rw [show ([] : List UInt8).isEmpty = true from rfl] at hq
    go_enter Tryz.func94, Tryz.ntmps94
    go_wp2_with fail
    go_ret
    exact ⟨_, rfl, TxAt.start w⟩
  · have hte : (bl s).isEmpty = false := by
      cases h : bl s with
      | nil => exact absurd h h0
      | cons c1 t1 => rfl
    rw [hte] at hq
    obtain ⟨P, hP⟩ : ∃ P, P = pcs [32] true (bl s) := ⟨_, rfl⟩
    have hpl : piecesL (bl s) = P := by unfold piecesL; rw [if_neg h0, hP]
    rw [hpl]
    obtain ⟨x, hx⟩ : ∃ x : ByteArray, x = (⟨#[32]⟩ : ByteArray) ++ s := ⟨_, rfl⟩
    have hbx : bl x = 32 :: bl s := by
      rw [hx]
      show ((⟨#[32]⟩ : ByteArray) ++ s).data.toList = _
      rw [ByteArray.data_append]
      simp
    have hxs : x.size = s.size + 1 := by rw [← bl_len, hbx, List.length_cons, bl_len]
    have HX := Lib.hid hx
    have HI : Hid (PcAt x P w w (.slice none 0 0) [] 0 1) := Lib.hid ⟨⟨by omega, by
        have h1 : bl (x.extract 0 1) = [32] := by rw [bl_extract, hbx]; rfl
        have h2 : x[1 - 1]'(by omega) = 32 := by
          have : (bl x)[0]? = some 32 := by rw [hbx]; rfl
          rw [List.getElem?_eq_getElem (by rw [bl_len]; omega)] at this
          exact Option.some.inj this
        rw [h1, h2, hbx, hP]
        rfl⟩, by omega, by simp, TxAt.start w⟩
    clear hte hpl h0 hP hbx hx
    go_enter Tryz.func94, Tryz.ntmps94
    go_wp2_with fail
    rw [← HX.out]
    have hxz : x.size ≤ 1000001 := by omega
    clear hxs hs hq HX
    go_loopw [4, 5, 6] (fun ov st i wr => ∃ (D : List ByteArray) (a k : Nat), 1 ≤ k ∧ k ≤ x.size ∧ a ≤ k ∧ st = .int .i64 a ∧ i = .int .i64 k ∧ Hid (PcAt x P w wr ov D a k)) (fun _ _ i _ => x.size - (intOf i).toNat)
    case atStart => exact ⟨[], 0, 1, by omega, by obtain ⟨h, _⟩ := HI.out.eq; omega, by omega, rfl, rfl, HI⟩
    case round =>
      clear HI
      obtain ⟨D, a, k, hk1, hk, hak, rfl, rfl, hI⟩ := hrel
      obtain ⟨oa, oc, rfl⟩ := owns_slice hI.out.own.1
      obtain ⟨m, hm⟩ : ∃ m, m = D.length := ⟨_, rfl⟩
      have hmk : m ≤ k := by rw [hm]; exact hI.out.few
      rw [← hm]
      have HMM := Lib.hid hm
      clear hm
      by_cases hlt : k < x.size
      · have hpr : k - 1 < x.size := by omega
        have hsub : (k : Int) - 1 = ((k - 1 : Nat) : Int) := by omega
        obtain ⟨_, heq⟩ := hI.out.eq
        rw [drop_cons x k hlt, pcs] at heq
        have HB1 := Lib.hid (fun W => blank_any x[k] W)
        have HB2 := Lib.hid (fun W => blank_any (x[k - 1]'hpr) W)
        cases b1 : bk x[k]
        · rw [b1, if_neg (by rintro ⟨h, _⟩; cases h)] at heq
          rw [b1] at HB1
          have HN : Hid (PcAt x P w wr (.slice oa m oc) D a (k + 1)) := Lib.hid ⟨⟨by omega, by
            rw [ext_snoc x a k hak hlt]
            simp only [Nat.add_sub_cancel]
            rw [b1]
            exact heq⟩, by omega, by have := hI.out.few; omega, by have := hI.out.own; rw [← HMM.out] at this; exact this⟩
          clear heq b1
          go_wp2_with fail
          refine (HB1.out _).mono ?_
          rintro e w1 ⟨rfl, rfl⟩
          go_wp2_with fail
          go_roundw
          case rel => exact ⟨D, a, k + 1, by omega, by omega, by omega, rfl, by simp, HN⟩
          case measure => simp [intOf]; omega
        · rw [b1] at HB1
          cases b2 : bk (x[k - 1]'hpr)
          · rw [b2] at HB2
            rw [b1, b2, if_pos ⟨rfl, rfl⟩] at heq
            have hown := hI.out.own
            rw [← HMM.out] at hown
            obtain ⟨a', c', w4, hr, hh⟩ := hown.add HMM.out.symm (x.extract a k) (by omega)
            have HR := Lib.hid hr
            have HN : Hid (PcAt x P w w4 (.slice a' (m + 1) c') (D ++ [x.extract a k]) k (k + 1)) := Lib.hid ⟨⟨by omega, by
              rw [ext_one x k hlt]
              simp only [Nat.add_sub_cancel]
              rw [b1, List.map_append, List.append_assoc]
              exact heq⟩, by omega, by rw [List.length_append]; have := hI.out.few; simp; omega, hh.out⟩
            clear heq b1 b2 hr hh hown
            go_wp2_with fail
            refine (HB1.out _).mono ?_
            rintro e w1 ⟨rfl, rfl⟩
            go_wp2_with fail
            refine (HB2.out _).mono ?_
            rintro e w1 ⟨rfl, rfl⟩
            go_wp2_with (at_builtin; refine Lib.wpList_append_run _ rfl _ _ _ _ rfl _ _ rfl rfl _ _ HR.out ?_)
            go_roundw
            case rel => exact ⟨_, k, k + 1, by omega, by omega, by omega, rfl, by simp, HN⟩
            case measure => simp [intOf]; omega
          · rw [b2] at HB2
            rw [b1, b2, if_neg (by rintro ⟨_, h⟩; cases h)] at heq
            have HN : Hid (PcAt x P w wr (.slice oa m oc) D a (k + 1)) := Lib.hid ⟨⟨by omega, by
              rw [ext_snoc x a k hak hlt]
              simp only [Nat.add_sub_cancel]
              rw [b1]
              exact heq⟩, by omega, by have := hI.out.few; omega, by have := hI.out.own; rw [← HMM.out] at this; exact this⟩
            clear heq b1 b2
            go_wp2_with fail
            refine (HB1.out _).mono ?_
            rintro e w1 ⟨rfl, rfl⟩
            go_wp2_with fail
            refine (HB2.out _).mono ?_
            rintro e w1 ⟨rfl, rfl⟩
            go_wp2_with fail
            go_roundw
            case rel => exact ⟨D, a, k + 1, by omega, by omega, by omega, rfl, by simp, HN⟩
            case measure => simp [intOf]; omega
      · have hkx : k = x.size := by omega
        obtain ⟨_, heq⟩ := hI.out.eq
        rw [drop_end x k hlt, pcs] at heq
        have hown := hI.out.own
        rw [← HMM.out] at hown
        obtain ⟨a', c', w4, hr, hh⟩ := hown.add HMM.out.symm (x.extract a x.size) (by omega)
        have HR := Lib.hid hr
        have HN : Hid (TxAt w w4 (.slice a' (m + 1) c') (P.map ba)) := Lib.hid (by
          have e : P.map ba = D ++ [x.extract a x.size] := by
            rw [← heq, List.map_append, List.map_map, hkx]
            rw [show (ba ∘ bl) = id from funext fun y => ba_bl y]
            simp
          rw [e]
          exact hh.out)
        clear heq hr hh hown hkx
        go_wp2_with (at_builtin; refine Lib.wpList_append_run _ rfl _ _ _ _ rfl _ _ rfl rfl _ _ HR.out ?_)
        go_ret
        exact ⟨_, rfl, HN.out⟩
end Go.Proofs.YtegbkfloiiilfaaGreatDoor.Head

/-
  Walks: Show, Print.
-/
namespace Go.Proofs.YtegbkfloiiilfaaGreatDoor.Head
open Go Go.RowKit
open Go.Proofs.YtegbkfloiiilfaaGreatDoor.Lex (wstr wend BuiltAt bstrK_any byteCells_len strCells_ba)

theorem shw_len : ∀ (ps : List (List UInt8)) (b : Bool) (k : Nat), (shw b k ps).length ≤ 2 + 2 * ps.length + ps.flatten.length
  | [], b, k => by simp [shw]
  | p :: ps, b, k => by
    rw [shw]
    have h1 := shw_len ps false p.length
    have h2 := shw_len ps false (k + p.length)
    simp only [List.length_cons, List.flatten_cons, List.length_append]
    split
    · simp only [List.length_cons, List.length_append]; omega
    · simp only [List.length_append]; omega
theorem pieces_len (v : List UInt8) : (piecesL v).length ≤ v.length + 1 ∧ (piecesL v).flatten.length ≤ v.length + 1 := by
  refine ⟨?_, ?_⟩
  · unfold piecesL
    split
    · simp
    · exact pcs_count v _ _
  · rw [pieces_flat]
    split <;> simp
theorem showL_len (n v : List UInt8) : (showL n v).length ≤ n.length + 3 * v.length + 10 := by
  unfold showL
  have h1 := shw_len (piecesL v) true (n.length + 1)
  have h2 := pieces_len v
  simp only [List.length_append, List.length_cons]
  omega
/-- What has been written, and what the rest adds; how long the line is. -/
structure ShAt (f : Fd) (W wr : World) (ps : List (List UInt8)) (acc : List UInt8) (z k : Nat) : Prop where
  built : BuiltAt W wr acc
  eq : acc ++ shw (decide (k = 0)) z (ps.drop k) = showL (bl f.n) (bl f.v)
  size : z + (ps.drop k).flatten.length ≤ f.n.size + f.v.size + 2
theorem drop_get (ps : List (List UInt8)) (k : Nat) (p : List UInt8) (h : ps[k]? = some p) : ps.drop k = p :: ps.drop (k + 1) := by
  obtain ⟨h1, h2⟩ := List.getElem?_eq_some_iff.1 h
  rw [List.drop_eq_getElem_cons h1, h2]
theorem ShAt.fold {f : Fd} {W wr wr' : World} {ps : List (List UInt8)} {acc : List UInt8} {z k : Nat} {p : List UInt8} (h : ShAt f W wr ps acc z k) (hp : ps[k]? = some p) (hk : 0 < k) (hz : 78 < z + p.length) (hb : BuiltAt W wr' (acc ++ [13, 10] ++ p)) : ShAt f W wr' ps (acc ++ [13, 10] ++ p) p.length (k + 1) := by
  refine ⟨hb, ?_, ?_⟩
  · rw [← h.eq, drop_get ps k p hp, shw, if_pos ⟨decide_eq_false (by omega), hz⟩, show decide (k + 1 = 0) = false from rfl]
    simp
  · have := h.size
    rw [drop_get ps k p hp] at this
    simp only [List.flatten_cons, List.length_append] at this
    omega
theorem ShAt.plain {f : Fd} {W wr wr' : World} {ps : List (List UInt8)} {acc : List UInt8} {z k : Nat} {p : List UInt8} (h : ShAt f W wr ps acc z k) (hp : ps[k]? = some p) (hz : ¬ (0 < k ∧ 78 < z + p.length)) (hb : BuiltAt W wr' (acc ++ p)) : ShAt f W wr' ps (acc ++ p) (z + p.length) (k + 1) := by
  refine ⟨hb, ?_, ?_⟩
  · rw [← h.eq, drop_get ps k p hp, shw, if_neg (by
      rintro ⟨h1, h2⟩
      have : ¬ k = 0 := of_decide_eq_false h1
      exact hz ⟨by omega, h2⟩), show decide (k + 1 = 0) = false from rfl]
    simp
  · have := h.size
    rw [drop_get ps k p hp] at this
    simp only [List.flatten_cons, List.length_append] at this
    omega
theorem ShAt.len {f : Fd} {W wr : World} {ps : List (List UInt8)} {acc : List UInt8} {z k : Nat} (h : ShAt f W wr ps acc z k) (hn : f.n.size ≤ 1000000) (hv : f.v.size ≤ 1000000) : acc.length ≤ 100000000 := by
  have h1 := congrArg List.length h.eq
  have h2 := showL_len (bl f.n) (bl f.v)
  rw [List.length_append] at h1
  rw [bl_len, bl_len] at h2
  omega
theorem wstrK (w wr : World) (acc : List UInt8) (s : ByteArray) (h : BuiltAt w wr acc) (hl : acc.length ≤ 1000000000) (hs : s.size ≤ 1000000000) :
    Calls Tryz.prog 73 #[.pointer (some ⟨w.heap.size, 0, none⟩), .string s] wr fun e w' => e = .returned (.tuple #[.int .i64 s.size, .nilIface]) ∧ BuiltAt w w' (acc ++ bl s) ∧ Lib.OthersKept 5 (some w.heap.size) wr w' := by
  refine (bstrK_any w.heap.size w.heap.size _ s wr h.1 (by rw [byteCells_len]; omega) h.2.size).mono ?_
  rintro e w' ⟨rfl, h1, h2, h3⟩
  refine ⟨rfl, ⟨.inr ?_, h.2.trans h2⟩, h3⟩
  rw [Lib.byteCells_append, ← strCells_ba (bl s), show Lex.ba (bl s) = s from ba_bl s]
  exact h1
/-- The texts of a list in memory, whatever is written beside. -/
def TextsAt (w2 : World) (b : Nat) (va : Option Addr) (ps : List (List UInt8)) : Prop :=
  ∀ (k : Nat) (p : List UInt8), ps[k]? = some p → ∃ g, va = some ⟨g, 0, none⟩ ∧ g ≠ b ∧ ∃ cur fz, w2.heap[g]? = some (.cells cur strT fz) ∧ cur[k]? = some (.string (ba p))
theorem TextsAt.cell {w2 wr : World} {b : Nat} {va : Option Addr} {ps : List (List UInt8)} (h : TextsAt w2 b va ps) (hk : Lib.OthersKept 5 (some b) w2 wr) {k : Nat} {p : List UInt8} (hp : ps[k]? = some p) : ∃ g, va = some ⟨g, 0, none⟩ ∧ wr.cell? ⟨g, k, none⟩ = some (.string (ba p)) := by
  obtain ⟨g, h1, h2, cur, fz, h3, h4⟩ := h k p hp
  refine ⟨g, h1, ?_⟩
  have := hk g _ h3 (fun e => h2 (Option.some.inj e)) (fun c f e => by
    have e2 := (Obj.cells.inj e).2.1
    exact absurd e2 (by decide))
  rw [cell_of_row wr g k cur _ fz this]
  exact h4
theorem texts_of {w1 w2 : World} {b n c : Nat} {va : Option Addr} {ps : List (List UInt8)} (h : TxAt w1 w2 (.slice va n c) (ps.map ba)) (hb : b < w1.heap.size) : TextsAt w2 b va ps := by
  intro k p hp
  rcases h.1.2 with ⟨_, h2⟩ | ⟨g, cap, cur, h3, h4, h5, _, _, _, h6⟩
  · have := (List.getElem?_eq_some_iff.1 hp).1
    rw [List.length_map] at h2
    omega
  · obtain ⟨rfl, _, _⟩ := Value.slice.inj h3
    refine ⟨g, rfl, by omega, cur, _, h5, ?_⟩
    have hl := (List.getElem?_eq_some_iff.1 hp).1
    have : (cur.toList.take ((ps.map ba).length * 1))[k]? = ((ps.map ba).map Value.string)[k]? := by rw [h6]
    rw [List.getElem?_take, if_pos (by rw [List.length_map]; omega)] at this
    rw [List.getElem?_map, List.getElem?_map, hp] at this
    simpa using this
set_option maxRecDepth 100000 in
set_option maxHeartbeats 4000000 in
theorem show_any (f : Fd) (w : World) (hn : f.n.size ≤ 1000000) (hv : f.v.size ≤ 1000000) :
    Calls Tryz.prog 63 #[fdV f] w fun e w' => e = .returned (.string (ba (showL (bl f.n) (bl f.v)))) ∧ Below w.heap.size w w' := by
  obtain ⟨W, hW⟩ : ∃ W, W = w.alloc (boxF fdT f) := ⟨_, rfl⟩
  have hWs : W.heap.size = w.heap.size + 1 := by rw [hW]; simp
  have HA : Hid (Below w.heap.size w W) := Lib.hid (by rw [hW]; exact (Below.refl _ _).alloc (Nat.le_refl _) _)
  obtain ⟨q0, q1⟩ := two (new_boxF w fdT f)
  rw [← hW] at q0 q1
  have HQ := Lib.hid (And.intro q0 q1)
  have HBS := Lib.hid (BuiltAt.start W)
  have HCE : Hid (∀ wr, Below W.heap.size W wr → wr.cell? ⟨w.heap.size, 0, none⟩ = some (.string f.n) ∧ wr.cell? ⟨w.heap.size, 0 + 1, none⟩ = some (.string f.v)) := Lib.hid (fun wr hb => by
    rw [hb.cell (p := ⟨w.heap.size, 0, none⟩) (by show w.heap.size < _; omega), hb.cell (p := ⟨w.heap.size, 0 + 1, none⟩) (by show w.heap.size < _; omega)]
    exact HQ.out)
  obtain ⟨B0, hB0⟩ : ∃ B0, B0 = W.alloc (.cells #[.pointer none, .slice none 0 0] 103) := ⟨_, rfl⟩
  rw [← hB0] at HBS
  obtain ⟨c0, c1⟩ := HCE.out B0 HBS.out.2
  have hcol : (f.n ++ (⟨#[58]⟩ : ByteArray)).size ≤ 1000001 := by
    rw [ByteArray.size_append]
    show f.n.size + 1 ≤ _
    omega
  have HW1 := Lib.hid (wstr W B0 [] (f.n ++ ⟨#[58]⟩) HBS.out (by simp) (by omega))
  have HPC := Lib.hid (fun W' => pieces_any f.v W' hv)
  have e1 : w.alloc (.cells #[.string f.n, .string f.v] fdT) = W := hW.symm
  have e2 : W.alloc (.cells #[.pointer none, .slice none 0 0] 103) = B0 := hB0.symm
  have HZ := Lib.hid hWs
  rw [hWs] at HW1
  clear q0 q1 hW hB0
  go_enter Tryz.func63, Tryz.ntmps63
  go_wp2_with fail
  refine HW1.out.mono ?_
  rintro e w1 ⟨rfl, hb1⟩
  clear c0 c1 e1 e2 hWs
  have HB1 := Lib.hid hb1
  obtain ⟨c0, c1⟩ := HCE.out w1 hb1.2
  clear hb1
  go_wp2_with fail
  refine (HPC.out _).mono ?_
  rintro e w2 ⟨v, rfl, hv2⟩
  obtain ⟨ps, hps⟩ : ∃ ps, ps = piecesL (bl f.v) := ⟨_, rfl⟩
  rw [← hps] at hv2
  obtain ⟨n, hn2⟩ : ∃ n, n = ps.length := ⟨_, rfl⟩
  obtain ⟨va, vc, rfl⟩ : ∃ a c, v = .slice a n c := by
    have := hv2.1
    rw [List.length_map, ← hn2] at this
    exact owns_slice this
  have HPQ := Lib.hid (And.intro hps hn2)
  have HT : Hid (TextsAt w2 W.heap.size va ps) := Lib.hid (texts_of hv2 HB1.out.lt)
  have HS : Hid (ShAt f W w2 ps (bl (f.n ++ ⟨#[58]⟩)) (f.n.size + 1) 0) := Lib.hid ⟨by
      have h := HB1.out.kept hv2.2
      rw [List.nil_append] at h
      exact h, by
      rw [List.drop_zero, hps]
      unfold showL
      rw [show bl (f.n ++ (⟨#[58]⟩ : ByteArray)) = bl f.n ++ [58] by
        show (f.n ++ (⟨#[58]⟩ : ByteArray)).data.toList = _
        rw [ByteArray.data_append]
        simp, bl_len]
      simp, by
      rw [List.drop_zero, hps]
      have := (pieces_len (bl f.v)).2
      rw [bl_len] at this
      omega⟩
  have HWK := Lib.hid (fun (wr : World) (acc : List UInt8) (x : ByteArray) (h : BuiltAt W wr acc) (hl : acc.length ≤ 200000000) (hx : x.size ≤ 10000000) => wstrK W wr acc x h (by omega) (by omega))
  have HEN := Lib.hid (fun (wr : World) (acc : List UInt8) (h : BuiltAt W wr acc) => wend W wr acc h)
  rw [HZ.out] at HWK HEN HT
  have hnb : n ≤ 1000001 := by
    have := (pieces_len (bl f.v)).1
    rw [bl_len, ← HPQ.out.1] at this
    have := HPQ.out.2
    omega
  have hfn : f.n.size + 1 ≤ 3000000 := by omega
  clear hv2 hps hn2 hcol c0 c1
  go_wp2_with fail
  go_loopw [4, 19] (fun sz i wr => ∃ (k z : Nat) (acc : List UInt8), k ≤ n ∧ i = .int .i64 k ∧ sz = .int .i64 z ∧ z ≤ 3000000 ∧ Hid (ShAt f W wr ps acc z k ∧ Lib.OthersKept 5 (some (w.heap.size + 1)) w2 wr)) (fun _ i _ => n - (intOf i).toNat)
  case atStart => exact ⟨0, f.n.size + 1, _, Nat.zero_le _, rfl, by simp, hfn, Lib.hid ⟨HS.out, Lib.OthersKept.refl _ _ _⟩⟩
  case round =>
    clear HS hfn
    obtain ⟨k, z, acc, hk, rfl, rfl, hz, hI⟩ := hrel
    have hal := hI.out.1.len hn hv
    by_cases hlt : k < n
    · obtain ⟨p, hp⟩ : ∃ p, ps[k]? = some p := ⟨ps[k]'(by have := HPQ.out.2; omega), List.getElem?_eq_getElem _⟩
      obtain ⟨g, rfl, hcell⟩ := HT.out.cell hI.out.2 hp
      have hpz : (ba p).size + z ≤ 2000002 := by
        have := hI.out.1.size
        rw [drop_get ps k p hp] at this
        simp only [List.flatten_cons, List.length_append] at this
        rw [ba_size]
        omega
      have HP := Lib.hid hp
      have hps2 : (ba p).size = p.length := ba_size p
      have hpl : ∀ a : List UInt8, a ++ bl (ba p) = a ++ p := fun a => by rw [bl_ba]
      have HPL := Lib.hid (And.intro hps2 hpl)
      generalize ba p = pb at *
      clear hp hps2 hpl
      have HW0 : Hid (∀ (wr : World) (h : BuiltAt W wr acc), Calls Tryz.prog 73 #[.pointer (some ⟨w.heap.size + 1, 0, none⟩), .string ⟨#[13, 10]⟩] wr fun e w' => e = .returned (.tuple #[.int .i64 2, .nilIface]) ∧ BuiltAt W w' (acc ++ [13, 10]) ∧ Lib.OthersKept 5 (some (w.heap.size + 1)) wr w') := Lib.hid (fun wr h => by
        have := HWK.out wr acc ⟨#[13, 10]⟩ h (by omega) (by decide)
        exact this)
      have HWP := Lib.hid (fun (wr : World) (a : List UInt8) (h : BuiltAt W wr a) (hl : a.length ≤ 200000000) => HWK.out wr a pb h hl (by omega))
      by_cases hk0 : 0 < k
      · have d0 : (0 : Int) < (k : Int) := by omega
        by_cases h78 : 78 < z + pb.size
        · have d1 : (78 : Int) < (z : Int) + (pb.size : Int) := by omega
          have hpz2 : pb.size ≤ 3000000 := by omega
          have hal2 : (acc ++ [13, 10]).length ≤ 200000000 := by
            rw [List.length_append]
            simp only [List.length_cons, List.length_nil]
            omega
          have HL2 := Lib.hid hal2
          clear hal2
          go_wp2_with fail
          refine (HW0.out _ hI.out.1.built).mono ?_
          rintro e w3 ⟨rfl, hb3, hk3⟩
          have HB3 := Lib.hid (And.intro hb3 (hI.out.2.trans hk3))
          clear hb3 hk3
          go_wp2_with fail
          refine (HWP.out _ _ HB3.out.1 HL2.out).mono ?_
          rintro e w4 ⟨rfl, hb4, hk4⟩
          have HN : Hid (ShAt f W w4 ps (acc ++ [13, 10] ++ p) pb.size (k + 1) ∧ Lib.OthersKept 5 (some (w.heap.size + 1)) w2 w4) := Lib.hid ⟨by
            rw [HPL.out.1]
            refine hI.out.1.fold HP.out hk0 (by rw [← HPL.out.1]; exact h78) ?_
            rw [← HPL.out.2]
            exact hb4, HB3.out.2.trans hk4⟩
          clear hb4 hk4
          go_wp2_with fail
          go_roundw
          case rel => exact ⟨k + 1, pb.size, _, by omega, by simp, by simp, hpz2, HN⟩
          case measure => simp [intOf]; omega
        · have d1 : ¬ (78 : Int) < (z : Int) + (pb.size : Int) := by omega
          have hpz2 : z + pb.size ≤ 3000000 := by omega
          go_wp2_with fail
          refine (HWP.out _ _ hI.out.1.built (by omega)).mono ?_
          rintro e w4 ⟨rfl, hb4, hk4⟩
          have HN : Hid (ShAt f W w4 ps (acc ++ p) (z + pb.size) (k + 1) ∧ Lib.OthersKept 5 (some (w.heap.size + 1)) w2 w4) := Lib.hid ⟨by
            rw [HPL.out.1]
            refine hI.out.1.plain HP.out (by rw [← HPL.out.1]; exact fun h => h78 h.2) ?_
            rw [← HPL.out.2]
            exact hb4, hI.out.2.trans hk4⟩
          clear hb4 hk4
          go_wp2_with fail
          go_roundw
          case rel => exact ⟨k + 1, z + pb.size, _, by omega, by simp, by simp, hpz2, HN⟩
          case measure => simp [intOf]; omega
      · have d0 : ¬ (0 : Int) < (k : Int) := by omega
        have hpz2 : z + pb.size ≤ 3000000 := by omega
        go_wp2_with fail
        refine (HWP.out _ _ hI.out.1.built (by omega)).mono ?_
        rintro e w4 ⟨rfl, hb4, hk4⟩
        have HN : Hid (ShAt f W w4 ps (acc ++ p) (z + pb.size) (k + 1) ∧ Lib.OthersKept 5 (some (w.heap.size + 1)) w2 w4) := Lib.hid ⟨by
          rw [HPL.out.1]
          refine hI.out.1.plain HP.out (fun h => hk0 h.1) ?_
          rw [← HPL.out.2]
          exact hb4, hI.out.2.trans hk4⟩
        clear hb4 hk4
        go_wp2_with fail
        go_roundw
        case rel => exact ⟨k + 1, z + pb.size, _, by omega, by simp, by simp, hpz2, HN⟩
        case measure => simp [intOf]; omega
    · have HE : Hid (acc ++ [13, 10] = showL (bl f.n) (bl f.v)) := Lib.hid (by
        have := hI.out.1.eq
        rw [List.drop_eq_nil_of_le (by have := HPQ.out.2; omega)] at this
        exact this)
      have HW0 : Hid (∀ (wr : World) (h : BuiltAt W wr acc), Calls Tryz.prog 73 #[.pointer (some ⟨w.heap.size + 1, 0, none⟩), .string ⟨#[13, 10]⟩] wr fun e w' => e = .returned (.tuple #[.int .i64 2, .nilIface]) ∧ BuiltAt W w' (acc ++ [13, 10]) ∧ Lib.OthersKept 5 (some (w.heap.size + 1)) wr w') := Lib.hid (fun wr h => by
        have := HWK.out wr acc ⟨#[13, 10]⟩ h (by omega) (by decide)
        exact this)
      go_wp2_with fail
      refine (HW0.out _ hI.out.1.built).mono ?_
      rintro e w3 ⟨rfl, hb3, hk3⟩
      have HB3 := Lib.hid hb3
      clear hb3 hk3
      go_wp2_with fail
      refine (HEN.out _ _ HB3.out).mono ?_
      rintro e w4 ⟨rfl, hb4⟩
      have HB4 := Lib.hid (HA.out.trans (hb4.mono (by have := HZ.out; omega)))
      clear hb4
      go_wp2_with fail
      go_ret
      exact ⟨by rw [← HE.out]; rfl, HB4.out⟩
/-! Print. -/
theorem printL_len : ∀ q : List Fd, (∀ f ∈ q, f.n.size ≤ 10000 ∧ f.v.size ≤ 10000) → (printL q).length ≤ 50000 * q.length
  | [], _ => by simp [printL]
  | f :: q, h => by
    have ih := printL_len q fun g hg => h g (by simp [hg])
    have h1 := showL_len (bl f.n) (bl f.v)
    have h2 := h f (by simp)
    rw [bl_len, bl_len] at h1
    have e : printL (f :: q) = showL (bl f.n) (bl f.v) ++ printL q := by unfold printL; simp
    rw [e, List.length_append, List.length_cons]
    omega
theorem printL_snoc (q : List Fd) (f : Fd) : printL (q ++ [f]) = printL q ++ showL (bl f.n) (bl f.v) := by unfold printL; simp
set_option maxRecDepth 100000 in
set_option maxHeartbeats 2000000 in
theorem print_any (v : Value) (q : List Fd) (w : World) (hv : ReadsF w v q) (hq : q.length ≤ 1000) (hs : ∀ f ∈ q, f.n.size ≤ 10000 ∧ f.v.size ≤ 10000) :
    Calls Tryz.prog 40 #[v] w fun e w' => e = .returned (.string (ba (printL q))) ∧ Below w.heap.size w w' := by
  obtain ⟨va, vc, rfl⟩ := hv.shape
  obtain ⟨n, hn⟩ : ∃ n, n = q.length := ⟨_, rfl⟩
  rw [← hn] at hv hq ⊢
  have HV := Lib.hid (fun k a ha => hv.at_ k a ha)
  have HNN := Lib.hid hn
  have HS := Lib.hid hs
  have HBS := Lib.hid (BuiltAt.start w)
  clear hv hn hs
  go_enter Tryz.func40, Tryz.ntmps40
  go_wp2_with fail
  go_loopw [8] (fun i wr => ∃ k : Nat, k ≤ n ∧ i = .int .i64 k ∧ Hid (BuiltAt w wr (printL (q.take k)))) (fun i _ => n - (intOf i).toNat)
  case atStart => exact ⟨0, Nat.zero_le _, rfl, HBS⟩
  case round =>
    clear HBS
    obtain ⟨k, hk, rfl, hB⟩ := hrel
    by_cases hlt : k < n
    · obtain ⟨f, hf⟩ : ∃ a, q[k]? = some a := ⟨q[k]'(by have := HNN.out; omega), List.getElem?_eq_getElem _⟩
      obtain ⟨b1, o1, rfl, hb1, r1⟩ := HV.out k f hf
      obtain ⟨c0, c1⟩ := two (range_below r1 hb1 hB.out.2)
      have hf2 := HS.out f (List.mem_of_getElem? hf)
      have hal : Below wr.heap.size wr (wr.alloc (boxF fdT f)) := (Below.refl _ _).alloc (Nat.le_refl _) _
      have HB1 := Lib.hid (hB.out.kept hal)
      have HSH := Lib.hid (show_any f (wr.alloc (boxF fdT f)) (by omega) (by omega))
      have HNX : Hid (printL (q.take (k + 1)) = printL (q.take k) ++ showL (bl f.n) (bl f.v)) := Lib.hid (by
        rw [List.take_add_one, hf]
        exact printL_snoc _ _)
      have hsl : (showL (bl f.n) (bl f.v)).length ≤ 50000 := by
        have := showL_len (bl f.n) (bl f.v)
        rw [bl_len, bl_len] at this
        omega
      have hpl : (printL (q.take k)).length ≤ 50000000 := by
        have h1 := printL_len (q.take k) fun g hg => HS.out g (List.mem_of_mem_take hg)
        have h2 : (q.take k).length ≤ 1000 := by rw [List.length_take]; omega
        omega
      generalize showL (bl f.n) (bl f.v) = sh at *
      clear hf hf2 r1
      go_wp2_with fail
      refine HSH.out.mono ?_
      rintro e w1 ⟨rfl, hb⟩
      have HB2 := Lib.hid (HB1.out.kept hb)
      have HW := Lib.hid (wstr w w1 (printL (q.take k)) (ba sh) HB2.out (by omega) (by rw [ba_size]; omega))
      clear hb
      go_wp2_with fail
      refine HW.out.mono ?_
      rintro e w2 ⟨rfl, hb⟩
      have HB3 : Hid (BuiltAt w w2 (printL (q.take (k + 1)))) := Lib.hid (by
        rw [HNX.out]
        rw [show Lex.bl (ba sh) = sh from bl_ba sh] at hb
        exact hb)
      clear hb
      go_wp2_with fail
      go_roundw
      case rel => exact ⟨k + 1, by omega, by simp, HB3⟩
      case measure => simp [intOf]; omega
    · have HE : Hid (printL (q.take k) = printL q) := Lib.hid (by rw [List.take_of_length_le (by have := HNN.out; omega)])
      have HEN := Lib.hid (wend w wr _ hB.out)
      rw [HE.out] at HEN
      go_wp2_with fail
      refine HEN.out.mono ?_
      rintro e w4 ⟨rfl, hb4⟩
      have HB4 := Lib.hid hb4
      clear hb4
      go_wp2_with fail
      go_ret
      exact ⟨rfl, HB4.out⟩
end Go.Proofs.YtegbkfloiiilfaaGreatDoor.Head

/-
  Walks: strings.Split at line ends, hasLong, Right.
-/
namespace Go.Proofs.YtegbkfloiiilfaaGreatDoor.Head
open Go Go.RowKit
open Go.Proofs.YtegbkfloiiilfaaGreatDoor.Sha (Kept wp_region_kept wp_region_kept_tail quiet_load_row)

theorem spl_split : ∀ (n : Nat) (s : ByteArray), s.size ≤ n → Lib.splitB endS 0 (Lib.countB s endS) s = (spl (bl s)).map ba
  | n, s, hn => by
    have hix : Lib.indexB s endS = match cut2 (bl s) with | none => -1 | some (t, _) => (t.length : Int) := index_crlf (bl s)
    cases hc : cut2 (bl s) with
    | none =>
      rw [hc] at hix
      rw [Lib.countB_miss s endS hix, spl_none hc]
      show [s] = _
      rw [List.map_cons, List.map_nil, ba_bl]
    | some p =>
      obtain ⟨t, r⟩ := p
      rw [hc] at hix
      have hl := cut2_len hc
      have he := cut2_some hc
      rw [bl_len] at hl
      have hcn := Lib.countB_hit s endS t.length (by decide) hix
      have e2 : bl (s.extract (t.length + endS.size) s.size) = r := by
        rw [bl_from, he]
        show (t ++ 13 :: 10 :: r).drop (t.length + 2) = r
        rw [List.drop_append, List.drop_eq_nil_of_le (by omega)]
        simp
      have e1 : s.extract 0 (t.length + 0) = ba t := by
        apply bl_inj
        rw [bl_extract, he, bl_ba]
        simp
      rw [hcn, Nat.add_comm 1, Lib.splitB_hit endS 0 _ s t.length hix, spl_some hc, e1, List.map_cons]
      have hrs : (s.extract (t.length + endS.size) s.size).size ≤ n - 1 := by
        rw [← bl_len, e2]; omega
      match n, hrs with
      | 0, _ => omega
      | n + 1, hrs => rw [spl_split n _ (by omega), e2]
theorem spl_count : ∀ (n : Nat) (s : List UInt8), s.length ≤ n → (spl s).length ≤ s.length + 1
  | n, s, hn => by
    cases hc : cut2 s with
    | none => rw [spl_none hc]; simp
    | some p =>
      obtain ⟨t, r⟩ := p
      have hl := cut2_len hc
      rw [spl_some hc, List.length_cons]
      match n, hn with
      | 0, _ => omega
      | n + 1, _ =>
        have := spl_count n r (by omega)
        omega
set_option maxRecDepth 100000 in
set_option maxHeartbeats 1000000 in
theorem lineLong_any (s : ByteArray) (w : World) :
    Calls Tryz.prog 93 #[.string s] w fun e w' => e = .returned (.bool (decide (998 < s.size))) ∧ w = w' := by
  by_cases h : 998 < s.size
  · have d : (998 : Int) < (s.size : Int) := by omega
    rw [decide_eq_true h]
    go_enter Tryz.func93, Tryz.ntmps93
    go_wp2_with fail
    go_ret
    exact ⟨rfl, rfl⟩
  · have d : ¬ (998 : Int) < (s.size : Int) := by omega
    rw [decide_eq_false h]
    go_enter Tryz.func93, Tryz.ntmps93
    go_wp2_with fail
    go_ret
    exact ⟨rfl, rfl⟩
def lgB (x : ByteArray) : Bool := decide (998 < x.size)
theorem any_take {p : ByteArray → Bool} {T : List ByteArray} {k : Nat} {t : ByteArray} (hk : T[k]? = some t) (hall : (T.take k).any p = false) (h : p t = false) : (T.take (k + 1)).any p = false := by
  rw [List.take_add_one, hk, List.any_append, hall]
  simp [h]
set_option maxRecDepth 100000 in
set_option maxHeartbeats 1000000 in
theorem indexS_any (v : Value) (T : List ByteArray) (w : World) (hv : ReadsS w v T) (hl : T.length ≤ 100000001) :
    Calls Tryz.prog 87 #[v, .func (.func 93) #[] #[]] w fun e w' => ∃ x : Int, e = .returned (.int .i64 x) ∧ decide (0 ≤ x) = T.any lgB ∧ w = w' := by
  obtain ⟨n, hn⟩ : ∃ n, n = T.length := ⟨_, rfl⟩
  obtain ⟨va, vc, rfl⟩ : ∃ a c, v = .slice a n c := by
    rcases hv with ⟨a, c, rfl, rfl⟩ | ⟨b, c, rfl, _⟩
    · exact ⟨a, c, by rw [hn]; rfl⟩
    · exact ⟨_, c, by rw [hn]⟩
  have HV : Hid (∀ i x, T[i]? = some x → ∃ b, va = some ⟨b, 0, none⟩ ∧ w.cell? ⟨b, i, none⟩ = some (.string x)) := Lib.hid (by
    intro i x hi
    rcases hv with ⟨a, c, _, h⟩ | ⟨b, c, h, _, _, _, h2⟩
    · rw [h] at hi; simp at hi
    · obtain ⟨rfl, _, _⟩ := Value.slice.inj h
      exact ⟨b, rfl, h2 i x hi⟩)
  have HNN := Lib.hid hn
  have hnb : n ≤ 100000001 := by omega
  clear hv hn hl
  go_enter Tryz.func87, Tryz.ntmps87
  go_wp2_with fail
  go_loopw [8] (fun i wr => ∃ k : Nat, k ≤ n ∧ i = .int .i64 k ∧ Hid ((T.take k).any lgB = false) ∧ w = wr) (fun i _ => n - (intOf i).toNat)
  case atStart => exact ⟨0, Nat.zero_le _, rfl, Lib.hid (by simp), rfl⟩
  case round =>
    obtain ⟨k, hk, rfl, hall, rfl⟩ := hrel
    by_cases hlt : k < n
    · obtain ⟨x, hx⟩ : ∃ a, T[k]? = some a := ⟨T[k]'(by have := HNN.out; omega), List.getElem?_eq_getElem _⟩
      obtain ⟨b, rfl, hcell⟩ := HV.out k x hx
      have HL := Lib.hid (fun W => lineLong_any x W)
      cases hb : lgB x
      · have HN := Lib.hid (any_take hx hall.out hb)
        rw [show decide (998 < x.size) = false from hb] at HL
        clear hx hb
        go_wp2_with fail
        refine (HL.out _).mono ?_
        rintro e w1 ⟨rfl, rfl⟩
        go_wp2_with fail
        go_roundw
        case rel => exact ⟨k + 1, by omega, by simp, HN, trivial⟩
        case measure => simp [intOf]; omega
      · have HE : Hid (T.any lgB = true) := Lib.hid (List.any_eq_true.2 ⟨x, List.mem_of_getElem? hx, hb⟩)
        rw [show decide (998 < x.size) = true from hb] at HL
        clear hx hb
        go_wp2_with fail
        refine (HL.out _).mono ?_
        rintro e w1 ⟨rfl, rfl⟩
        go_wp2_with fail
        go_ret
        exact ⟨_, rfl, by rw [HE.out]; exact decide_eq_true (by omega), rfl⟩
    · have HE : Hid (T.any lgB = false) := Lib.hid (by
        have h := hall.out
        rw [List.take_of_length_le (by have := HNN.out; omega)] at h
        exact h)
      go_wp2_with fail
      go_ret
      exact ⟨_, rfl, by rw [HE.out]; rfl, rfl⟩
set_option maxRecDepth 100000 in
set_option maxHeartbeats 1000000 in
theorem containsS_any (v : Value) (T : List ByteArray) (w : World) (hv : ReadsS w v T) (hl : T.length ≤ 100000001) :
    Calls Tryz.prog 54 #[v, .func (.func 93) #[] #[]] w fun e w' => e = .returned (.bool (T.any lgB)) ∧ w = w' := by
  have HX := Lib.hid (indexS_any v T w hv hl)
  clear hv
  go_enter Tryz.func54, Tryz.ntmps54
  go_wp2_with fail
  refine HX.out.mono ?_
  rintro e w1 ⟨x, rfl, hx, rfl⟩
  have HE := Lib.hid hx
  clear hx
  go_wp2_with fail
  go_ret
  exact ⟨ret_bool HE.out, rfl⟩
theorem long_any (l : List UInt8) : ((spl l).map ba).any lgB = longB l := by
  unfold longB
  rw [List.any_map, show (lgB ∘ ba) = fun t : List UInt8 => decide (998 < t.length) from funext fun x => by
    show decide (998 < (ba x).size) = _
    rw [ba_size]]
set_option maxRecDepth 100000 in
set_option maxHeartbeats 1000000 in
theorem hasLong_any (s : ByteArray) (w : World) (hs : s.size ≤ 100000000) (hm : MaxAt w) :
    Calls Tryz.prog 62 #[.string s] w fun e w' => e = .returned (.bool (longB (bl s))) ∧ Below w.heap.size w w' := by
  obtain ⟨m, hm⟩ := hm
  have HS := Lib.hid (Tryz.strings_Split s endS m w (by omega) hm (by decide))
  rw [spl_split s.size s (Nat.le_refl _)] at HS
  have hlen := Lib.splitB_all endS (by decide) 0 _ s rfl
  rw [spl_split s.size s (Nat.le_refl _), List.length_map] at hlen
  rw [← hlen] at HS
  have hcnt := spl_count s.size (bl s) (by rw [bl_len]; exact Nat.le_refl _)
  rw [bl_len] at hcnt
  have HC : Hid (Calls Tryz.prog 54 #[.slice (some ⟨w.heap.size, 0, none⟩) (spl (bl s)).length (spl (bl s)).length, .func (.func 93) #[] #[]] (w.alloc (.cells ((((spl (bl s)).map ba)).map Value.string).toArray strT)) fun e w' => e = .returned (.bool (longB (bl s))) ∧ w.alloc (.cells ((((spl (bl s)).map ba)).map Value.string).toArray strT) = w') := Lib.hid (by
    rw [← long_any]
    refine containsS_any _ _ _ ?_ (by rw [List.length_map]; omega)
    refine .inr ⟨w.heap.size, (spl (bl s)).length, by rw [List.length_map], by rw [List.length_map]; exact Nat.le_refl _, by omega, by simp, fun i x hi => ?_⟩
    rw [cell_of_row _ _ _ _ _ _ (heap_alloc_new w _)]
    rw [List.getElem?_toArray, List.getElem?_map, hi]
    rfl)
  have HB : Hid (Below w.heap.size w (w.alloc (.cells ((((spl (bl s)).map ba)).map Value.string).toArray strT))) := Lib.hid ((Below.refl _ _).alloc (Nat.le_refl _) _)
  obtain ⟨cs, hcs⟩ : ∃ cs, cs = ((((spl (bl s)).map ba)).map Value.string).toArray := ⟨_, rfl⟩
  rw [← hcs] at HS HC HB
  clear hlen hcnt hm hcs
  generalize spl (bl s) = sp at *
  generalize longB (bl s) = q at *
  go_enter Tryz.func62, Tryz.ntmps62
  go_wp2_with fail
  refine HS.out.mono ?_
  rintro e w1 ⟨rfl, rfl⟩
  go_wp2_with fail
  refine HC.out.mono ?_
  rintro e w2 ⟨rfl, rfl⟩
  go_wp2_with fail
  go_ret
  exact ⟨rfl, HB.out⟩
theorem quiet_load_str {P : Program} {C : World → Prop} {o : Oper} {a : Act} {K : Act → Prop} (ty : TypeId) (x : Operand) (ho : o.op = .load ty x) (p : Addr) (hx : a.eval x = .pointer (some p)) (v : Value)
    (hc : ∀ w, C w → w.cell? p = some v) (hu : P.underlying ty = some .string) (h : K (a.put o.dst v)) : o.quiet P a C K :=
  ⟨_, fun w hw => by
    have h1 := hc w hw
    unfold Oper.quietAt execOp
    simp [ho, hx, Instr.loadAt, Instr.sureAddr, loadVar, isAgg, run_underlying hu, h1]
    exact ⟨rfl, rfl⟩, h⟩
theorem str_eq (a b : ByteArray) : (a.toList == b.toList) = decide (a = b) := by
  rw [Bool.eq_iff_iff, beq_iff_eq, decide_eq_true_eq, Lib.toList_data, Lib.toList_data]
  constructor
  · intro h
    exact ByteArray.ext (Array.toList_inj.1 h)
  · rintro rfl; rfl
set_option maxRecDepth 100000 in
set_option maxHeartbeats 2000000 in
theorem right_any (f : Fd) (w : World) (hn : f.n.size ≤ 1000000) (hv : f.v.size ≤ 1000000) (hm : MaxAt w) :
    Calls Tryz.prog 36 #[fdV f] w fun e w' => e = .returned (.bool (rightB (bl f.n) (bl f.v))) ∧ Below w.heap.size w w' := by
  have HA : Hid (Below w.heap.size w (w.alloc (boxF fdT f))) := Lib.hid ((Below.refl _ _).alloc (Nat.le_refl _) _)
  have HR := Lib.hid (new_boxF w fdT f)
  have HL : Hid (w.heap.size < (w.alloc (boxF fdT f)).heap.size) := Lib.hid (by simp)
  have HM := Lib.hid (hm.below HA.out)
  have HN := Lib.hid (fun W => (name_any f.n W (by omega)).mono fun e w' h => (⟨h.1, h.2 ▸ Below.refl _ _⟩ : e = .returned (.bool (nameB (bl f.n))) ∧ Below W.heap.size W w'))
  have HT := Lib.hid (fun W => (text_any f.v W (by omega)).mono fun e w' h => (⟨h.1, h.2 ▸ Below.refl _ _⟩ : e = .returned (.bool (textB (bl f.v))) ∧ Below W.heap.size W w'))
  have HTR := Lib.hid (fun W => trim_any f.v W (by omega))
  have HS := Lib.hid (fun W => show_any f W hn hv)
  have hsl := showL_len (bl f.n) (bl f.v)
  rw [bl_len, bl_len] at hsl
  have HH := Lib.hid (fun W (h : MaxAt W) => hasLong_any (ba (showL (bl f.n) (bl f.v))) W (by rw [ba_size]; omega) h)
  rw [bl_ba] at HH
  have hteq : ((ba (trimL (bl f.v))).toList == f.v.toList) = decide (trimL (bl f.v) = bl f.v) := by
    rw [str_eq]
    rw [decide_eq_decide]
    constructor
    · intro h; rw [← bl_ba (trimL (bl f.v)), h]
    · intro h; rw [h, ba_bl]
  have HRB : Hid (rightB (bl f.n) (bl f.v) = (nameB (bl f.n) && (textB (bl f.v) && (decide (trimL (bl f.v) = bl f.v) && !longB (showL (bl f.n) (bl f.v)))))) := Lib.hid rfl
  clear hsl hm
  generalize rightB (bl f.n) (bl f.v) = rb at *
  generalize nameB (bl f.n) = nb at *
  generalize textB (bl f.v) = tb at *
  generalize decide (trimL (bl f.v) = bl f.v) = eb at *
  generalize ba (trimL (bl f.v)) = tr at *
  generalize longB (showL (bl f.n) (bl f.v)) = lb at *
  generalize ba (showL (bl f.n) (bl f.v)) = sh at *
  cases nb
  · go_enter Tryz.func36, Tryz.ntmps36
    go_wp2_with fail
    refine wp_region_kept (by kernel_rfl) (by kernel_rfl) ?_
    repeat (first
      | (go_big_quiet_want
         first
           | refine quiet_load_str 9 (.tmp 3) rfl ⟨w.heap.size, 0, none⟩ rfl (.string f.n) (fun w' hk => (two (range_below HR.out HL.out hk)).1) Tryz.underlying9 ?_
           | refine quiet_load_str 9 (.tmp 7) rfl ⟨w.heap.size, 0 + 1, none⟩ rfl (.string f.v) (fun w' hk => (two (range_below HR.out HL.out hk)).2) Tryz.underlying9 ?_
           | refine quiet_load_str 9 (.tmp 12) rfl ⟨w.heap.size, 0 + 1, none⟩ rfl (.string f.v) (fun w' hk => (two (range_below HR.out HL.out hk)).2) Tryz.underlying9 ?_
           | refine quiet_load_str 9 (.tmp 15) rfl ⟨w.heap.size, 0 + 1, none⟩ rfl (.string f.v) (fun w' hk => (two (range_below HR.out HL.out hk)).2) Tryz.underlying9 ?_
           | refine quiet_load_row fdT (.tmp 1) rfl w.heap.size 0 rfl (fdC f) _ (fun w' hk => range_below HR.out HL.out hk) Tryz.underlying68 rfl sizeFd ?_
         go_simp
         go_big_quiet_on)
      | (go_big_quiet_step ((first | (exact fun _ => rfl) | (intro hk; go_at_call 59; exact hk.call (HN.out _)) | (intro hk; go_at_call 60; exact hk.call (HT.out _)) | (intro hk; go_at_call 61; exact hk.call (HTR.out _)) | (intro hk; go_at_call 63; exact hk.call (HS.out _)) | (intro hk; go_at_call 62; exact hk.call (HH.out _ (HM.out.below hk.below)))))))
    refine wpQuiet_nil ?_
    intro W2 hk2
    have HK2 := Lib.hid (HA.out.trans (hk2.below.mono HA.out.size))
    clear hk2
    go_wp2_with fail
    go_ret
    exact ⟨ret_bool (by rw [HRB.out]; rfl), HK2.out⟩
  · cases tb
    · go_enter Tryz.func36, Tryz.ntmps36
      go_wp2_with fail
      refine wp_region_kept (by kernel_rfl) (by kernel_rfl) ?_
      repeat (first
        | (go_big_quiet_want
           first
             | refine quiet_load_str 9 (.tmp 3) rfl ⟨w.heap.size, 0, none⟩ rfl (.string f.n) (fun w' hk => (two (range_below HR.out HL.out hk)).1) Tryz.underlying9 ?_
             | refine quiet_load_str 9 (.tmp 7) rfl ⟨w.heap.size, 0 + 1, none⟩ rfl (.string f.v) (fun w' hk => (two (range_below HR.out HL.out hk)).2) Tryz.underlying9 ?_
             | refine quiet_load_str 9 (.tmp 12) rfl ⟨w.heap.size, 0 + 1, none⟩ rfl (.string f.v) (fun w' hk => (two (range_below HR.out HL.out hk)).2) Tryz.underlying9 ?_
             | refine quiet_load_str 9 (.tmp 15) rfl ⟨w.heap.size, 0 + 1, none⟩ rfl (.string f.v) (fun w' hk => (two (range_below HR.out HL.out hk)).2) Tryz.underlying9 ?_
             | refine quiet_load_row fdT (.tmp 1) rfl w.heap.size 0 rfl (fdC f) _ (fun w' hk => range_below HR.out HL.out hk) Tryz.underlying68 rfl sizeFd ?_
           go_simp
           go_big_quiet_on)
        | (go_big_quiet_step ((first | (exact fun _ => rfl) | (intro hk; go_at_call 59; exact hk.call (HN.out _)) | (intro hk; go_at_call 60; exact hk.call (HT.out _)) | (intro hk; go_at_call 61; exact hk.call (HTR.out _)) | (intro hk; go_at_call 63; exact hk.call (HS.out _)) | (intro hk; go_at_call 62; exact hk.call (HH.out _ (HM.out.below hk.below)))))))
      refine wpQuiet_nil ?_
      intro W2 hk2
      have HK2 := Lib.hid (HA.out.trans (hk2.below.mono HA.out.size))
      clear hk2
      go_wp2_with fail
      go_ret
      exact ⟨ret_bool (by rw [HRB.out]; rfl), HK2.out⟩
    · cases eb
      · go_enter Tryz.func36, Tryz.ntmps36
        go_wp2_with fail
        refine wp_region_kept (by kernel_rfl) (by kernel_rfl) ?_
        repeat (first
          | (go_big_quiet_want
             first
               | refine quiet_load_str 9 (.tmp 3) rfl ⟨w.heap.size, 0, none⟩ rfl (.string f.n) (fun w' hk => (two (range_below HR.out HL.out hk)).1) Tryz.underlying9 ?_
               | refine quiet_load_str 9 (.tmp 7) rfl ⟨w.heap.size, 0 + 1, none⟩ rfl (.string f.v) (fun w' hk => (two (range_below HR.out HL.out hk)).2) Tryz.underlying9 ?_
               | refine quiet_load_str 9 (.tmp 12) rfl ⟨w.heap.size, 0 + 1, none⟩ rfl (.string f.v) (fun w' hk => (two (range_below HR.out HL.out hk)).2) Tryz.underlying9 ?_
               | refine quiet_load_str 9 (.tmp 15) rfl ⟨w.heap.size, 0 + 1, none⟩ rfl (.string f.v) (fun w' hk => (two (range_below HR.out HL.out hk)).2) Tryz.underlying9 ?_
               | refine quiet_load_row fdT (.tmp 1) rfl w.heap.size 0 rfl (fdC f) _ (fun w' hk => range_below HR.out HL.out hk) Tryz.underlying68 rfl sizeFd ?_
             go_simp
             go_big_quiet_on)
          | (go_big_quiet_step ((first | (exact fun _ => rfl) | (intro hk; go_at_call 59; exact hk.call (HN.out _)) | (intro hk; go_at_call 60; exact hk.call (HT.out _)) | (intro hk; go_at_call 61; exact hk.call (HTR.out _)) | (intro hk; go_at_call 63; exact hk.call (HS.out _)) | (intro hk; go_at_call 62; exact hk.call (HH.out _ (HM.out.below hk.below)))))))
        refine wpQuiet_nil ?_
        intro W2 hk2
        have HK2 := Lib.hid (HA.out.trans (hk2.below.mono HA.out.size))
        clear hk2
        go_wp2_with fail
        go_ret
        exact ⟨ret_bool (by rw [HRB.out]; rfl), HK2.out⟩
      · cases lb
        · go_enter Tryz.func36, Tryz.ntmps36
          go_wp2_with fail
          refine wp_region_kept (by kernel_rfl) (by kernel_rfl) ?_
          repeat (first
            | (go_big_quiet_want
               first
                 | refine quiet_load_str 9 (.tmp 3) rfl ⟨w.heap.size, 0, none⟩ rfl (.string f.n) (fun w' hk => (two (range_below HR.out HL.out hk)).1) Tryz.underlying9 ?_
                 | refine quiet_load_str 9 (.tmp 7) rfl ⟨w.heap.size, 0 + 1, none⟩ rfl (.string f.v) (fun w' hk => (two (range_below HR.out HL.out hk)).2) Tryz.underlying9 ?_
                 | refine quiet_load_str 9 (.tmp 12) rfl ⟨w.heap.size, 0 + 1, none⟩ rfl (.string f.v) (fun w' hk => (two (range_below HR.out HL.out hk)).2) Tryz.underlying9 ?_
                 | refine quiet_load_str 9 (.tmp 15) rfl ⟨w.heap.size, 0 + 1, none⟩ rfl (.string f.v) (fun w' hk => (two (range_below HR.out HL.out hk)).2) Tryz.underlying9 ?_
                 | refine quiet_load_row fdT (.tmp 1) rfl w.heap.size 0 rfl (fdC f) _ (fun w' hk => range_below HR.out HL.out hk) Tryz.underlying68 rfl sizeFd ?_
               go_simp
               go_big_quiet_on)
            | (go_big_quiet_step ((first | (exact fun _ => rfl) | (intro hk; go_at_call 59; exact hk.call (HN.out _)) | (intro hk; go_at_call 60; exact hk.call (HT.out _)) | (intro hk; go_at_call 61; exact hk.call (HTR.out _)) | (intro hk; go_at_call 63; exact hk.call (HS.out _)) | (intro hk; go_at_call 62; exact hk.call (HH.out _ (HM.out.below hk.below)))))))
          refine wpQuiet_nil ?_
          intro W2 hk2
          have HK2 := Lib.hid (HA.out.trans (hk2.below.mono HA.out.size))
          clear hk2
          go_wp2_with fail
          go_ret
          exact ⟨ret_bool (by rw [HRB.out]; rfl), HK2.out⟩
        · go_enter Tryz.func36, Tryz.ntmps36
          go_wp2_with fail
          refine wp_region_kept (by kernel_rfl) (by kernel_rfl) ?_
          repeat (first
            | (go_big_quiet_want
               first
                 | refine quiet_load_str 9 (.tmp 3) rfl ⟨w.heap.size, 0, none⟩ rfl (.string f.n) (fun w' hk => (two (range_below HR.out HL.out hk)).1) Tryz.underlying9 ?_
                 | refine quiet_load_str 9 (.tmp 7) rfl ⟨w.heap.size, 0 + 1, none⟩ rfl (.string f.v) (fun w' hk => (two (range_below HR.out HL.out hk)).2) Tryz.underlying9 ?_
                 | refine quiet_load_str 9 (.tmp 12) rfl ⟨w.heap.size, 0 + 1, none⟩ rfl (.string f.v) (fun w' hk => (two (range_below HR.out HL.out hk)).2) Tryz.underlying9 ?_
                 | refine quiet_load_str 9 (.tmp 15) rfl ⟨w.heap.size, 0 + 1, none⟩ rfl (.string f.v) (fun w' hk => (two (range_below HR.out HL.out hk)).2) Tryz.underlying9 ?_
                 | refine quiet_load_row fdT (.tmp 1) rfl w.heap.size 0 rfl (fdC f) _ (fun w' hk => range_below HR.out HL.out hk) Tryz.underlying68 rfl sizeFd ?_
               go_simp
               go_big_quiet_on)
            | (go_big_quiet_step ((first | (exact fun _ => rfl) | (intro hk; go_at_call 59; exact hk.call (HN.out _)) | (intro hk; go_at_call 60; exact hk.call (HT.out _)) | (intro hk; go_at_call 61; exact hk.call (HTR.out _)) | (intro hk; go_at_call 63; exact hk.call (HS.out _)) | (intro hk; go_at_call 62; exact hk.call (HH.out _ (HM.out.below hk.below)))))))
          refine wpQuiet_nil ?_
          intro W2 hk2
          have HK2 := Lib.hid (HA.out.trans (hk2.below.mono HA.out.size))
          clear hk2
          go_wp2_with fail
          go_ret
          exact ⟨ret_bool (by rw [HRB.out]; rfl), HK2.out⟩
end Go.Proofs.YtegbkfloiiilfaaGreatDoor.Head
