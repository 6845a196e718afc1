/-
  Walks of lex, the first part.
-/
import Derived.Test.YtegbkfloiiilfaaGreatDoorMgPlain
import Derived.Test.YtegbkfloiiilfaaGreatDoorProg
import Derived.WalkKit
import Derived.WalkSpells
import Derived.WalkLawsBesides
import Derived.WalkSmall
import Derived.ShutString
import Derived.RegionTactic
import Derived.Lib.Walk
import Derived.Lib.Strings
import Derived.Lib.Hide
import Derived.Lib.Bytealg
import Derived.Below
import Derived.Laws.BitsAllLaws
import Derived.Laws.BytesArg
import Derived.Laws.Externs
import Derived.Deep.QuietTactic
import Derived.BigQuiet
import Derived.Test.YtegbkfloiiilfaaGreatDoorMgShelf
import Derived.Lib.Builder
import Derived.Lib.AppendStr
import Derived.Lib.OthersKept
import Derived.WalkMore
import Derived.OwnWalk
import Derived.Laws.IdiomStrings
import Derived.Laws.Rows
import Derived.Laws.Tables
import Derived.Laws.MakeOwn
import Derived.Maps.AppendAt
import Derived.Deep.RegionWith
import Derived.Deep.MidRow
import Derived.Lib.SliceRun
import Derived.Lib.AppendZeros
import Derived.StillTailTactics

/-
  The small tests of bytes at this program: blanks, specials, text bytes, those of atoms, folds; the document's too.
-/
namespace Go.Proofs.YtegbkfloiiilfaaGreatDoor.Lex
open Go.RowKit

set_option maxRecDepth 100000 in
set_option maxHeartbeats 1000000 in
theorem indexL_any (s : ByteArray) (c : Int) (w : World) :
    Calls Tryz.prog 137 #[.string s, .int .u8 c] w fun e w' => e = .returned (.int .i64 (Lib.indexByte s.data.toList c.toNat.toUInt8)) ∧ w = w' := by
  have hx := fun W => Lib.run_indexByteString (P := Tryz.prog) s c W
  go_enter Tryz.func137, Tryz.ntmps137
  go_wp2
  rw [run_callFunc_extern Tryz.func155 (by kernel_rfl) (by kernel_rfl) (by kernel_rfl) (e := Extern.BytealgIndexByte.indexByte) (by kernel_rfl), hx]
  simp only [Result.andThen]
  rw [Oper.upon_value]
  go_wp2
  go_ret
  exact ⟨rfl, rfl⟩
set_option maxRecDepth 100000 in
set_option maxHeartbeats 1000000 in
theorem index_any (s : ByteArray) (c : Int) (w : World) :
    Calls Tryz.prog 107 #[.string s, .int .u8 c] w fun e w' => e = .returned (.int .i64 (Lib.indexByte s.data.toList c.toNat.toUInt8)) ∧ w = w' := by
  go_enter Tryz.func107, Tryz.ntmps107
  go_wp2_with fail
  refine (indexL_any s c _).mono ?_
  rintro e w' ⟨rfl, rfl⟩
  go_wp2
  go_ret
  exact ⟨rfl, rfl⟩

/-! One byte, as a number. -/
theorem bl_extract (s : ByteArray) (a b : Nat) : bl (s.extract a b) = ((bl s).drop a).take (b - a) := Lib.extract_data s a b
theorem bl_from (s : ByteArray) (a : Nat) : bl (s.extract a s.size) = (bl s).drop a := by
  rw [bl_extract, List.take_of_length_le]
  rw [List.length_drop, bl_len]
  omega
theorem drop_cons (s : ByteArray) (k : Nat) (h : k < s.size) : (bl s).drop k = s[k] :: (bl s).drop (k + 1) := by
  rw [List.drop_eq_getElem_cons (by rw [bl_len]; exact h)]; rfl
theorem drop_end (s : ByteArray) (p : Nat) (h : ¬ p < s.size) : (bl s).drop p = [] := List.drop_eq_nil_of_le (by rw [bl_len]; omega)
theorem ret_bool {a b : Bool} (h : a = b) : Ending.returned (.bool a) = .returned (.bool b) := by rw [h]
def specB : ByteArray := ⟨#[60, 62, 58, 59, 64, 44, 46]⟩
def markB : ByteArray := ⟨#[33, 35, 36, 37, 38, 39, 42, 43, 45, 47, 61, 63, 94, 95, 96, 123, 124, 125, 126]⟩
theorem spec_index (n : Nat) (hn : n < 256) : decide (0 ≤ Lib.indexByte specB.data.toList n.toUInt8) = spN n := by
  have := all256 (p := fun n => decide (0 ≤ Lib.indexByte specB.data.toList n.toUInt8) == spN n) (by decide +kernel) n hn
  exact beq_iff_eq.1 this
theorem mark_index (n : Nat) (hn : n < 256) : decide (0 ≤ Lib.indexByte markB.data.toList n.toUInt8) = marks.contains n := by
  have := all256 (p := fun n => decide (0 ≤ Lib.indexByte markB.data.toList n.toUInt8) == marks.contains n) (by decide +kernel) n hn
  exact beq_iff_eq.1 this

set_option maxRecDepth 100000 in
set_option maxHeartbeats 400000 in
theorem blank_any (c : Int) (w : World) (_h0 : 0 ≤ c) (_h1 : c < 256) :
    Calls Tryz.prog 126 #[.int .u8 c] w fun e w' => e = .returned (.bool (bkN c.toNat)) ∧ w = w' := by
  have e : Hid (bkN c.toNat = ((c == 32) || (c == 9))) := Lib.hid (by
    unfold bkN
    rw [Bool.eq_iff_iff]
    simp only [Bool.or_eq_true, beq_iff_eq]
    omega)
  cases h1 : (c == 32) <;> cases h2 : (c == 9)
  all_goals
    rw [h1, h2] at e
    go_enter Tryz.func126, Tryz.ntmps126
    go_wp2
    go_ret
    exact ⟨by rw [e.out]; rfl, rfl⟩
set_option maxRecDepth 100000 in
set_option maxHeartbeats 400000 in
theorem special_any (c : Int) (w : World) (h0 : 0 ≤ c) (h1 : c < 256) :
    Calls Tryz.prog 130 #[.int .u8 c] w fun e w' => e = .returned (.bool (spN c.toNat)) ∧ w = w' := by
  have HX := Lib.hid (fun W => index_any specB c W)
  have e := Lib.hid (spec_index c.toNat (by omega))
  generalize Lib.indexByte specB.data.toList c.toNat.toUInt8 = v at *
  clear h0 h1
  go_enter Tryz.func130, Tryz.ntmps130
  go_wp2_with fail
  refine (HX.out _).mono ?_
  rintro e' w1 ⟨rfl, rfl⟩
  go_wp2
  go_ret
  exact ⟨ret_bool e.out, rfl⟩
set_option maxRecDepth 100000 in
set_option maxHeartbeats 400000 in
theorem text_any (c : Int) (w : World) (_h0 : 0 ≤ c) (_h1 : c < 256) :
    Calls Tryz.prog 161 #[.int .u8 c] w fun e w' => e = .returned (.bool (txN c.toNat)) ∧ w = w' := by
  have e : Hid (txN c.toNat = ((c == 9) || (decide (32 ≤ c) && (c != 127)))) := Lib.hid (by
    unfold txN
    rw [Bool.eq_iff_iff]
    simp only [Bool.or_eq_true, Bool.and_eq_true, beq_iff_eq, decide_eq_true_eq, Bool.not_eq_true', beq_eq_false_iff_ne, bne_iff_ne]
    omega)
  cases h1 : (c == 9) <;> cases h2 : decide (32 ≤ c) <;> cases h3 : (c != 127)
  all_goals
    rw [h1, h2, h3] at e
    go_enter Tryz.func161, Tryz.ntmps161
    go_wp2
    go_ret
    exact ⟨by rw [e.out]; rfl, rfl⟩
end Go.Proofs.YtegbkfloiiilfaaGreatDoor.Lex

/-
  A strings.Builder that the call made itself is written: copyCheck, WriteByte, WriteString.
-/
namespace Go.Proofs.YtegbkfloiiilfaaGreatDoor.Lex
open Go.RowKit

theorem infoBuilder : (Tryz.prog.info? 103).map (fun i => i.size) = some 2 := by kernel_rfl
theorem liesBuilder : liesAt Tryz.prog Tryz.prog.depth 103 (2 / Tryz.prog.cellsOf 103) 0 103 1 = true := by kernel_rfl
theorem infoByte : (Tryz.prog.info? 5).map (fun i => (i.zero, i.size, i.bytes)) = some (some (.int .u8 0), 1, 1) := by kernel_rfl

set_option maxRecDepth 100000 in
set_option maxHeartbeats 1000000 in
theorem bcheck_used (b : Nat) (w : World) (h0 : w.cell? ⟨b, 0, none⟩ = some (.pointer (some ⟨b, 0, none⟩))) :
    Calls Tryz.prog 98 #[.pointer (some ⟨b, 0, none⟩)] w fun e w' => e = .returned (.tuple #[]) ∧ w = w' := by
  obtain ⟨j, hj, _⟩ := Option.map_eq_some_iff.1 infoBuilder
  have r0 := Lib.run_neq_ptr_same (P := Tryz.prog) w ⟨b, 0, none⟩ Tryz.underlying101 hj
  go_enter Tryz.func98, Tryz.ntmps98
  go_wp2
  go_end0
  exact ⟨rfl, rfl⟩
set_option maxRecDepth 100000 in
set_option maxHeartbeats 1000000 in
theorem bcheck_fresh (b : Nat) (w : World) (h0 : w.cell? ⟨b, 0, none⟩ = some (.pointer none)) (hsh : w.shape? b = some (103, 2)) (hfz : w.frozen? ⟨b, 0, none⟩ = false) :
    Calls Tryz.prog 98 #[.pointer (some ⟨b, 0, none⟩)] w fun e w' => e = .returned (.tuple #[]) ∧ w' = w.setCell ⟨b, 0, none⟩ (.pointer (some ⟨b, 0, none⟩)) := by
  obtain ⟨j, hj, hjs⟩ := Option.map_eq_some_iff.1 infoBuilder
  have r0 := fun (W : World) => Lib.run_neq_ptr_same (P := Tryz.prog) W ⟨b, 0, none⟩ Tryz.underlying101 hj
  have r1 := Lib.run_to_unsafe (P := Tryz.prog) w ⟨b, 0, none⟩ Tryz.underlying101 Tryz.underlying162 hj (by rw [hjs]; decide) hsh (Nat.zero_lt_succ 1)
  have r2 := Lib.run_from_unsafe (P := Tryz.prog) w ⟨b, 0, none⟩ Tryz.underlying162 Tryz.underlying101 hj hsh liesBuilder
  clear hjs
  go_enter Tryz.func98, Tryz.ntmps98
  go_wp2
  rw [run_callFunc_extern Tryz.func125 (by kernel_rfl) (by kernel_rfl) (by kernel_rfl) (e := Extern.AbiNoEscape.same) (by kernel_rfl), Lib.run_noEscape]
  simp only [Result.andThen]
  rw [Oper.upon_value]
  go_wp2
  go_end0
  exact ⟨rfl, rfl⟩
theorem bcheck_any (B b : Nat) (bs : List Value) (w : World) (h : Lib.IsBuilder 103 5 B b bs w) :
    Calls Tryz.prog 98 #[.pointer (some ⟨b, 0, none⟩)] w fun e w' => e = .returned (.tuple #[]) ∧ Lib.BuilderAt 103 5 B b (.pointer (some ⟨b, 0, none⟩)) bs w' ∧ Below B w w' ∧ Lib.OthersKept 5 (some b) w w' := by
  rcases h with h | h
  · refine (bcheck_fresh b w h.cell0 h.shape h.frozen0).mono fun e w' he => ?_
    obtain ⟨rfl, rfl⟩ := he
    exact ⟨rfl, h.used _, (Below.refl B w).setCell (p := ⟨b, 0, none⟩) h.1 _, (Lib.OthersKept.refl _ _ w).setCell ⟨b, 0, none⟩ rfl _⟩
  · refine (bcheck_used b w h.cell0).mono fun e w' he => ?_
    obtain ⟨rfl, rfl⟩ := he
    exact ⟨rfl, h, Below.refl B _, Lib.OthersKept.refl _ _ _⟩

theorem owned_kind {w : World} {B : Nat} {e : TypeId} {z : Nat} {v : Value} {n : Nat} {xs : List Value} (h : w.ownsRow B e z v n xs) : ∀ g, v.ownBlock = some g → ∃ c fz, w.heap[g]? = some (.cells c e fz) := by
  intro g hg
  rcases h.2 with ⟨rfl, _⟩ | ⟨g', cap, cur, rfl, _, h2, _⟩
  · simp [Value.ownBlock] at hg
  · obtain rfl : g' = g := by simpa [Value.ownBlock] using hg
    exact ⟨_, _, h2⟩

set_option maxRecDepth 100000 in
set_option maxHeartbeats 2000000 in
theorem bbyteK_any (B b : Nat) (bs : List Value) (c : Int) (w : World) (h : Lib.IsBuilder 103 5 B b bs w) (hlen : bs.length + 1 ≤ 140737488355328) (hBw : B ≤ w.heap.size) :
    Calls Tryz.prog 184 #[.pointer (some ⟨b, 0, none⟩), .int .u8 c] w fun e w' => e = .returned .nilIface ∧ Lib.BuilderAt 103 5 B b (.pointer (some ⟨b, 0, none⟩)) (bs ++ [.int .u8 c]) w' ∧ Below B w w' ∧ Lib.OthersKept 5 (some b) w w' := by
  obtain ⟨i0, hi, hz0, hz1, hz2⟩ := info_parts infoByte
  go_enter Tryz.func184, Tryz.ntmps184
  go_wp2_with (go_at_call 98; refine (bcheck_any B b bs _ h).mono ?_)
  rintro e w1 ⟨rfl, h1, hb1, hk1⟩
  have hlt := h1.lt
  obtain ⟨hB, v, hbk, hown, hne⟩ := h1
  have c0 : w1.cell? ⟨b, 0, none⟩ = some (.pointer (some ⟨b, 0, none⟩)) := by rw [Lib.cell_of_heap hbk]; rfl
  have c1 : w1.cell? ⟨b, 1, none⟩ = some v := by rw [Lib.cell_of_heap hbk]; rfl
  have hs1 := hb1.size
  have hown1 := hown.alloc (.cells #[.int .u8 c] 5)
  have hbk1 : (w1.alloc (.cells #[.int .u8 c] 5)).heap[b]? = some (.cells #[.pointer (some ⟨b, 0, none⟩), v] 103 (0, 0)) := (Below.heap_alloc w1 _ b hlt).trans hbk
  have hnew : (w1.alloc (.cells #[.int .u8 c] 5)).heap[w1.heap.size]? = some (.cells #[.int .u8 c] 5) := heap_alloc_new w1 _
  have hsz : (w1.alloc (.cells #[.int .u8 c] 5)).heap.size = w1.heap.size + 1 := by simp
  go_wp2_with (at_builtin; refine wpList_append_own _ rfl _ _ 38 rfl B 5 i0 (.int .u8 0) 1 1 Tryz.underlying38 hi hz0 hz1 hz2 rfl (by decide) _ _ _ rfl hown1 ⟨w1.heap.size, 0, none⟩ 1 1 [.int .u8 c] rfl rfl ?c1 ?c2 ?c3 ?c4 ?c5 ?_)
  case c1 =>
    intro j u hj
    match j, hj with
    | 0, hj =>
      simp only [List.getElem?_cons_zero, Option.some.injEq] at hj
      subst hj
      have e : (⟨w1.heap.size, 0, none⟩ : Addr).add 0 = ⟨w1.heap.size, 0, none⟩ := by unfold Addr.add; split <;> simp_all
      rw [e, Lib.cell_of_heap hnew]; rfl
    | j + 1, hj => simp at hj
  case c2 => intro u hu; simp only [List.mem_singleton] at hu; subst hu; rfl
  case c3 => unfold maxLen; omega
  case c4 => omega
  case c5 => omega
  intro v' w2 hown' hgrow _
  have hb2 : w2.heap[b]? = some (.cells #[.pointer (some ⟨b, 0, none⟩), v] 103 (0, 0)) := (hgrow.block b (by omega) (fun e => hne e.symm)).trans hbk1
  have d0 : w2.cell? ⟨b, 0, none⟩ = some (.pointer (some ⟨b, 0, none⟩)) := by rw [Lib.cell_of_heap hb2]; rfl
  have d1 : w2.cell? ⟨b, 1, none⟩ = some v := by rw [Lib.cell_of_heap hb2]; rfl
  have f1 : w2.frozen? ⟨b, 1, none⟩ = false := Lib.frozen_of_heap hb2 1
  obtain ⟨ao, n', cap, rfl⟩ : ∃ ao n' cap, v' = .slice ao n' cap := by
    rcases hown'.2 with ⟨hv, _⟩ | ⟨g, cap, cur, hv, _⟩
    · exact ⟨_, _, _, hv⟩
    · exact ⟨_, _, _, hv⟩
  go_wp2
  go_ret
  refine ⟨rfl, ?_, ?_, ((hk1.alloc _).grown hgrow (owned_kind hown1)).setCell ⟨b, 1, none⟩ rfl _⟩
  · exact Lib.BuilderAt.put (T := 103) (e := 5) hB hb2 (bs' := bs ++ [.int .u8 c]) (by simpa using hown') (by decide)
  · exact ((hb1.alloc (by omega) _).grown hgrow (by omega) (fun k hk => (hown1.lt k hk).1)).setCell (p := ⟨b, 1, none⟩) hB _

theorem bbyte_any (B b : Nat) (bs : List Value) (c : Int) (w : World) (h : Lib.IsBuilder 103 5 B b bs w) (hlen : bs.length + 1 ≤ 140737488355328) (hBw : B ≤ w.heap.size) :
    Calls Tryz.prog 184 #[.pointer (some ⟨b, 0, none⟩), .int .u8 c] w fun e w' => e = .returned .nilIface ∧ Lib.BuilderAt 103 5 B b (.pointer (some ⟨b, 0, none⟩)) (bs ++ [.int .u8 c]) w' ∧ Below B w w' :=
  (bbyteK_any B b bs c w h hlen hBw).mono fun _ _ hh => ⟨hh.1, hh.2.1, hh.2.2.1⟩

set_option maxRecDepth 100000 in
set_option maxHeartbeats 2000000 in
theorem bstrK_any (B b : Nat) (bs : List Value) (s : ByteArray) (w : World) (h : Lib.IsBuilder 103 5 B b bs w) (hlen : bs.length + s.size ≤ 140737488355328) (hBw : B ≤ w.heap.size) :
    Calls Tryz.prog 73 #[.pointer (some ⟨b, 0, none⟩), .string s] w fun e w' => e = .returned (.tuple #[.int .i64 s.size, .nilIface]) ∧ Lib.BuilderAt 103 5 B b (.pointer (some ⟨b, 0, none⟩)) (bs ++ Lib.strCells s) w' ∧ Below B w w' ∧ Lib.OthersKept 5 (some b) w w' := by
  obtain ⟨i0, hi, hz0, hz1, hz2⟩ := info_parts infoByte
  go_enter Tryz.func73, Tryz.ntmps73
  go_wp2_with (go_at_call 98; refine (bcheck_any B b bs _ h).mono ?_)
  rintro e w1 ⟨rfl, h1, hb1, hk1⟩
  have hlt := h1.lt
  obtain ⟨hB, v, hbk, hown, hne⟩ := h1
  have c0 : w1.cell? ⟨b, 0, none⟩ = some (.pointer (some ⟨b, 0, none⟩)) := by rw [Lib.cell_of_heap hbk]; rfl
  have c1 : w1.cell? ⟨b, 1, none⟩ = some v := by rw [Lib.cell_of_heap hbk]; rfl
  have hs1 := hb1.size
  go_wp2_with (at_builtin; refine Lib.wpList_append_own_string _ rfl _ _ 38 9 rfl B 5 i0 Tryz.underlying38 Tryz.underlying9 hi hz0 hz1 hz2 _ _ _ rfl hown s rfl ?c3 ?c4 ?c5 ?_)
  case c3 => unfold maxLen; omega
  case c4 => omega
  case c5 => omega
  intro v' w2 hown' hgrow _
  have hb2 : w2.heap[b]? = some (.cells #[.pointer (some ⟨b, 0, none⟩), v] 103 (0, 0)) := (hgrow.block b hlt (fun e => hne e.symm)).trans hbk
  have d0 : w2.cell? ⟨b, 0, none⟩ = some (.pointer (some ⟨b, 0, none⟩)) := by rw [Lib.cell_of_heap hb2]; rfl
  have d1 : w2.cell? ⟨b, 1, none⟩ = some v := by rw [Lib.cell_of_heap hb2]; rfl
  have f1 : w2.frozen? ⟨b, 1, none⟩ = false := Lib.frozen_of_heap hb2 1
  obtain ⟨ao, n', cap, rfl⟩ : ∃ ao n' cap, v' = .slice ao n' cap := by
    rcases hown'.2 with ⟨hv, _⟩ | ⟨g, cap, cur, hv, _⟩
    · exact ⟨_, _, _, hv⟩
    · exact ⟨_, _, _, hv⟩
  go_wp2
  go_ret2
  refine ⟨rfl, ?_, ?_, (hk1.grown hgrow (owned_kind hown)).setCell ⟨b, 1, none⟩ rfl _⟩
  · exact Lib.BuilderAt.put (T := 103) (e := 5) hB hb2 (bs' := bs ++ Lib.strCells s) (by simpa [Lib.strCells_length] using hown') (by decide)
  · exact (hb1.grown hgrow (by omega) (fun k hk => (hown.lt k hk).1)).setCell (p := ⟨b, 1, none⟩) hB _
theorem bstr_any (B b : Nat) (bs : List Value) (s : ByteArray) (w : World) (h : Lib.IsBuilder 103 5 B b bs w) (hlen : bs.length + s.size ≤ 140737488355328) (hBw : B ≤ w.heap.size) :
    Calls Tryz.prog 73 #[.pointer (some ⟨b, 0, none⟩), .string s] w fun e w' => e = .returned (.tuple #[.int .i64 s.size, .nilIface]) ∧ Lib.BuilderAt 103 5 B b (.pointer (some ⟨b, 0, none⟩)) (bs ++ Lib.strCells s) w' ∧ Below B w w' :=
  (bstrK_any B b bs s w h hlen hBw).mono fun _ _ hh => ⟨hh.1, hh.2.1, hh.2.2.1⟩

theorem strCells_ba (l : List UInt8) : Lib.strCells (ba l) = Lib.byteCells l := by simp [Lib.byteCells, Lib.strCells]
theorem byteCells_len (l : List UInt8) : (Lib.byteCells l).length = l.length := Lib.byteCells_length l
/-- A builder that the call made, at w's end; what lay there before lies as it lay. -/
def BuiltAt (w wr : World) (acc : List UInt8) : Prop :=
  Lib.IsBuilder 103 5 w.heap.size w.heap.size (Lib.byteCells acc) wr ∧ Below w.heap.size w wr
theorem BuiltAt.start (w : World) : BuiltAt w (w.alloc (.cells #[.pointer none, .slice none 0 0] 103)) [] :=
  ⟨Lib.fresh_isBuilder 103 5 w, (Below.refl _ w).alloc (Nat.le_refl _) _⟩
theorem wbyte (w wr : World) (acc : List UInt8) (c : UInt8) (h : BuiltAt w wr acc) (hl : acc.length ≤ 1000000000) :
    Calls Tryz.prog 184 #[.pointer (some ⟨w.heap.size, 0, none⟩), .int .u8 c.toNat] wr fun e w' => e = .returned .nilIface ∧ BuiltAt w w' (acc ++ [c]) := by
  refine (bbyte_any w.heap.size w.heap.size _ (c.toNat : Int) wr h.1 (by rw [byteCells_len]; omega) h.2.size).mono ?_
  rintro e w' ⟨rfl, h1, h2⟩
  refine ⟨rfl, .inr ?_, h.2.trans h2⟩
  rw [Lib.byteCells_append]
  exact h1
theorem wstr (w wr : World) (acc : List UInt8) (s : ByteArray) (h : BuiltAt w wr acc) (hl : acc.length ≤ 1000000000) (hs : s.size ≤ 1000000000) :
    Calls Tryz.prog 73 #[.pointer (some ⟨w.heap.size, 0, none⟩), .string s] wr fun e w' => e = .returned (.tuple #[.int .i64 s.size, .nilIface]) ∧ BuiltAt w w' (acc ++ bl s) := by
  refine (bstr_any w.heap.size w.heap.size _ s wr h.1 (by rw [byteCells_len]; omega) h.2.size).mono ?_
  rintro e w' ⟨rfl, h1, h2⟩
  refine ⟨rfl, .inr ?_, h.2.trans h2⟩
  rw [Lib.byteCells_append, ← strCells_ba (bl s), ba_bl]
  exact h1
theorem wend (w wr : World) (acc : List UInt8) (h : BuiltAt w wr acc) :
    Calls Tryz.prog 74 #[.pointer (some ⟨w.heap.size, 0, none⟩)] wr fun e w' => e = .returned (.string (ba acc)) ∧ Below w.heap.size w w' := by
  refine (Tryz.Builder_String_any w.heap.size w.heap.size acc wr h.1 h.2.size).mono ?_
  rintro e w' ⟨rfl, h2⟩
  exact ⟨rfl, h.2.trans h2⟩
theorem atB_below {T e : TypeId} {B b : Nat} {p : Value} {bs : List Value} {w w' : World} (h : Lib.BuilderAt T e B b p bs w) (hb : Below w.heap.size w w') : Lib.BuilderAt T e B b p bs w' := by
  have hl := h.lt
  obtain ⟨h1, v, h2, h3, h4⟩ := h
  refine ⟨h1, v, (hb.block b hl).trans h2, ?_, h4⟩
  rcases h3.2 with ⟨e1, e2⟩ | ⟨g, cap, cur, e1, e2, e3, e4, e5, e6, e7⟩
  · exact ⟨h3.1, .inl ⟨e1, e2⟩⟩
  · exact ⟨h3.1, .inr ⟨g, cap, cur, e1, e2, (hb.block g (Array.getElem?_eq_some_iff.1 e3).1).trans e3, e4, e5, e6, e7⟩⟩
theorem BuiltAt.kept {w wr w' : World} {acc : List UInt8} (h : BuiltAt w wr acc) (hb : Below wr.heap.size wr w') : BuiltAt w w' acc := by
  refine ⟨?_, h.2.trans (hb.mono h.2.size)⟩
  rcases h.1 with h1 | h1
  · exact .inl (atB_below h1 hb)
  · exact .inr (atB_below h1 hb)
theorem BuiltAt.lt {w wr : World} {acc : List UInt8} (h : BuiltAt w wr acc) : w.heap.size < wr.heap.size := by
  rcases h.1 with h1 | h1
  · exact h1.lt
  · exact h1.lt
/-- What a builder's write leaves alone. -/
abbrev Rest (b : Nat) (w w' : World) : Prop := Lib.OthersKept 5 (some b) w w'
theorem wbyteK (w wr : World) (acc : List UInt8) (n : Int) (c : UInt8) (hn : (c.toNat : Int) = n) (h : BuiltAt w wr acc) (hl : acc.length ≤ 1000000000) :
    Calls Tryz.prog 184 #[.pointer (some ⟨w.heap.size, 0, none⟩), .int .u8 n] wr fun e w' => e = .returned .nilIface ∧ BuiltAt w w' (acc ++ [c]) ∧ Rest w.heap.size wr w' := by
  subst hn
  refine (bbyteK_any w.heap.size w.heap.size _ (c.toNat : Int) wr h.1 (by rw [byteCells_len]; omega) h.2.size).mono ?_
  rintro e w' ⟨rfl, h1, h2, h3⟩
  refine ⟨rfl, ⟨.inr ?_, h.2.trans h2⟩, h3⟩
  rw [Lib.byteCells_append]
  exact h1
end Go.Proofs.YtegbkfloiiilfaaGreatDoor.Lex

/-
  Walks: which bytes stand in atoms; folds; the parts of quoted texts and comments; the size of an atom.
-/
namespace Go.Proofs.YtegbkfloiiilfaaGreatDoor.Lex
open Go.RowKit

theorem am_eq (c : Int) (h0 : 0 ≤ c) : amN c.toNat = ((decide (97 ≤ c) && decide (c ≤ 122)) || ((decide (65 ≤ c) && decide (c ≤ 90)) || ((decide (48 ≤ c) && decide (c ≤ 57)) || (decide (127 < c) || marks.contains c.toNat)))) := by
  unfold amN
  have e1 : decide (97 ≤ c.toNat) = decide (97 ≤ c) := decide_eq_decide.2 (by omega)
  have e2 : decide (c.toNat ≤ 122) = decide (c ≤ 122) := decide_eq_decide.2 (by omega)
  have e3 : decide (65 ≤ c.toNat) = decide (65 ≤ c) := decide_eq_decide.2 (by omega)
  have e4 : decide (c.toNat ≤ 90) = decide (c ≤ 90) := decide_eq_decide.2 (by omega)
  have e5 : decide (48 ≤ c.toNat) = decide (48 ≤ c) := decide_eq_decide.2 (by omega)
  have e6 : decide (c.toNat ≤ 57) = decide (c ≤ 57) := decide_eq_decide.2 (by omega)
  have e7 : decide (127 < c.toNat) = decide (127 < c) := decide_eq_decide.2 (by omega)
  rw [e1, e2, e3, e4, e5, e6, e7]
theorem am_way (c : Int) : ∃ a0 a1 b0 b1 c0 c1 d0 : Bool, decide (97 ≤ c) = a0 ∧ decide (c ≤ 122) = a1 ∧ decide (65 ≤ c) = b0 ∧ decide (c ≤ 90) = b1 ∧ decide (48 ≤ c) = c0 ∧ decide (c ≤ 57) = c1 ∧ decide (127 < c) = d0 :=
  ⟨_, _, _, _, _, _, _, rfl, rfl, rfl, rfl, rfl, rfl, rfl⟩
set_option maxRecDepth 100000 in
set_option maxHeartbeats 1000000 in
theorem atom_any (c : Int) (w : World) (h0 : 0 ≤ c) (h1 : c < 256) :
    Calls Tryz.prog 131 #[.int .u8 c] w fun e w' => e = .returned (.bool (amN c.toNat)) ∧ w = w' := by
  have HX := Lib.hid (fun W => index_any markB c W)
  have e := Lib.hid (mark_index c.toNat (by omega))
  have ea := Lib.hid (am_eq c h0)
  generalize Lib.indexByte markB.data.toList c.toNat.toUInt8 = v at *
  generalize marks.contains c.toNat = m at *
  by_cases k0 : 97 ≤ c <;> by_cases k1 : c ≤ 122 <;> by_cases k2 : 65 ≤ c <;> by_cases k3 : c ≤ 90 <;> by_cases k4 : 48 ≤ c <;> by_cases k5 : c ≤ 57 <;> by_cases k6 : 127 < c
  all_goals first | (exfalso; omega) | skip
  all_goals
    simp only [k0, k1, k2, k3, k4, k5, k6, decide_true, decide_false, Bool.and_true, Bool.and_false, Bool.true_or, Bool.false_or] at ea
    go_enter Tryz.func131, Tryz.ntmps131
    go_wp2_with fail
  all_goals first
    | (go_ret; exact ⟨ret_bool ea.out.symm, rfl⟩)
    | (refine (HX.out _).mono ?_
       rintro e' w1 ⟨rfl, rfl⟩
       go_wp2
       go_ret
       exact ⟨ret_bool (e.out.trans ea.out.symm), rfl⟩)
set_option maxRecDepth 100000 in
set_option maxHeartbeats 400000 in
theorem prefixL_any (s p : ByteArray) (w : World) (b : Bool) (hb : ((bl s).take p.size == bl p) = b) :
    Calls Tryz.prog 160 #[.string s, .string p] w fun e w' => e = .returned (.bool b) ∧ w = w' := by
  by_cases h : p.size ≤ s.size
  · have h' : (p.size : Int) ≤ (s.size : Int) := by omega
    have e : ((s.extract 0 p.size).toList == p.toList) = b := by
      rw [Lib.toList_data, Lib.toList_data, ← hb, show (s.extract 0 p.size).data.toList = bl (s.extract 0 p.size) from rfl, bl_extract]
      simp
    have he := Lib.hid e
    clear e hb
    go_enter Tryz.func160, Tryz.ntmps160
    go_wp2
    go_ret
    exact ⟨ret_bool he.out, rfl⟩
  · have h' : ¬ (p.size : Int) ≤ (s.size : Int) := by omega
    have e : Hid (b = false) := by
      refine Lib.hid ?_
      rw [← hb, beq_eq_false_iff_ne]
      intro hp
      have := congrArg List.length hp
      rw [List.length_take, bl_len, bl_len] at this
      omega
    clear hb
    go_enter Tryz.func160, Tryz.ntmps160
    go_wp2
    go_ret
    exact ⟨ret_bool e.out.symm, rfl⟩
set_option maxRecDepth 100000 in
set_option maxHeartbeats 400000 in
theorem prefix_any (s p : ByteArray) (w : World) (b : Bool) (hb : ((bl s).take p.size == bl p) = b) :
    Calls Tryz.prog 145 #[.string s, .string p] w fun e w' => e = .returned (.bool b) ∧ w = w' := by
  have HP := Lib.hid (fun W => prefixL_any s p W b hb)
  clear hb
  go_enter Tryz.func145, Tryz.ntmps145
  go_wp2_with fail
  refine (HP.out _).mono ?_
  rintro e w' ⟨rfl, rfl⟩
  go_wp2
  go_ret
  exact ⟨rfl, rfl⟩
theorem fold_short {l : List UInt8} (h : l.length ≤ 2) : fold l = false := by
  match l, h with
  | [], _ => rfl
  | [_], _ => rfl
  | [_, _], _ => rfl
  | _ :: _ :: _ :: _, h => simp at h
theorem fold_long (s : ByteArray) (h : 2 < s.size) : fold (bl s) = (((bl s).take 2 == [13, 10]) && bkN s[2].toNat) := by
  have e0 := drop_cons s 0 (by omega)
  have e1 := drop_cons s 1 (by omega)
  have e2 := drop_cons s 2 h
  rw [List.drop_zero] at e0
  rw [show 0 + 1 = 1 from rfl, e1, show 1 + 1 = 2 from rfl, e2] at e0
  rw [e0]
  have ht : ∀ a b : UInt8, ([a, b] == [13, 10]) = (a.toNat == 13 && b.toNat == 10) := by
    intro a b
    rw [Bool.eq_iff_iff]
    simp only [beq_iff_eq, Bool.and_eq_true, List.cons.injEq, and_true]
    constructor
    · rintro ⟨rfl, rfl⟩; exact ⟨rfl, rfl⟩
    · rintro ⟨h1, h2⟩; exact ⟨UInt8.toNat.inj h1, UInt8.toNat.inj h2⟩
  show (s[0].toNat == 13 && (s[1].toNat == 10 && bk s[2])) = ([s[0], s[1]] == [13, 10] && bkN s[2].toNat)
  rw [ht, Bool.and_assoc]
  rfl
def crlf : ByteArray := ⟨#[13, 10]⟩
set_option maxRecDepth 100000 in
set_option maxHeartbeats 1000000 in
theorem isFold_any (s : ByteArray) (w : World) (_hs : s.size ≤ 1000000000) :
    Calls Tryz.prog 127 #[.string s] w fun e w' => e = .returned (.bool (fold (bl s))) ∧ w = w' := by
  by_cases h : 2 < s.size
  · have h' : decide ((2 : Int) < (s.size : Int)) = true := decide_eq_true (by omega)
    have hc : ∃ c : UInt8, c = s[2] := ⟨_, rfl⟩
    have h8 : s[2].toNat < 256 := s[2].toNat_lt
    have e := Lib.hid (fold_long s h)
    have HB := Lib.hid (fun W => blank_any (s[2].toNat : Int) W (by omega) (by omega))
    cases ht : (bl s).take 2 == [13, 10]
    · have HP := Lib.hid (fun W => prefix_any s crlf W false ht)
      rw [ht] at e
      clear ht
      go_enter Tryz.func127, Tryz.ntmps127
      go_wp2_with fail
      refine (HP.out _).mono ?_
      rintro e' w1 ⟨rfl, rfl⟩
      go_wp2
      go_ret
      exact ⟨ret_bool e.out.symm, rfl⟩
    · have HP := Lib.hid (fun W => prefix_any s crlf W true ht)
      rw [ht] at e
      clear ht
      go_enter Tryz.func127, Tryz.ntmps127
      go_wp2_with fail
      refine (HP.out _).mono ?_
      rintro e' w1 ⟨rfl, rfl⟩
      go_wp2_with fail
      refine (HB.out _).mono ?_
      rintro e' w1 ⟨rfl, rfl⟩
      go_wp2
      go_ret
      exact ⟨ret_bool e.out.symm, rfl⟩
  · have h' : decide ((2 : Int) < (s.size : Int)) = false := decide_eq_false (by omega)
    have e := Lib.hid (fold_short (l := bl s) (by rw [bl_len]; omega))
    go_enter Tryz.func127, Tryz.ntmps127
    go_wp2
    go_ret
    exact ⟨ret_bool e.out.symm, rfl⟩
end Go.Proofs.YtegbkfloiiilfaaGreatDoor.Lex

/-
  Walks: the parts of quoted texts and comments; the size of an atom; IsAtom; the document's tests of bytes.
-/
namespace Go.Proofs.YtegbkfloiiilfaaGreatDoor.Lex
open Go.RowKit

theorem str_part (s : ByteArray) (a b : Nat) : s.extract a b = ba (((bl s).drop a).take (b - a)) := by rw [← bl_extract, ba_bl]
theorem tup3 {a b : ByteArray} {m n x y : Int} (h : a = b) (h2 : m = n) (h3 : x = y) : Ending.returned (.tuple #[.string a, .int .i64 m, .int .i64 x]) = .returned (.tuple #[.string b, .int .i64 n, .int .i64 y]) := by rw [h, h2, h3]
set_option maxRecDepth 100000 in
set_option maxHeartbeats 2000000 in
theorem inner_any (s : ByteArray) (w : World) (h0 : 0 < s.size) (hs : s.size ≤ 1000000000) :
    Calls Tryz.prog 146 #[.string s] w fun e w' => e = .returned (.tuple #[.string (ba (innerL (bl s)).1), .int .i64 (innerL (bl s)).2.1, .int .i64 (innerL (bl s)).2.2]) ∧ w = w' := by
  have HF := Lib.hid (fun W => isFold_any s W hs)
  cases hf : fold (bl s)
  · rw [hf] at HF
    have e0 := drop_cons s 0 h0
    rw [List.drop_zero] at e0
    by_cases h92 : ((s[0].toNat : Int) == 92) = true
    · have h92' : ((s[0].toNat : Int) != 92) = false := by simpa using h92
      by_cases h1 : 1 < s.size
      · have e1 := drop_cons s 1 h1
        have hn1 : ((s.size : Int) == 1) = false := by simp; omega
        have h8 : s[1].toNat < 256 := s[1].toNat_lt
        have HT := Lib.hid (fun W => text_any (s[1].toNat : Int) W (by omega) (by omega))
        have e : innerL (bl s) = if tx s[1] = true then ([s[1]], 2, 0) else ([], 0, 3) := by
          unfold innerL
          rw [hf, if_neg (by decide), e0, e1]
          show (if s[0].toNat = 92 then _ else _) = _
          rw [if_pos (by have := beq_iff_eq.1 h92; omega)]
        cases ht : tx s[1]
        · rw [ht, if_neg (by decide)] at e
          have HE := Lib.hid e
          rw [show txN (s[1].toNat : Int).toNat = false from ht] at HT
          clear e e0 e1 ht hf
          go_enter Tryz.func146, Tryz.ntmps146
          go_wp2_with fail
          refine (HF.out _).mono ?_
          rintro e' w1 ⟨rfl, rfl⟩
          go_wp2_with fail
          refine (HT.out _).mono ?_
          rintro e' w1 ⟨rfl, rfl⟩
          go_wp2
          go_ret3
          rw [HE.out]
          exact ⟨rfl, rfl⟩
        · rw [ht, if_pos rfl] at e
          have HE := Lib.hid e
          rw [show txN (s[1].toNat : Int).toNat = true from ht] at HT
          have HP := Lib.hid (show s.extract 1 2 = ba [s[1]] by rw [str_part, e1]; rfl)
          clear e e0 e1 ht hf
          go_enter Tryz.func146, Tryz.ntmps146
          go_wp2_with fail
          refine (HF.out _).mono ?_
          rintro e' w1 ⟨rfl, rfl⟩
          go_wp2_with fail
          refine (HT.out _).mono ?_
          rintro e' w1 ⟨rfl, rfl⟩
          go_wp2
          go_ret3
          rw [HE.out, HP.out]
          exact ⟨rfl, rfl⟩
      · have hn1 : ((s.size : Int) == 1) = true := by simp; omega
        have e1 := drop_end s 1 h1
        have e : innerL (bl s) = ([], 0, 9) := by
          unfold innerL
          rw [hf, if_neg (by decide), e0, e1]
          show (if s[0].toNat = 92 then _ else _) = _
          rw [if_pos (by have := beq_iff_eq.1 h92; omega)]
        have HE := Lib.hid e
        clear e e0 e1 hf
        go_enter Tryz.func146, Tryz.ntmps146
        go_wp2_with fail
        refine (HF.out _).mono ?_
        rintro e' w1 ⟨rfl, rfl⟩
        go_wp2
        go_ret3
        rw [HE.out]
        exact ⟨rfl, rfl⟩
    · have h92f : ((s[0].toNat : Int) == 92) = false := by simpa using h92
      have h92' : ((s[0].toNat : Int) != 92) = true := by simpa using h92
      have h8 : s[0].toNat < 256 := s[0].toNat_lt
      have HT := Lib.hid (fun W => text_any (s[0].toNat : Int) W (by omega) (by omega))
      have e : innerL (bl s) = if tx s[0] = true then ([s[0]], 1, 0) else ([], 0, 3) := by
        unfold innerL
        rw [hf, if_neg (by decide), e0]
        cases (bl s).drop (0 + 1) with
        | nil =>
          show (if s[0].toNat = 92 then _ else _) = _
          rw [if_neg (by have := beq_eq_false_iff_ne.1 h92f; omega)]
        | cons c t =>
          show (if s[0].toNat = 92 then _ else _) = _
          rw [if_neg (by have := beq_eq_false_iff_ne.1 h92f; omega)]
      clear h92
      cases ht : tx s[0]
      · rw [ht, if_neg (by decide)] at e
        have HE := Lib.hid e
        rw [show txN (s[0].toNat : Int).toNat = false from ht] at HT
        clear e e0 ht hf
        go_enter Tryz.func146, Tryz.ntmps146
        go_wp2_with fail
        refine (HF.out _).mono ?_
        rintro e' w1 ⟨rfl, rfl⟩
        go_wp2_with fail
        refine (HT.out _).mono ?_
        rintro e' w1 ⟨rfl, rfl⟩
        go_wp2
        go_ret3
        rw [HE.out]
        exact ⟨rfl, rfl⟩
      · rw [ht, if_pos rfl] at e
        have HE := Lib.hid e
        rw [show txN (s[0].toNat : Int).toNat = true from ht] at HT
        have HP := Lib.hid (show s.extract 0 1 = ba [s[0]] by rw [str_part, List.drop_zero, e0]; rfl)
        clear e e0 ht hf
        go_enter Tryz.func146, Tryz.ntmps146
        go_wp2_with fail
        refine (HF.out _).mono ?_
        rintro e' w1 ⟨rfl, rfl⟩
        go_wp2_with fail
        refine (HT.out _).mono ?_
        rintro e' w1 ⟨rfl, rfl⟩
        go_wp2
        go_ret3
        rw [HE.out, HP.out]
        exact ⟨rfl, rfl⟩
  · rw [hf] at HF
    have HE := Lib.hid (inner_fold hf)
    clear hf
    go_enter Tryz.func146, Tryz.ntmps146
    go_wp2_with fail
    refine (HF.out _).mono ?_
    rintro e' w1 ⟨rfl, rfl⟩
    go_wp2
    go_ret3
    rw [HE.out]
    exact ⟨rfl, rfl⟩

/-- How many bytes an atom takes. -/
def atomN (l : List UInt8) : Nat := (l.takeWhile am).length
theorem atomN_le (l : List UInt8) : atomN l ≤ l.length := List.Sublist.length_le (List.takeWhile_sublist am)
theorem atomN_take (l : List UInt8) : l.take (atomN l) = l.takeWhile am := by
  have := List.takeWhile_append_dropWhile (p := am) (l := l)
  unfold atomN
  generalize List.takeWhile am l = x at *
  rw [← this, List.take_left' rfl]
theorem atomN_drop (l : List UInt8) : l.drop (atomN l) = l.dropWhile am := by
  have := List.takeWhile_append_dropWhile (p := am) (l := l)
  unfold atomN
  generalize List.takeWhile am l = x at *
  generalize List.dropWhile am l = y at *
  rw [← this, List.drop_left' rfl]
theorem atomN_all (l : List UInt8) : ∀ c ∈ l.take (atomN l), am c = true := by
  rw [atomN_take]
  have := List.all_takeWhile (p := am) (l := l)
  exact List.all_eq_true.1 this
theorem atomN_end (l : List UInt8) : ∀ c t, l.drop (atomN l) = c :: t → am c = false := by
  intro c t h
  rw [atomN_drop] at h
  have := List.head?_dropWhile_not (p := am) (l := l)
  rw [h] at this
  simpa using this
theorem atomN_stop {l : List UInt8} {k : Nat} {c : UInt8} {t : List UInt8} (h : ∀ d ∈ l.take k, am d = true) (hk : l.drop k = c :: t) (hc : am c = false) : atomN l = k := by
  have e : l = l.take k ++ c :: t := by rw [← hk, List.take_append_drop]
  have hl : k < l.length := by
    rcases Nat.lt_or_ge k l.length with h1 | h1
    · exact h1
    · rw [List.drop_eq_nil_of_le h1] at hk; cases hk
  have : l.takeWhile am = l.take k := by
    conv => lhs; rw [e]
    rw [List.takeWhile_append_of_pos h, List.takeWhile_cons_of_neg (by rw [hc]; decide), List.append_nil]
  unfold atomN
  rw [this, List.length_take]
  omega
theorem atomN_full {l : List UInt8} (h : ∀ d ∈ l, am d = true) : atomN l = l.length := by
  have := List.takeWhile_append_of_pos (l₂ := []) h
  rw [List.append_nil, List.takeWhile_nil, List.append_nil] at this
  unfold atomN
  rw [this]
theorem atom_all (l : List UInt8) : (atomN l = l.length) ↔ ∀ d ∈ l, am d = true := by
  constructor
  · intro h
    have := atomN_all l
    rw [h, List.take_length] at this
    exact this
  · exact atomN_full
theorem take_all {l : List UInt8} {k : Nat} {c : UInt8} {t : List UInt8} {p : UInt8 → Bool} (h : ∀ d ∈ l.take k, p d = true) (hk : l.drop k = c :: t) (hc : p c = true) : ∀ d ∈ l.take (k + 1), p d = true := by
  intro d hd
  have hl : k < l.length := by
    rcases Nat.lt_or_ge k l.length with h1 | h1
    · exact h1
    · rw [List.drop_eq_nil_of_le h1] at hk; cases hk
  rw [List.take_succ_eq_append_getElem hl] at hd
  rw [List.drop_eq_getElem_cons hl] at hk
  obtain ⟨e, _⟩ := List.cons.inj hk
  rcases List.mem_append.1 hd with h1 | h1
  · exact h d h1
  · rw [List.mem_singleton.1 h1, e]; exact hc
set_option maxRecDepth 100000 in
set_option maxHeartbeats 1000000 in
theorem atomSize_any (s : ByteArray) (w : World) (hs : s.size ≤ 1000000000) :
    Calls Tryz.prog 132 #[.string s] w fun e w' => e = .returned (.int .i64 (atomN (bl s))) ∧ w = w' := by
  go_enter Tryz.func132, Tryz.ntmps132
  go_wp2_with fail
  go_step3
  go_wp2_with fail
  go_step3
  go_wp2_with fail
  go_loopw [3] (fun i wr => ∃ k : Nat, k ≤ s.size ∧ i = .int .i64 k ∧ Hid (∀ d ∈ (bl s).take k, am d = true) ∧ wr = w) (fun i _ => s.size - (intOf i).toNat)
  case atStart => exact ⟨0, Nat.zero_le _, rfl, Lib.hid (by simp), rfl⟩
  case round =>
    obtain ⟨k, hk, rfl, hall, rfl⟩ := hrel
    by_cases hlt : k < s.size
    · have h8 : s[k].toNat < 256 := s[k].toNat_lt
      have HA := Lib.hid (fun W => atom_any (s[k].toNat : Int) W (by omega) (by omega))
      have hd := drop_cons s k hlt
      cases ha : am s[k]
      · rw [show amN (s[k].toNat : Int).toNat = false from ha] at HA
        have HE := Lib.hid (atomN_stop hall.out hd ha)
        clear ha hd
        go_wp2_with fail
        refine (HA.out _).mono ?_
        rintro e' w1 ⟨rfl, rfl⟩
        go_wp2
        rw [Exit.noGoto_ret]
        go_ret
        rw [HE.out]
        exact ⟨rfl, rfl⟩
      · rw [show amN (s[k].toNat : Int).toNat = true from ha] at HA
        have HN := Lib.hid (take_all hall.out hd ha)
        clear ha hd
        go_wp2_with fail
        refine (HA.out _).mono ?_
        rintro e' w1 ⟨rfl, rfl⟩
        go_wp2
        go_roundw
        case rel => exact ⟨k + 1, by omega, by simp, HN, trivial⟩
        case measure => simp [intOf]; omega
    · have HE : Hid (atomN (bl s) = k) := Lib.hid (by
        have h1 : (bl s).take k = bl s := List.take_of_length_le (by rw [bl_len]; omega)
        have h2 := hall.out
        rw [h1] at h2
        rw [atomN_full h2, bl_len]
        omega)
      go_wp2
      rw [Exit.noGoto_ret]
      go_ret
      rw [HE.out]
      exact ⟨rfl, rfl⟩
set_option maxRecDepth 100000 in
set_option maxHeartbeats 1000000 in
theorem isAtom_any (s : ByteArray) (w : World) (hs : s.size ≤ 1000000000) :
    Calls Tryz.prog 183 #[.string s] w fun e w' => e = .returned (.bool (atomB (bl s))) ∧ w = w' := by
  have HA := Lib.hid (fun W => atomSize_any s W hs)
  by_cases h0 : s.size = 0
  · have hq : s.toList.isEmpty = true := by
      rw [Lib.toList_data, List.isEmpty_iff]
      exact List.length_eq_zero_iff.1 (by rw [bl_len]; exact h0)
    have HE : Hid (atomB (bl s) = false) := Lib.hid (by
      have : bl s = [] := List.length_eq_zero_iff.1 (by rw [bl_len]; exact h0)
      rw [this]; rfl)
    go_enter Tryz.func183, Tryz.ntmps183
    go_wp2
    go_ret
    rw [HE.out]
    exact ⟨rfl, rfl⟩
  · have hq : s.toList.isEmpty = false := by
      rw [Lib.toList_data, List.isEmpty_eq_false_iff]
      intro e
      exact h0 (by rw [← bl_len, show bl s = [] from e]; rfl)
    have hne : bl s ≠ [] := by intro e; exact h0 (by rw [← bl_len, e]; rfl)
    have hle := atomN_le (bl s)
    rw [bl_len] at hle
    cases hb : atomB (bl s)
    · have hE : atomN (bl s) ≠ s.size := by
        intro e
        have h1 : ∀ d ∈ bl s, am d = true := (atom_all (bl s)).1 (by rw [e, bl_len])
        rw [atomB_iff.2 ⟨hne, h1⟩] at hb
        cases hb
      have he : ((atomN (bl s) : Int) == (s.size : Int)) = false := by
        rw [beq_eq_false_iff_ne]; omega
      clear hb
      generalize atomN (bl s) = n at *
      go_enter Tryz.func183, Tryz.ntmps183
      go_wp2_with fail
      refine (HA.out _).mono ?_
      rintro e' w1 ⟨rfl, rfl⟩
      go_wp2
      go_ret
      exact ⟨rfl, rfl⟩
    · have hE : atomN (bl s) = s.size := by
        rw [← bl_len]
        exact (atom_all (bl s)).2 (atomB_iff.1 hb).2
      rw [hE] at HA
      clear hb hE hle
      go_enter Tryz.func183, Tryz.ntmps183
      go_wp2_with fail
      refine (HA.out _).mono ?_
      rintro e' w1 ⟨rfl, rfl⟩
      go_wp2
      go_ret
      exact ⟨rfl, rfl⟩
end Go.Proofs.YtegbkfloiiilfaaGreatDoor.Lex

/-
  Tokens in memory: two cells each; lists of them, read and appended to.
-/
namespace Go.Proofs.YtegbkfloiiilfaaGreatDoor.Lex
open Go Go.RowKit

theorem addr_add (b off j : Nat) : (⟨b, off, none⟩ : Addr).add j = ⟨b, off + j, none⟩ := by unfold Addr.add; split <;> simp_all

/-- A block of memory that lies there whole, and may be written. -/
def Lies (w : World) (b : Nat) (cs : Array Value) (t : TypeId) : Prop := w.heap[b]? = some (.cells cs t (0, 0))
section
variable {w w' : World} {b c i : Nat} {cs : Array Value} {t : TypeId}
theorem Lies.lt (h : Lies w b cs t) : b < w.heap.size := by
  by_cases hl : b < w.heap.size
  · exact hl
  · have : w.heap[b]? = none := by simp; omega
    rw [Lies, this] at h
    cases h
theorem Lies.cell (h : Lies w b cs t) (j : Nat) : w.cell? ⟨b, j, none⟩ = cs[j]? := cell_of_row w b j cs t (0, 0) h
theorem Lies.free (h : Lies w b cs t) (j : Nat) : w.frozen? ⟨b, j, none⟩ = false := frozen_of_row w b j cs t h
theorem Lies.same (h : Lies w b cs t) (e : w'.heap[b]? = w.heap[b]?) : Lies w' b cs t := e.trans h
theorem Lies.new (w : World) (cs : Array Value) (t : TypeId) : Lies (w.alloc (.cells cs t)) w.heap.size cs t := heap_alloc_new w _
theorem Lies.set (h : Lies w b cs t) (i : Nat) (v : Value) : Lies (w.setCell ⟨b, i, none⟩ v) b (cs.setIfInBounds i v) t := heap_setCell_same w b i cs t v h
theorem Lies.other (h : Lies w b cs t) (v : Value) (hne : b ≠ c) : Lies (w.setCell ⟨c, i, none⟩ v) b cs t := by
  unfold Lies
  rw [heap_setCell_other w ⟨c, i, none⟩ b v hne]; exact h
end

/-- What of the blocks that were there may have turned: those of F alone. -/
structure Fr (F : Nat → Prop) (w w' : World) : Prop where
  os : w'.os = w.os
  tape : w'.tape = w.tape
  output : w'.output = w.output
  size : w.heap.size ≤ w'.heap.size
  block : ∀ k, k < w.heap.size → ¬ F k → w'.heap[k]? = w.heap[k]?
theorem Fr.refl (F : Nat → Prop) (w : World) : Fr F w w := ⟨rfl, rfl, rfl, Nat.le_refl _, fun _ _ _ => rfl⟩
theorem Fr.trans {F F' : Nat → Prop} {a b c : World} (h : Fr F a b) (k : Fr F' b c) (hF : ∀ i, i < a.heap.size → F' i → F i) : Fr F a c :=
  ⟨k.os.trans h.os, k.tape.trans h.tape, k.output.trans h.output, Nat.le_trans h.size k.size, fun i hi hn => (k.block i (Nat.lt_of_lt_of_le hi h.size) fun e => hn (hF i hi e)).trans (h.block i hi hn)⟩
theorem Fr.mono {F F' : Nat → Prop} {a b : World} (h : Fr F a b) (hF : ∀ i, i < a.heap.size → F i → F' i) : Fr F' a b :=
  ⟨h.os, h.tape, h.output, h.size, fun i hi hn => h.block i hi fun e => hn (hF i hi e)⟩
theorem Fr.of_below {F : Nat → Prop} {w w' : World} (h : Below w.heap.size w w') : Fr F w w' := ⟨h.os, h.tape, h.output, h.size, fun k hk _ => h.block k hk⟩
theorem Fr.below {F : Nat → Prop} {w w' : World} {B : Nat} (h : Fr F w w') (hB : B ≤ w.heap.size) (hF : ∀ k, F k → B ≤ k) : Below B w w' :=
  ⟨h.os, h.tape, h.output, h.size, fun k hk => h.block k (by omega) fun e => by have := hF k e; omega⟩
theorem Fr.setCell {F : Nat → Prop} {a w : World} (h : Fr F a w) {b i : Nat} (hb : b < a.heap.size → F b) (v : Value) : Fr F a (w.setCell ⟨b, i, none⟩ v) :=
  ⟨h.os, h.tape, h.output, by simpa [World.setCell] using h.size, fun k hk hn => (Below.heap_setCell _ _ _ _ (fun e => hn (by subst e; exact hb hk))).trans (h.block k hk hn)⟩
theorem Fr.one (w : World) (b i : Nat) (v : Value) : Fr (fun k => k = b) w (w.setCell ⟨b, i, none⟩ v) := Fr.setCell (F := fun k => k = b) (Fr.refl _ w) (fun _ => rfl) v
theorem Fr.alloc {F : Nat → Prop} {a w : World} (h : Fr F a w) (o : Obj) : Fr F a (w.alloc o) :=
  ⟨h.os, h.tape, h.output, by simpa using Nat.le_succ_of_le h.size, fun k hk hn => (Below.heap_alloc _ _ _ (Nat.lt_of_lt_of_le hk h.size)).trans (h.block k hk hn)⟩
theorem Fr.drew {F : Nat → Prop} {a w : World} (h : Fr F a w) : Fr F a w.drew := ⟨h.os, h.tape, h.output, h.size, h.block⟩
theorem Fr.drewN {F : Nat → Prop} {a w : World} (h : Fr F a w) (n : Nat) : Fr F a (w.drewN n) :=
  h.trans (Fr.of_below (F := fun _ => False) (below_drewN (Below.refl _ _) n)) fun _ _ e => e.elim
theorem Fr.grown {F : Nat → Prop} {a w w' : World} {row : Option Nat} (h : Fr F a w) (hg : w.grownBy w' row) (hr : ∀ k, row = some k → k < a.heap.size → F k) : Fr F a w' :=
  ⟨hg.os.trans h.os, hg.tape.trans h.tape, hg.output.trans h.output, Nat.le_trans h.size hg.size, fun k hk hn => (hg.block k (Nat.lt_of_lt_of_le hk h.size) fun e => hn (hr k e.symm hk)).trans (h.block k hk hn)⟩
theorem Fr.owns {F : Nat → Prop} {w w' : World} {B : Nat} {t : TypeId} {z n : Nat} {v : Value} {xs : List Value} (h : w.ownsRow B t z v n xs) (hf : Fr F w w') (hn : ∀ k, v.ownBlock = some k → ¬ F k) : w'.ownsRow B t z v n xs := by
  refine ⟨h.1, ?_⟩
  rcases h.2 with h2 | ⟨g, cap, cur, rfl, hb, hg, r⟩
  · exact .inl h2
  · refine .inr ⟨g, cap, cur, rfl, hb, ?_, r⟩
    rw [hf.block g (Array.getElem?_eq_some_iff.1 hg).1 (hn g rfl)]
    exact hg
theorem owns_set {w : World} {B : Nat} {t : TypeId} {z n : Nat} {v : Value} {xs : List Value} (h : w.ownsRow B t z v n xs) {g : Nat} (hg : v.ownBlock = some g) (i : Nat) (x : Value) (_hi : i < n * z) : (w.setCell ⟨g, i, none⟩ x).ownsRow B t z v n (xs.set i x) := by
  refine ⟨by rw [List.length_set]; exact h.1, ?_⟩
  rcases h.2 with ⟨rfl, _⟩ | ⟨g', cap, cur, rfl, hb, hh, h1, h2, h3, h4⟩
  · cases hg
  · obtain rfl : g' = g := by simpa [Value.ownBlock] using hg
    refine .inr ⟨g', cap, cur.setIfInBounds i x, rfl, hb, heap_setCell_same w g' i cur t x hh, h1, h2, by rw [Array.size_setIfInBounds]; exact h3, ?_⟩
    rw [Array.toList_setIfInBounds, List.take_set, h4]
theorem owns_slice {w : World} {B : Nat} {t : TypeId} {z n : Nat} {v : Value} {xs : List Value} (h : w.ownsRow B t z v n xs) : ∃ a c, v = .slice a n c := by
  rcases h.2 with ⟨rfl, rfl⟩ | ⟨g, cap, cur, rfl, _⟩
  · exact ⟨_, _, rfl⟩
  · exact ⟨_, _, rfl⟩


theorem range_below {w w' : World} {b o : Nat} {cs : List Value} (h : w.rangeAt b o cs) (hl : b < w.heap.size) (hb : Below w.heap.size w w') : w'.rangeAt b o cs := fun j v hv => by
  rw [hb.cell (p := ⟨b, o + j, none⟩) hl]
  exact h j v hv
theorem owns_below {w w' : World} {B : Nat} {e : TypeId} {z : Nat} {v : Value} {n : Nat} {xs : List Value} (h : w.ownsRow B e z v n xs) (hb : Below w.heap.size w w') : w'.ownsRow B e z v n xs :=
  Fr.owns (F := fun _ => False) h (Fr.of_below hb) (fun _ _ e => e)

abbrev tkT : TypeId := 164
abbrev tksT : TypeId := 139
abbrev rfT : TypeId := 146
abbrev rfsT : TypeId := 114
def tkC (p : Tk) : List Value := [.int .i64 p.kind, .string p.text]
abbrev tkV (p : Tk) : Value := .agg #[.int .i64 p.kind, .string p.text]
abbrev boxT (t : TypeId) (p : Tk) : Obj := .cells #[.int .i64 p.kind, .string p.text] t
theorem tkC_length (p : Tk) : (tkC p).length = 2 := rfl
theorem flat2_length (q : List Tk) : (q.flatMap tkC).length = q.length * 2 := by
  induction q with
  | nil => rfl
  | cons e q ih => rw [List.flatMap_cons, List.length_append, ih, tkC_length, List.length_cons]; omega
theorem flat2_get : ∀ (q : List Tk) (i : Nat) (e : Tk), q[i]? = some e → ∀ j, j < 2 → (q.flatMap tkC)[i * 2 + j]? = (tkC e)[j]?
  | [], _, _, h, _, _ => by simp at h
  | x :: q, 0, e, h, j, hj => by
    obtain rfl : x = e := by simpa using h
    rw [List.flatMap_cons, List.getElem?_append_left (by rw [tkC_length]; omega)]
    simp
  | x :: q, i + 1, e, h, j, hj => by
    rw [List.flatMap_cons, List.getElem?_append_right (by rw [tkC_length]; omega), tkC_length, show (i + 1) * 2 + j - 2 = i * 2 + j by omega]
    exact flat2_get q i e (by simpa using h) j hj
theorem flat2_snoc (l : List Tk) (e : Tk) : (l ++ [e]).flatMap tkC = l.flatMap tkC ++ tkC e := by simp
theorem one_cell2 (c : Tk) : ∀ u ∈ tkC c, u.oneCell' = true := by
  intro u hu
  unfold tkC at hu
  simp only [List.mem_cons, List.not_mem_nil, or_false] at hu
  rcases hu with rfl | rfl <;> rfl
theorem flat2_one (q : List Tk) : ∀ u ∈ q.flatMap tkC, u.oneCell' = true := by
  intro u hu
  obtain ⟨c, _, hc⟩ := List.mem_flatMap.1 hu
  exact one_cell2 c u hc
theorem two {w : World} {b o : Nat} {e : Tk} (h : w.rangeAt b o (tkC e)) : w.cell? ⟨b, o, none⟩ = some (.int .i64 e.kind) ∧ w.cell? ⟨b, o + 1, none⟩ = some (.string e.text) := ⟨h 0 _ rfl, h 1 _ rfl⟩

/-- The value is a slice that reads as these tokens. -/
def ReadsT (w : World) (v : Value) (q : List Tk) : Prop :=
  (∃ a cap, v = .slice a 0 cap ∧ q = []) ∨
  (∃ b off cap, v = .slice (some ⟨b, off, none⟩) q.length cap ∧ q.length ≤ cap ∧ cap ≤ 9223372036854775807 ∧ b < w.heap.size ∧ ∀ i e, q[i]? = some e → w.rangeAt b (off + i * 2) (tkC e))
section
variable {w w' : World} {v : Value} {q : List Tk}
theorem ReadsT.below (h : ReadsT w v q) (hb : Below w.heap.size w w') : ReadsT w' v q := by
  rcases h with h | ⟨b, off, cap, rfl, h1, h2, h3, h4⟩
  · exact .inl h
  · exact .inr ⟨b, off, cap, rfl, h1, h2, by have := hb.size; omega, fun i e hi => range_below (h4 i e hi) h3 hb⟩
theorem ReadsT.shape (h : ReadsT w v q) : ∃ a cap, v = .slice a q.length cap := by
  rcases h with ⟨a, cap, rfl, rfl⟩ | ⟨b, off, cap, rfl, _⟩
  · exact ⟨a, cap, rfl⟩
  · exact ⟨_, cap, rfl⟩
theorem nil_readsT (w : World) : ReadsT w (.slice none 0 0) [] := .inl ⟨_, _, rfl, rfl⟩
/-- Where the cells of an entry stand. -/
theorem ReadsT.at_ {a : Option Addr} {n cap : Nat} (h : ReadsT w (.slice a n cap) q) (i : Nat) (e : Tk) (hi : q[i]? = some e) : ∃ b off, a = some ⟨b, off, none⟩ ∧ b < w.heap.size ∧ w.rangeAt b (off + i * 2) (tkC e) := by
  rcases h with ⟨a', cap', he, rfl⟩ | ⟨b, off, cap', he, h1, h2, h3, h4⟩
  · simp at hi
  · obtain ⟨rfl, -, -⟩ := Value.slice.inj he
    exact ⟨b, off, rfl, h3, h4 i e hi⟩
end
theorem owns_readsT {w : World} {B : Nat} {t : TypeId} {v : Value} {q : List Tk} (h : w.ownsRow B t 2 v q.length (q.flatMap tkC)) : ReadsT w v q := by
  have hc := fun g hg => h.cells (g := g) hg
  have hlt := h.lt
  rcases h.2 with ⟨rfl, hn⟩ | ⟨g, cap, cur, rfl, hb, hg, h1, h2, _, _⟩
  · exact .inl ⟨_, _, rfl, List.length_eq_zero_iff.1 hn⟩
  · refine .inr ⟨g, 0, cap, rfl, h1, by unfold maxLen at h2; omega, (hlt g rfl).2, fun i e hi j v hv => ?_⟩
    have hj : j < 2 := by
      have := (List.getElem?_eq_some_iff.1 hv).1
      rw [tkC_length] at this
      exact this
    have e1 := hc g rfl (i * 2 + j) v (by rw [flat2_get q i e hi j hj]; exact hv)
    rw [addr_add] at e1
    rw [← e1]
    congr 2
    omega
theorem sizeT : (Tryz.prog.info? tkT).map (·.size) = some 2 := by kernel_rfl
theorem sizeF : (Tryz.prog.info? rfT).map (·.size) = some 2 := by kernel_rfl
theorem infoT : (Tryz.prog.info? tkT).map (fun i => (i.zero, i.size, i.bytes)) = some (some (.agg #[.int .i64 0, .string ⟨#[]⟩]), 2, 24) := by kernel_rfl
theorem infoF : (Tryz.prog.info? rfT).map (fun i => (i.zero, i.size, i.bytes)) = some (some (.agg #[.int .i64 0, .string ⟨#[]⟩]), 2, 24) := by kernel_rfl
theorem new_boxT (w : World) (t : TypeId) (c : Tk) : (w.alloc (boxT t c)).rangeAt w.heap.size 0 (tkC c) := by
  intro j u h
  have hb := heap_alloc_new w (boxT t c)
  simp only [World.cell?, hb, Nat.zero_add]
  unfold tkC at h
  match j, h with
  | 0, h => simpa using h
  | 1, h => simpa using h
  | j + 2, h => simp at h
/-- One token appended, as the program does it. -/
theorem append_oneT (mo : Nat) {us : List Tk} (hn : us.length = mo) (W : World) (B : Nat) (ou : Value) (y : Tk) (ho : W.ownsRow B tkT 2 ou mo (us.flatMap tkC)) (hl : mo ≤ 100000000) (hB : B ≤ W.heap.size) :
    ∃ a c w', (Builtin.append_ #[tksT, tksT] tksT #[ou, .slice (some ⟨W.heap.size, 0, none⟩) 1 1]).run Tryz.prog (W.alloc (boxT tkT y)) = .ok (.slice a (mo + 1) c) w' ∧
      Hid (w'.ownsRow B tkT 2 (.slice a (mo + 1) c) (mo + 1) ((us ++ [y]).flatMap tkC) ∧ Below B W w') := by
  subst hn
  have hal : Below B W (W.alloc (boxT tkT y)) := (Below.refl _ _).alloc hB _
  obtain ⟨i0, hi, hz0, hz1, hz2⟩ := info_parts infoT
  obtain ⟨v', w', hr, h2, h3, h4⟩ := run_append_own (P := Tryz.prog) (W.alloc (boxT tkT y)) B tksT tksT tkT i0 _ 2 24 Tryz.underlying139 hi hz0 hz1 hz2 rfl (by decide) ou us.length _ (ho.alloc _) ⟨W.heap.size, 0, none⟩ 1 1 (tkC y) rfl (fun j u hu => by rw [addr_add]; exact new_boxT W tkT y j u hu) (one_cell2 y) (by unfold maxLen; omega) (by omega) (by simp; omega)
  obtain ⟨a, c, rfl⟩ := owns_slice h2
  refine ⟨a, c, w', hr, Lib.hid ⟨?_, ?_⟩⟩
  · rw [flat2_snoc]; exact h2
  · exact hal.grown h3 (by simp; omega) fun k hk => ((ho.alloc (boxT tkT y)).lt k hk).1
/-- One token appended, as the document does it. -/
theorem append_oneF (mo : Nat) {us : List Tk} (hn : us.length = mo) (W : World) (B : Nat) (ou : Value) (y : Tk) (ho : W.ownsRow B rfT 2 ou mo (us.flatMap tkC)) (hl : mo ≤ 100000000) (hB : B ≤ W.heap.size) :
    ∃ a c w', (Builtin.append_ #[rfsT, rfsT] rfsT #[ou, .slice (some ⟨W.heap.size, 0, none⟩) 1 1]).run Tryz.prog (W.alloc (boxT rfT y)) = .ok (.slice a (mo + 1) c) w' ∧
      Hid (w'.ownsRow B rfT 2 (.slice a (mo + 1) c) (mo + 1) ((us ++ [y]).flatMap tkC) ∧ Below B W w') := by
  subst hn
  have hal : Below B W (W.alloc (boxT rfT y)) := (Below.refl _ _).alloc hB _
  obtain ⟨i0, hi, hz0, hz1, hz2⟩ := info_parts infoF
  obtain ⟨v', w', hr, h2, h3, h4⟩ := run_append_own (P := Tryz.prog) (W.alloc (boxT rfT y)) B rfsT rfsT rfT i0 _ 2 24 Tryz.underlying114 hi hz0 hz1 hz2 rfl (by decide) ou us.length _ (ho.alloc _) ⟨W.heap.size, 0, none⟩ 1 1 (tkC y) rfl (fun j u hu => by rw [addr_add]; exact new_boxT W rfT y j u hu) (one_cell2 y) (by unfold maxLen; omega) (by omega) (by simp; omega)
  obtain ⟨a, c, rfl⟩ := owns_slice h2
  refine ⟨a, c, w', hr, Lib.hid ⟨?_, ?_⟩⟩
  · rw [flat2_snoc]; exact h2
  · exact hal.grown h3 (by simp; omega) fun k hk => ((ho.alloc (boxT rfT y)).lt k hk).1
theorem append_noT {w : World} {B : Nat} {v : Value} {n cap : Nat} {a : Option Addr} {xs : List Value} (ho : w.ownsRow B tkT 2 v n xs) : (Builtin.append_ #[tksT, tksT] tksT #[v, .slice a 0 cap]).run Tryz.prog w = .ok v w := by
  obtain ⟨i, hi, _, hz1, _⟩ := info_parts infoT
  rcases ho.2 with ⟨rfl, rfl⟩ | ⟨g, c, cur, rfl, _, _, hnc, _⟩
  · cases a <;> simp [Builtin.append_, run_underlying Tryz.underlying139, sizeOf, typeInfo, hi, Builtin.lenOf, Builtin.firstCells, loadCells, loadCellsFrom]
  · cases a <;> simp [Builtin.append_, run_underlying Tryz.underlying139, sizeOf, typeInfo, hi, Builtin.lenOf, Builtin.firstCells, hnc, storeCells, loadCells, loadCellsFrom]
/-- A list appended to an owned list. -/
theorem append_listT (w : World) (B : Nat) (u v : Value) (us ps : List Tk) (ho : w.ownsRow B tkT 2 u us.length (us.flatMap tkC)) (hr : ReadsT w v ps) (hl : us.length ≤ 1000000) (hm : ps.length ≤ 1000000) (hB : B ≤ w.heap.size) :
    ∃ v' w', (Builtin.append_ #[tksT, tksT] tksT #[u, v]).run Tryz.prog w = .ok v' w' ∧
      Hid (w'.ownsRow B tkT 2 v' (us ++ ps).length ((us ++ ps).flatMap tkC) ∧ Below B w w') := by
  obtain ⟨i0, hi, hz0, hz1, hz2⟩ := info_parts infoT
  rcases hr with ⟨a, cap, rfl, rfl⟩ | ⟨b, off, cap, rfl, h1, h2, h3, h4⟩
  · exact ⟨u, w, append_noT ho, Lib.hid ⟨by simpa using ho, Below.refl _ _⟩⟩
  · obtain ⟨v', w', hr, h5, h6, _, h7⟩ := run_append_own_at (P := Tryz.prog) w B tksT tksT tkT i0 _ 2 24 Tryz.underlying139 hi hz0 hz1 hz2 rfl (by decide) u us.length _ ho ⟨b, off, none⟩ ps.length cap (ps.flatMap tkC) (flat2_length ps) (fun j x hx => by
      have hj := (List.getElem?_eq_some_iff.1 hx).1
      rw [flat2_length] at hj
      have hk : j / 2 < ps.length := by omega
      have e := flat2_get ps (j / 2) ps[j / 2] (List.getElem?_eq_getElem hk) (j % 2) (by omega)
      rw [show j / 2 * 2 + j % 2 = j by omega, hx] at e
      have := h4 (j / 2) _ (List.getElem?_eq_getElem hk) (j % 2) x e.symm
      rw [addr_add]
      rwa [show off + j / 2 * 2 + j % 2 = off + j by omega] at this) (flat2_one ps) (by unfold maxLen; omega) (by omega) hB
    refine ⟨v', w', hr, Lib.hid ⟨?_, (Below.refl _ w).grown h6 hB fun k hk => (ho.lt k hk).1⟩⟩
    rw [List.length_append, List.flatMap_append]
    exact h5
theorem results_tk3 {P : Program} {fn : Func} {p u u' : Tmp} {ty : TypeId} (h : fn.results = #[.cell p ty, .tmp u, .tmp u']) (tmps : Array Value) (w : World) (g : Nat) (t : TypeId) (cs : Array Value) (fr : Nat × Nat) (d : TypeDesc)
    (hp : tmps.getD p undef = .pointer (some ⟨g, 0, none⟩)) (hg : w.heap[g]? = some (.cells cs t fr))
    (hu : P.underlying ty = some d) (hd : (match d with | .struct _ | .array _ _ => true | _ => false) = true) (hi : (P.info? ty).map (·.size) = some cs.size) :
    (results fn tmps).run P w = .ok (.tuple #[.agg cs, tmps.getD u undef, tmps.getD u' undef]) w := by
  have hp' : tmps[p]?.getD undef = .pointer (some ⟨g, 0, none⟩) := by simpa using hp
  simp [results, h, hp', asAddr, run_loadVar_row w g t ty cs fr d hg hu hd hi]
end Go.Proofs.YtegbkfloiiilfaaGreatDoor.Lex
