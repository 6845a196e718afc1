/-
  A slice of bytes that the call made itself, out of a string or by append; one byte more.
-/
import Derived.Test.YtnndifkilcommaaDoorShaArr
import Derived.Laws.AppendOwn
import Derived.Laws.IdiomStrings
import Derived.Laws.BytesArg
import Derived.Lib.BufferWrite
import Derived.OwnWalk
namespace Go.Proofs.YtnndifkilcommaaDoor.Sha
open Go Go.RowKit

/-- The value is a slice over a block behind B, whose bytes are xs. -/
def OwnB (w : World) (B : Nat) (v : Value) (xs : List UInt8) : Prop :=
  ∃ g cap cur fz, v = .slice (some ⟨g, 0, none⟩) xs.length cap ∧ B ≤ g ∧ w.heap[g]? = some (.cells cur 5 fz) ∧ (fz.2 ≤ xs.length ∨ cur.size ≤ fz.1) ∧ xs.length ≤ cap ∧ cap ≤ maxLen ∧ cur.size = cap ∧ cur.toList.take xs.length = Lib.byteCells xs
theorem OwnB.alloc {w : World} {B : Nat} {v : Value} {xs : List UInt8} (h : OwnB w B v xs) (o : Obj) : OwnB (w.alloc o) B v xs := by
  obtain ⟨g, cap, cur, fz, hv, hB, hg, rest⟩ := h
  exact ⟨g, cap, cur, fz, hv, hB, (Below.heap_alloc w o g (Array.getElem?_eq_some_iff.1 hg).1).trans hg, rest⟩
theorem OwnB.cells {w : World} {g : Nat} {cur : Array Value} {fz : Nat × Nat} {xs : List UInt8} (hg : w.heap[g]? = some (.cells cur 5 fz)) (ht : cur.toList.take xs.length = Lib.byteCells xs) :
    ∀ j u, (Lib.byteCells xs)[j]? = some u → w.cell? ((⟨g, 0, none⟩ : Addr).add j) = some u := by
  intro j u hu
  have hadd : (⟨g, 0, none⟩ : Addr).add j = ⟨g, j, none⟩ := by unfold Addr.add; split <;> simp_all
  rw [hadd, cell_of_row w g j cur 5 fz hg]
  rw [← ht, List.getElem?_take] at hu
  split at hu
  · simpa using hu
  · cases hu
theorem info5 : (Tryd.prog.info? 5).map (fun i => (i.zero, i.size, i.bytes)) = some (some (.int .u8 0), 1, 1) := by kernel_rfl
theorem append_byte (w : World) (ty : TypeId) (B : Nat) (v : Value) (xs : List UInt8) (h : OwnB w B v xs) (ad : Addr) (c : Nat) (x : UInt8) (hx : w.cell? ad = some (.int .u8 x.toNat)) (hl : xs.length < 1000000000) (hB : B ≤ w.heap.size) :
    ∃ v' w', (Builtin.append_ #[30, 30] ty #[v, .slice (some ad) 1 c]).run Tryd.prog w = .ok v' w' ∧ OwnB w' B v' (xs ++ [x]) ∧ Below B w w' := by
  obtain ⟨g, cap, cur, fz, rfl, hBg, hg, hfz, hlc, hcm, hcs, ht⟩ := h
  cases hq : Tryd.prog.info? 5 with
  | none => have := info5; rw [hq] at this; cases this
  | some i =>
  have hi5 := info5
  rw [hq] at hi5
  have hz : i.zero = some (.int .u8 0) ∧ i.size = 1 ∧ i.bytes = 1 := by simpa using hi5
  obtain ⟨hz, hs, hb⟩ := hz
  have hnews : ∀ j u, ([Value.int .u8 (x.toNat : Int)] : List Value)[j]? = some u → w.cell? (ad.add j) = some u := by
    intro j u hu
    match j with
    | 0 =>
      have e : ad.add 0 = ad := by unfold Addr.add; split <;> simp_all
      rw [e]; simp at hu; rw [← hu]; exact hx
    | j + 1 => simp at hu
  have hbl : (Lib.byteCells xs).length = xs.length := Lib.byteCells_length xs
  have hcat : Lib.byteCells (xs ++ [x]) = Lib.byteCells xs ++ [Value.int .u8 (x.toNat : Int)] := by unfold Lib.byteCells; simp
  by_cases hroom : xs.length + 1 ≤ cap
  · have hlt : xs.length < cur.size := by omega
    have hcell : w.cell? ⟨g, xs.length, none⟩ = some cur[xs.length] := by simp [World.cell?, hg, hlt]
    have hfro : w.frozen? ⟨g, xs.length, none⟩ = false := by
      obtain ⟨lo, hi'⟩ := fz
      simp only [World.frozen?, hg, Bool.and_eq_false_iff, decide_eq_false_iff_not]
      simp only at hfz
      omega
    have hadd : ∀ n, (⟨g, n, none⟩ : Addr).add 0 = ⟨g, n, none⟩ := fun n => by unfold Addr.add; split <;> simp_all
    have hst : (storeCells ⟨g, xs.length, none⟩ [Value.int .u8 (x.toNat : Int)] 0).run Tryd.prog w = .ok () (w.setCell ⟨g, xs.length, none⟩ (.int .u8 (x.toNat : Int))) := by
      simp only [storeCells, Sem.run_bind, hadd]
      rw [run_store Tryd.prog w _ _ _ rfl, hcell]
      simp [hfro]
    have hf := run_firstCells_some (P := Tryd.prog) w 1 1 ad 1 c [Value.int .u8 (x.toNat : Int)] rfl hnews
    refine ⟨.slice (some ⟨g, 0, none⟩) (xs.length + 1) cap, w.setCell ⟨g, xs.length, none⟩ (.int .u8 (x.toNat : Int)), ?_, ?_, ?_⟩
    · simp [Builtin.append_, run_underlying Tryd.underlying30, sizeOf, typeInfo, hq, hs, Builtin.lenOf, hroom, hf, Addr.add_lit, hst]
    · refine ⟨g, cap, cur.setIfInBounds xs.length (.int .u8 (x.toNat : Int)), fz, by simp, hBg, by rw [setCell_eq_setRow w g xs.length cur 5 fz _ hg]; exact setRow_heap w g cur _ 5 _ hg, ?_, by simpa using hroom, hcm, by simpa using hcs, ?_⟩
      · simp; omega
      · rw [hcat, ← ht]
        apply List.ext_getElem?
        intro j
        simp only [List.length_append, List.length_singleton]
        rw [List.getElem?_take, Array.getElem?_toList, Array.getElem?_setIfInBounds, List.getElem?_append, List.length_take]
        have hm : min xs.length cur.toList.length = xs.length := by simp; omega
        rw [hm]
        by_cases h1 : j < xs.length
        · rw [if_pos (by omega), if_neg (by omega), if_pos h1, List.getElem?_take, if_pos h1, Array.getElem?_toList]
        · rw [if_neg h1]
          by_cases h2 : j = xs.length
          · subst h2; simp [hlt]
          · rw [if_neg (by omega), List.getElem?_eq_none (by simp; omega)]
    · exact (Below.refl _ _).setCell (p := ⟨g, xs.length, none⟩) hBg _
  · have hr := run_append_grow (P := Tryd.prog) w 30 ty 5 i (.int .u8 0) Tryd.underlying30 hq hz ⟨g, 0, none⟩ xs.length cap (Lib.byteCells xs) (by rw [hs, hbl, Nat.mul_one]) (OwnB.cells hg ht) ad 1 c [Value.int .u8 (x.toNat : Int)] (by rw [hs]; rfl) hnews (by omega) (by omega) (growslice_fits (by omega) (by rw [hb]; omega))
    have hge := grownCap_ge w (xs.length + 1) cap 5
    have hle := grownCap_le_maxLen w (xs.length + 1) cap 5 (by simp only [maxLen]; omega)
    have hz1 : (Value.int IntKind.u8 0).cells.size = 1 := rfl
    refine ⟨_, _, hr, ⟨w.heap.size, _, _, (0, 0), by simp, hB, heap_alloc_new w.drew _, .inl (Nat.zero_le _), by simpa using hge, hle, ?_, ?_⟩, ?_⟩
    · rw [Array.size_append, Array.size_append, size_zeroCells, hz1]
      simp only [List.size_toArray, hbl, Nat.mul_one]
      show xs.length + 1 + (grownCap w (xs.length + 1) cap 5 - (xs.length + 1)) = grownCap w (xs.length + 1) cap 5
      omega
    · rw [hcat]
      simp only [Array.toList_append]
      rw [List.length_append, List.length_singleton, List.take_append_of_le_length (by simp [hbl])]
      rw [List.take_of_length_le (by simp [hbl])]
    · exact (Below.drew (Below.refl _ _)).alloc (by simpa using hB) _

theorem wpList_append_byte {ops : Array Oper} {rest : List Oper} {o : Oper} {a : Act} {w : World} {Q : Exit → Act → World → Prop} (hgd : o.guard = none) (s x : Operand) (ho : o.op = .call { callee := .builtin .append, args := #[s, x], argTypes := #[30, 30] })
    (B : Nat) (v : Value) (xs : List UInt8) (hs : a.eval s = v) (hown : OwnB w B v xs) (ad : Addr) (c : Nat) (y : UInt8) (hx : a.eval x = .slice (some ad) 1 c) (hy : w.cell? ad = some (.int .u8 y.toNat)) (hl : xs.length < 1000000000) (hB : B ≤ w.heap.size)
    (h : ∀ v' w', OwnB w' B v' (xs ++ [y]) → Below B w w' → wpList Tryd.prog ops Q rest (a.put o.dst v') w') : wpList Tryd.prog ops Q (o :: rest) a w := by
  refine wpList_plain hgd fun K hK => ?_
  obtain ⟨v', w', hr, h2, h3⟩ := append_byte w o.type B v xs hown ad c y hy hl hB
  unfold Oper.wp execOp
  simp only [ho, resolve, invoke, builtin, Sem.run_bind, Sem.run_pure, Result.andThen_ok, List.map_toArray, List.map_cons, List.map_nil, hs, hx, hr]
  exact hK _ _ (h v' w' h2 h3)

/-- '[]byte(s)'. -/
theorem bytes_start (s : ByteArray) (w : World) (hl : s.size < 1000000000) : ∃ v w', (convert 9 30 (.string s)).run Tryd.prog w = .ok v w' ∧ OwnB w' w.heap.size v (bl s) ∧ Below w.heap.size w w' := by
  have hr := run_bytes_of_string (P := Tryd.prog) w 9 30 5 s Tryd.underlying9 Tryd.underlying30 Tryd.underlying5
  have hge := grownCap_ge w s.size 0 5
  have hle := grownCap_le_maxLen w s.size 0 5 (by simp only [maxLen]; omega)
  have hlen : (bl s).length = s.size := by show s.data.toList.length = _; rw [← Lib.size_eq]
  have hd : s.data.size = s.size := rfl
  refine ⟨_, _, hr, ⟨w.heap.size, _, _, _, by rw [hlen], Nat.le_refl _, heap_alloc_new w.drew _, .inr (Nat.le_refl _), by rw [hlen]; exact hge, hle, ?_, ?_⟩, ?_⟩
  · unfold bytesRow
    simp [hd]
    omega
  · unfold bytesRow
    rw [Array.toList_append, List.take_append_of_le_length (by simp), List.take_of_length_le (by simp)]
    simp [Lib.byteCells]
  · exact (Below.drew (Below.refl _ _)).alloc (Nat.le_refl _) _
/-- 'string(b)'. -/
theorem bytes_end {w : World} {B : Nat} {v : Value} {xs : List UInt8} (h : OwnB w B v xs) : (convert 30 9 v).run Tryd.prog w = .ok (.string (ba xs)) w := by
  obtain ⟨g, cap, cur, fz, rfl, hB, hg, hfz, hlc, hcm, hcs, ht⟩ := h
  have hc := OwnB.cells hg ht
  have e := run_convert_bytes_arg (P := Tryd.prog) w 30 5 Tryd.underlying30 Tryd.underlying5 g 0 xs.length cap (xs.map fun b => (b.toNat : Int)) (by simp) (fun i hi => by
    have := hc i (.int .u8 ((xs.map fun b => (b.toNat : Int)).getD i 0)) (by unfold Lib.byteCells; simp [hi])
    have hadd : (⟨g, 0, none⟩ : Addr).add i = ⟨g, i, none⟩ := by unfold Addr.add; split <;> simp_all
    rw [hadd] at this
    rw [Nat.zero_add]
    exact this) 9 Tryd.underlying9
  rw [e]
  have : strOfNums (xs.map fun b => (b.toNat : Int)) = ba xs := by
    unfold strOfNums ba
    rw [List.map_map]
    have e2 : xs.map ((fun n : Int => UInt8.ofNat n.toNat) ∘ fun b : UInt8 => (b.toNat : Int)) = xs := by
      conv => rhs; rw [← List.map_id xs]
      apply List.map_congr_left
      intro b _
      simp
    rw [e2]
  rw [this]
end Go.Proofs.YtnndifkilcommaaDoor.Sha
