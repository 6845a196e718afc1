/-
  Laws of a Hash in memory: a copy into its block, its length, its words.
-/
import Derived.Test.YtnndifkilcommaaDoorShaWalkF
import Derived.StillTailTactics
import Derived.IntWalk
import Derived.Lib.BufferWrite
namespace Go.Proofs.YtnndifkilcommaaDoor.Sha
open Go.RowKit

theorem grown_of_below {w w' : World} {row : Option Nat} (h : Below w.heap.size w w') : w.grownBy w' row := ⟨h.os, h.tape, h.output, h.size, fun k hk _ => h.block k hk⟩
theorem grown_trans {w w' w2 : World} {row : Option Nat} (h : w.grownBy w' row) (k : w'.grownBy w2 row) : w.grownBy w2 row :=
  ⟨k.os.trans h.os, k.tape.trans h.tape, k.output.trans h.output, Nat.le_trans h.size k.size, fun i hi hr => (k.block i (Nat.lt_of_lt_of_le hi h.size) hr).trans (h.block i hi hr)⟩
theorem grown_setRow (w : World) (H : Nat) (cs : Array Value) : w.grownBy (w.setRow H cs) (some H) :=
  ⟨rfl, rfl, rfl, by simp, fun k _ hk => setRow_other w H k cs (fun e => hk (by rw [e]))⟩
theorem grown_setCell (w : World) (H i : Nat) (v : Value) : w.grownBy (w.setCell ⟨H, i, none⟩ v) (some H) :=
  ⟨rfl, rfl, rfl, by simp [World.setCell], fun k _ hk => heap_setCell_other w ⟨H, i, none⟩ k v (fun e => hk (by rw [e]))⟩
theorem grown_below {w w' : World} {H B : Nat} (h : w.grownBy w' (some H)) (hB : B ≤ H) (hw : B ≤ w.heap.size) : Below B w w' :=
  ⟨h.os, h.tape, h.output, h.size, fun k hk => h.block k (by omega) (fun e => by have := Option.some.inj e; omega)⟩
theorem Tab.grown {w w' : World} {H : Nat} (h : Tab w) (hg : w.grownBy w' (some H)) (hH : 0 < H) : Tab w' :=
  ⟨Nat.lt_of_lt_of_le h.1 hg.size, fun t ht => hg.cell (h.2 t ht) (by simp; omega)⟩

/-- 'copy' of a string into a row: as many bytes as fit. -/
theorem copy_str (w : World) (g o dLen dCap m : Nat) (s : ByteArray) (cur : Array Value) (t : TypeId) (hg : w.heap[g]? = some (.cells cur t (0, 0))) (hm : Nat.min s.size dLen = m) (hfit : o + m ≤ cur.size) :
    (Builtin.copy_ #[30, 9] 3 #[.slice (some ⟨g, o, none⟩) dLen dCap, .string s]).run Tryd.prog w =
      .ok (goInt m) (w.setRow g (cur.toList.take o ++ Lib.byteCells (s.data.toList.take m) ++ cur.toList.drop (o + m)).toArray) := by
  have hlen : (Lib.byteCells (s.data.toList.take m)).length = m := by
    rw [Lib.byteCells_length, List.length_take, ← Lib.size_eq]
    have : m ≤ s.size := by rw [← hm]; exact Nat.min_le_left _ _
    omega
  have hst := run_storeCells_at Tryd.prog g o t (Lib.byteCells (s.data.toList.take m)) 0 cur w hg (by rw [hlen]; simpa using hfit) (Lib.byteCells_one _)
  have htk : List.take m (List.map (fun b : UInt8 => Value.int IntKind.u8 (b.toNat : Int)) s.data.toList) = Lib.byteCells (s.data.toList.take m) := by
    rw [← List.map_take]; rfl
  rw [hlen] at hst
  simp only [Nat.add_zero] at hst
  have hs : (Tryd.prog.info? 5).map (·.size) = some 1 := by kernel_rfl
  cases hq : Tryd.prog.info? 5 with
  | none => simp [hq] at hs
  | some i =>
    simp [Builtin.copy_, run_underlying Tryd.underlying30, Builtin.lenOf, Builtin.firstCells, sizeOf, typeInfo, hq, hm]
    rw [htk, hst]
    simp [Result.andThen]

theorem len43 : Tryd.prog.arrayLen 33 = 64 := by kernel_rfl
theorem elem43 : Tryd.prog.elem 33 = 5 := by kernel_rfl
theorem under43 : Tryd.prog.underlying 33 = some (.array (Tryd.prog.arrayLen 33) (Tryd.prog.elem 33)) := by rw [len43, elem43]; exact Tryd.underlying33
theorem slice_block (w : World) (H r : Nat) (hr : r < 64) : (Instr.sliceAt 33 (.pointer (some ⟨H, 8, none⟩)) (some (.int .u64 (r : Int))) none none).run Tryd.prog w = .ok (.slice (some ⟨H, 8 + r, none⟩) (64 - r) (64 - r)) w := by
  rw [run_sliceAt_array_l w 33 ⟨H, 8, none⟩ under43 .u64 r (by omega) (by rw [len43]; omega), elem43, Tryd.sizeOf5]
  show Result.ok (slicedAt ⟨H, 8, none⟩ ((r : Int)).toNat (Tryd.prog.arrayLen 33) (Tryd.prog.arrayLen 33) 1) w = _
  rw [len43]
  unfold slicedAt
  rw [Int.toNat_natCast, if_neg (by omega), Addr.add_mid, Nat.mul_one]

theorem Holds.setc {w : World} {b : Nat} {cs : Array Value} {t : TypeId} (h : Holds w b cs t) (i : Nat) (v : Value) : Holds (w.setCell ⟨b, i, none⟩ v) b (cs.setIfInBounds i v) t := by
  unfold Holds
  rw [heap_setCell_same w b i _ t _ h]
theorem Holds.range {w : World} {b : Nat} {cs : Array Value} {t : TypeId} (h : Holds w b cs t) (o : Nat) (xs : List Value) (hx : ∀ (j : Nat) v, xs[j]? = some v → cs[o + j]? = some v) : w.rangeAt b o xs := fun j v hv => by rw [h.cell]; exact hx j v hv
theorem Holds.there {w : World} {b : Nat} {cs : Array Value} {t : TypeId} (h : Holds w b cs t) (o n : Nat) (hn : o + n ≤ cs.size) : w.there b o n := fun j hj => ⟨by rw [h.cell]; simp; omega, h.free _⟩
def putAll (cs : Array Value) : Nat → List Value → Array Value
  | _, [] => cs
  | o, v :: r => putAll (cs.setIfInBounds o v) (o + 1) r
theorem putAll_size : ∀ (l : List Value) (cs : Array Value) (o : Nat), (putAll cs o l).size = cs.size
  | [], _, _ => rfl
  | v :: r, cs, o => by show (putAll (cs.setIfInBounds o v) (o + 1) r).size = _; rw [putAll_size r]; simp
theorem putAll_out : ∀ (l : List Value) (cs : Array Value) (o j : Nat), (j < o ∨ o + l.length ≤ j) → (putAll cs o l)[j]? = cs[j]?
  | [], _, _, _, _ => rfl
  | v :: r, cs, o, j, h => by
    show (putAll (cs.setIfInBounds o v) (o + 1) r)[j]? = _
    rw [putAll_out r _ _ _ (by simp at h; omega), Array.getElem?_setIfInBounds_ne (by simp at h; omega)]
theorem putAll_in : ∀ (l : List Value) (cs : Array Value) (o j : Nat), o + l.length ≤ cs.size → j < l.length → (putAll cs o l)[o + j]? = l[j]?
  | [], _, _, _, _, h => by simp at h
  | v :: r, cs, o, 0, h, _ => by
    show (putAll (cs.setIfInBounds o v) (o + 1) r)[o + 0]? = _
    simp only [List.length_cons] at h
    rw [putAll_out r _ _ _ (by omega), Nat.add_zero, Array.getElem?_setIfInBounds]
    simp [show o < cs.size by omega]
  | v :: r, cs, o, j + 1, h, hj => by
    show (putAll (cs.setIfInBounds o v) (o + 1) r)[o + (j + 1)]? = _
    rw [show o + (j + 1) = (o + 1) + j by omega, putAll_in r _ _ _ (by simp at h ⊢; omega) (by simpa using hj)]
    simp
theorem Holds.setCells {b : Nat} {t : TypeId} : ∀ (l : List Value) {w : World} {cs : Array Value} (o : Nat), Holds w b cs t → Holds (w.setCells b o l) b (putAll cs o l) t
  | [], _, _, _, h => h
  | v :: r, w, cs, o, h => by
    show Holds ((w.setCell ⟨b, o, none⟩ v).setCells b (o + 1) r) b (putAll (cs.setIfInBounds o v) (o + 1) r) t
    exact Holds.setCells r (o + 1) (h.setc o v)
theorem grown_setCells (H : Nat) : ∀ (l : List Value) (w : World) (o : Nat), w.grownBy (w.setCells H o l) (some H)
  | [], _w, _ => grown_of_below (Below.refl _ _)
  | v :: r, w, o => grown_trans (grown_setCell w H o v) (grown_setCells H r _ _)
theorem putAll_words (v v' : St) (f : Nat → Nat) (n : Nat) : putAll (hashCells v f n) 0 (rowOf .u32 8 (stAt v')).toList = hashCells v' f n := by
  refine hash_ext (by rw [putAll_size, hashCells_size]) (fun j hj => ?_) (fun j hj => ?_) ?_
  · have := putAll_in (rowOf .u32 8 (stAt v')).toList (hashCells v f n) 0 j (by simp [rowOf_size, hashCells_size]) (by simp [rowOf_size]; exact hj)
    rw [Nat.zero_add] at this
    rw [this, Array.getElem?_toList, rowOf_get _ _ _ hj]
  · rw [putAll_out _ _ _ _ (by simp [rowOf_size]), hash_mid _ _ _ _ hj]
  · rw [putAll_out _ _ _ _ (by simp [rowOf_size]), hash_len]
theorem set_len (v : St) (f : Nat → Nat) (n n' : Nat) : (hashCells v f n).setIfInBounds 72 (.int .u64 n') = hashCells v f n' := by
  refine hash_ext (by simp [hashCells_size]) (fun j hj => ?_) (fun j hj => ?_) ?_
  · rw [Array.getElem?_setIfInBounds_ne (by omega), hash_lo _ _ _ _ hj]
  · rw [Array.getElem?_setIfInBounds_ne (by omega), hash_mid _ _ _ _ hj]
  · rw [Array.getElem?_setIfInBounds]; simp [hashCells_size]
theorem range_words {w : World} {H : Nat} {v : St} {f : Nat → Nat} {n : Nat} (h : Holds w H (hashCells v f n) 50) : w.rangeAt H 0 (rowOf .u32 8 (stAt v)).toList :=
  h.range 0 _ fun j u hu => by
    rw [Nat.zero_add]
    have hj : j < 8 := by
      have := (List.getElem?_eq_some_iff.1 hu).1
      simpa [rowOf_size] using this
    rw [hash_lo _ _ _ _ hj, ← hu, Array.getElem?_toList, rowOf_get _ _ _ hj]
theorem range_block {w : World} {H : Nat} {v : St} {f : Nat → Nat} {n : Nat} (h : Holds w H (hashCells v f n) 50) : w.rangeAt H 8 (rowOf .u8 64 f).toList :=
  h.range 8 _ fun j u hu => by
    have hj : j < 64 := by
      have := (List.getElem?_eq_some_iff.1 hu).1
      simpa [rowOf_size] using this
    rw [hash_mid _ _ _ _ hj, ← hu, Array.getElem?_toList, rowOf_get _ _ _ hj]
theorem row_copy (v : St) (f : Nat → Nat) (n r k : Nat) (l : List UInt8) (hk : k ≤ l.length) (hr : r + k ≤ 64) :
    (List.take (8 + r) (hashCells v f n).toList ++ Lib.byteCells (l.take k) ++ List.drop (8 + r + k) (hashCells v f n).toList).toArray = hashCells v (putF f r k l) n := by
  have hs : (hashCells v f n).toList.length = 73 := by rw [Array.length_toList, hashCells_size]
  have hb : (Lib.byteCells (l.take k)).length = k := by rw [Lib.byteCells_length, List.length_take]; omega
  have h1 : (List.take (8 + r) (hashCells v f n).toList).length = 8 + r := by rw [List.length_take, hs]; omega
  refine hash_ext ?_ (fun j hj => ?_) (fun j hj => ?_) ?_
  · rw [List.size_toArray, List.length_append, List.length_append, h1, hb, List.length_drop, hs]; omega
  · rw [List.getElem?_toArray, List.getElem?_append_left (by rw [List.length_append, h1]; omega), List.getElem?_append_left (by rw [h1]; omega), List.getElem?_take, if_pos (by omega), Array.getElem?_toList, hash_lo _ _ _ _ hj]
  · rw [List.getElem?_toArray]
    unfold putF
    by_cases a : j < r
    · rw [if_neg (by omega), List.getElem?_append_left (by rw [List.length_append, h1]; omega), List.getElem?_append_left (by rw [h1]; omega), List.getElem?_take, if_pos (by omega), Array.getElem?_toList, hash_mid _ _ _ _ hj]
    · by_cases c : j < r + k
      · rw [if_pos ⟨by omega, c⟩, List.getElem?_append_left (by rw [List.length_append, h1, hb]; omega), List.getElem?_append_right (by rw [h1]; omega), h1]
        have e : 8 + j - (8 + r) = j - r := by omega
        rw [e]
        unfold Lib.byteCells
        rw [List.getElem?_map, List.getElem?_take, if_pos (by omega), List.getElem?_eq_getElem (by omega)]
        show some (Value.int .u8 _) = _
        unfold byteAt
        rw [List.getD_eq_getElem?_getD, List.getElem?_eq_getElem (by omega)]
        rfl
      · rw [if_neg (by omega), List.getElem?_append_right (by rw [List.length_append, h1, hb]; omega), List.length_append, h1, hb, List.getElem?_drop, show 8 + r + k + (8 + j - (8 + r + k)) = 8 + j by omega, Array.getElem?_toList, hash_mid _ _ _ _ hj]
  · rw [List.getElem?_toArray, List.getElem?_append_right (by rw [List.length_append, h1, hb]; omega), List.length_append, h1, hb, List.getElem?_drop, show 8 + r + k + (72 - (8 + r + k)) = 72 by omega, Array.getElem?_toList, hash_len]

end Go.Proofs.YtnndifkilcommaaDoor.Sha
