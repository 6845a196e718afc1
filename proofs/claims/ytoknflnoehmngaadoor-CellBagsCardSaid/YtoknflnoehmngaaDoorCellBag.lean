/-
  A bag in memory; what is put, dropped, told (the program's).
-/
import Derived.Test.YtoknflnoehmngaaDoorCellPlain
import Derived.Test.YtoknflnoehmngaaDoorNetsBase
import Derived.Maps.OwnSet
import Derived.Maps.Ext
import Derived.Deep.MidRow
import Derived.Deep.RegionWith
namespace Go.Proofs.YtoknflnoehmngaaDoor.Cell
open Go Go.RowKit

abbrev str (l : List UInt8) : Value := .string ⟨l.toArray⟩
abbrev ba (l : List UInt8) : ByteArray := ⟨l.toArray⟩
abbrev bagT : TypeId := 52
abbrev strT : TypeId := 9
abbrev strsT : TypeId := 28
abbrev anyT : TypeId := 20

/-- The value is a slice that reads as these texts. -/
def Reads (w : World) (v : Value) (ss : List ByteArray) : Prop :=
  (∃ a cap, v = .slice a 0 cap ∧ ss = []) ∨
  (0 < ss.length ∧ ∃ b off cap, v = .slice (some ⟨b, off, none⟩) ss.length cap ∧ ss.length ≤ cap ∧ cap ≤ maxLen ∧ b < w.heap.size ∧ ∀ i, i < ss.length → w.cell? ⟨b, off + i, none⟩ = some (.string (ss.getD i ByteArray.empty)))
theorem Reads.below {w w' : World} {v : Value} {ss : List ByteArray} (h : Reads w v ss) (hb : Below w.heap.size w w') : Reads w' v ss := by
  rcases h with h | ⟨h0, b, off, cap, rfl, h1, h2, h3, h4⟩
  · exact .inl h
  · refine .inr ⟨h0, b, off, cap, rfl, h1, h2, by have := hb.size; omega, fun i hi => ?_⟩
    rw [hb.cell (p := ⟨b, off + i, none⟩) h3]
    exact h4 i hi
theorem no_cell_map {w : World} {b o : Nat} {x : Value} {es : Array MapEntry} {c : Nat} (h : w.heap[b]? = some (.map es c)) : w.cell? ⟨b, o, none⟩ ≠ some x := by
  simp [World.cell?, h]
/-- .. while a map is written, and new blocks are made. -/
theorem Reads.turned {w w' : World} {v : Value} {ss : List ByteArray} {mb : Nat} {es : Array MapEntry} {c : Nat} (h : Reads w v ss) (hg : w.grownBy w' (some mb)) (hm : w.heap[mb]? = some (.map es c)) : Reads w' v ss := by
  rcases h with h | ⟨h0, b, off, cap, rfl, h1, h2, h3, h4⟩
  · exact .inl h
  · refine .inr ⟨h0, b, off, cap, rfl, h1, h2, by have := hg.size; omega, fun i hi => ?_⟩
    refine hg.cell (h4 i hi) fun e => ?_
    obtain rfl : b = mb := by simpa using e
    exact no_cell_map hm (h4 i hi)
/-- .. while a row is written that is not its own. -/
theorem Reads.apart {w w' : World} {v : Value} {ss : List ByteArray} {g : Nat} (h : Reads w v ss) (hg : w.grownBy w' (some g)) (hne : v.ownBlock ≠ some g) : Reads w' v ss := by
  rcases h with h | ⟨h0, b, off, cap, rfl, h1, h2, h3, h4⟩
  · exact .inl h
  · refine .inr ⟨h0, b, off, cap, rfl, h1, h2, by have := hg.size; omega, fun i hi => hg.cell (h4 i hi) fun e => hne ?_⟩
    simpa [Value.ownBlock] using e
theorem reads_owns {w : World} {B : Nat} {v : Value} {acc : List ByteArray} (h : w.ownsRow B 9 1 v acc.length (acc.map Value.string)) : Reads w v acc := by
  have hc := fun g hg => h.cells (g := g) hg
  have hlt := h.lt
  rcases h.2 with ⟨rfl, hn⟩ | ⟨g, cap, cur, rfl, hb, hg, h1, h2, _, _⟩
  · exact .inl ⟨none, 0, rfl, List.length_eq_zero_iff.1 hn⟩
  · by_cases h0 : acc.length = 0
    · exact .inl ⟨some ⟨g, 0, none⟩, cap, by rw [h0], List.length_eq_zero_iff.1 h0⟩
    · refine .inr ⟨by omega, g, 0, cap, rfl, h1, h2, (hlt g rfl).2, fun i hi => ?_⟩
      have e := hc g rfl i (.string (acc.getD i ByteArray.empty)) (by
        rw [List.getElem?_map, List.getD_eq_getElem?_getD, List.getElem?_eq_getElem hi]; rfl)
      have hp : (⟨g, 0, none⟩ : Addr).add i = ⟨g, 0 + i, none⟩ := by unfold Addr.add; split <;> simp_all
      rw [hp] at e
      exact e

/-! What a bag holds under a name. -/
def tied (w : World) (g : Pair) : Prop :=
  (g.1.v.kind = 1 ∧ g.2 = .iface 9 (.string g.1.v.s)) ∨ (g.1.v.kind = 2 ∧ g.2 = .iface 3 (.int .i64 g.1.v.n)) ∨
  (g.1.v.kind = 3 ∧ g.2 = .iface 4 (.bool g.1.v.is)) ∨ (g.1.v.kind = 4 ∧ g.1.v.ls.length ≤ 1000 ∧ ∃ sv, g.2 = .iface 28 sv ∧ Reads w sv g.1.v.ls)
theorem tied.below {w w' : World} {g : Pair} (h : tied w g) (hb : Below w.heap.size w w') : tied w' g := by
  rcases h with h | h | h | ⟨h, h0, sv, h1, h2⟩
  · exact .inl h
  · exact .inr (.inl h)
  · exact .inr (.inr (.inl h))
  · exact .inr (.inr (.inr ⟨h, h0, sv, h1, h2.below hb⟩))
theorem tied.turned {w w' : World} {g : Pair} {mb : Nat} {es : Array MapEntry} {c : Nat} (h : tied w g) (hg : w.grownBy w' (some mb)) (hm : w.heap[mb]? = some (.map es c)) : tied w' g := by
  rcases h with h | h | h | ⟨h, h0, sv, h1, h2⟩
  · exact .inl h
  · exact .inr (.inl h)
  · exact .inr (.inr (.inl h))
  · exact .inr (.inr (.inr ⟨h, h0, sv, h1, h2.turned hg hm⟩))

/-- The bag whose map lies in block mb, its one cell in block pb. -/
structure BagAt (w : World) (pb mb : Nat) (G : List Pair) : Prop where
  cell : w.cell? ⟨pb, 0, none⟩ = some (.map (some mb))
  owns : w.ownsMap Tryd.prog 9 el mb G.length (datum G)
  tied : ∀ g ∈ G, Cell.tied w g
  few : G.length ≤ 100

theorem law : Maps.Keyed Tryd.prog 9 := Maps.string_keyed Tryd.underlying9
theorem zeroAny (w : World) : (zeroValue 20).run Tryd.prog w = .ok .nilIface w := by kernel_rfl
theorem key_of (s : ByteArray) (h : s.size ≤ maxLen) : keyOf Tryd.prog 9 (.string s) = some (.string (bl s)) := WideMaps.keyOf_string_mk Tryd.underlying9 h

theorem rising_before (G : List Pair) (h : (G.map entry).Pairwise fun p q => p.1.before q.1 = true) : Rising pn G := by
  rw [List.pairwise_map] at h
  exact h.imp fun {a b} hab => (before_eq _ _).symm.trans hab
section
variable {w w' : World} {pb mb : Nat} {G : List Pair}
theorem BagAt.map (h : BagAt w pb mb G) : ∃ es c, w.heap[mb]? = some (.map es c) := by
  obtain ⟨es, c, hb, _⟩ := h.owns
  exact ⟨es, c, hb⟩
theorem BagAt.lt (h : BagAt w pb mb G) : mb < w.heap.size := h.owns.lt
theorem BagAt.plt (h : BagAt w pb mb G) : pb < w.heap.size := by
  rcases Nat.lt_or_ge pb w.heap.size with h' | h'
  · exact h'
  · have e : w.heap[pb]? = none := Array.getElem?_eq_none h'
    have := h.cell
    simp [World.cell?, e] at this
theorem BagAt.ne (h : BagAt w pb mb G) : pb ≠ mb := fun e => by
  obtain ⟨es, c, hm⟩ := h.map
  subst e
  exact no_cell_map hm h.cell
theorem BagAt.rising (h : BagAt w pb mb G) : Rising pn G := by
  obtain ⟨es, hD, hp, _⟩ := h.owns.canon law
  have : es = G.map entry := by
    unfold datum at hD
    exact (DataW.map.inj hD).symm
  subst this
  exact rising_before G hp
theorem BagAt.below (h : BagAt w pb mb G) (hb : Below w.heap.size w w') : BagAt w' pb mb G := by
  have hg : w.grownBy w' none := ⟨hb.os, hb.tape, hb.output, hb.size, fun k hk _ => hb.block k hk⟩
  exact ⟨by rw [hb.cell (p := ⟨pb, 0, none⟩) h.plt]; exact h.cell, h.owns.kept hg (by simp), fun g hgG => (h.tied g hgG).below hb, h.few⟩
theorem BagAt.alloc (h : BagAt w pb mb G) (o : Obj) : BagAt (w.alloc o) pb mb G := h.below ((Below.refl _ _).alloc (Nat.le_refl _) _)
/-- .. while a row is written that none of its lists lies in. -/
theorem BagAt.apart {g : Nat} (h : BagAt w pb mb G) (hg : w.grownBy w' (some g)) (hp : pb ≠ g) (hm : mb ≠ g) (hl : ∀ x ∈ G, ∀ t sv, x.2 = .iface t sv → sv.ownBlock ≠ some g) : BagAt w' pb mb G := by
  refine ⟨hg.cell h.cell (by simpa using hp), h.owns.kept hg (by simpa using hm), fun x hx => ?_, h.few⟩
  rcases h.tied x hx with t | t | t | ⟨t, t0, sv, h1, h2⟩
  · exact .inl t
  · exact .inr (.inl t)
  · exact .inr (.inr (.inl t))
  · exact .inr (.inr (.inr ⟨t, t0, sv, h1, h2.apart hg (hl x hx _ _ h1)⟩))

/-- What is under a name. -/
theorem BagAt.look (h : BagAt w pb mb G) (n : ByteArray) (hn : n.size ≤ maxLen) : (Instr.lookup 52 (.map (some mb)) (.string n) false).run Tryd.prog w = .ok (valueAt n G) w := by
  obtain ⟨v, ps, hrun, hv⟩ := h.owns.lookup law Tryd.underlying52 (zeroAny w) (R := el) (zd := .held .nilIface) (zp := []) rfl (key_of n hn)
  rw [datum_at] at hv
  unfold el at hv
  have : v = valueAt n G := by
    have h := (Prod.mk.inj (Option.some.inj hv)).1
    exact DataW.held.inj h
  rw [hrun, this]
theorem BagAt.look_ok (h : BagAt w pb mb G) (n : ByteArray) (hn : n.size ≤ maxLen) : (Instr.lookup 52 (.map (some mb)) (.string n) true).run Tryd.prog w = .ok (.tuple #[valueAt n G, .bool (at? pn n G).isSome]) w := by
  obtain ⟨v, ps, hrun, hv⟩ := h.owns.look_ok law Tryd.underlying52 (zeroAny w) (R := el) (zd := .held .nilIface) (zp := []) rfl (key_of n hn)
  rw [datum_at] at hv
  unfold el at hv
  have : v = valueAt n G := by
    have h := (Prod.mk.inj (Option.some.inj hv)).1
    exact DataW.held.inj h
  rw [hrun, this, datum_has]
theorem own_len {n : Nat} (h : w.ownsMap Tryd.prog 9 el mb n (datum G)) : w.ownsMap Tryd.prog 9 el mb G.length (datum G) := by
  obtain ⟨es, c, hb, F, hs, hD⟩ := h
  refine ⟨es, c, hb, F, ?_, hD⟩
  have e1 : Maps.size (datum G) = es.size := by rw [hD]; simp [Maps.size, length_sorted]
  rw [datum_size] at e1
  omega
theorem BagAt.store (h : BagAt w pb mb G) (g : Pair) (hn : (pn g).size ≤ maxLen) (ht : Cell.tied w g) (hf : G.length < 100) :
    ∃ w', (Instr.mapUpdate 52 (.map (some mb)) (.string (pn g)) g.2).run Tryd.prog w = .ok () w' ∧ BagAt w' pb mb (put pn g G) ∧ w.mapTurned w' mb := by
  obtain ⟨w', hrun, ho, hg⟩ := h.owns.store law Tryd.underlying52 (by unfold maxLen; omega) (key_of (pn g) hn) (val := g.2) (d := .held g.2) (ps := []) rfl
  obtain ⟨es, c, hm⟩ := h.map
  rw [datum_put] at ho
  refine ⟨w', hrun, ⟨hg.grown.cell h.cell (by simpa using h.ne), own_len ho, fun x hx => ?_, ?_⟩, hg⟩
  · rcases put_mem pn hx with rfl | hx
    · exact ht.turned hg.grown hm
    · exact (h.tied x hx).turned hg.grown hm
  · have := put_length pn g G
    omega
theorem BagAt.drop (h : BagAt w pb mb G) (n : ByteArray) (hn : n.size ≤ maxLen) (ty : TypeId) :
    ∃ w', (Builtin.delete_ #[52, 9] ty #[.map (some mb), .string n]).run Tryd.prog w = .ok (.tuple #[]) w' ∧ BagAt w' pb mb (del pn n G) ∧ w.mapTurned w' mb := by
  obtain ⟨w', hrun, ho, hg⟩ := h.owns.drop law Tryd.underlying52 (key_of n hn) ty
  obtain ⟨es, c, hm⟩ := h.map
  rw [datum_del] at ho
  refine ⟨w', hrun, ⟨hg.grown.cell h.cell (by simpa using h.ne), own_len ho, fun x hx => (h.tied x (del_mem pn hx)).turned hg.grown hm, ?_⟩, hg⟩
  have := del_length pn n G
  have := h.few
  omega
end
end Go.Proofs.YtoknflnoehmngaaDoor.Cell
