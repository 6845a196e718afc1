/-
  A stable order; rows in place: swapped, turned, inserted.
-/
import Derived.Test.YtghpohiinnallaaGreatDoorKgBatchA
import Derived.BigRegion
import Derived.Test.YtghpohiinnallaaGreatDoorKgKept

/-
  Plain facts on sorting by keys and keeping the order of what has the same key: exchanging, turning about, merging, block by block. No program is named here.
-/
namespace Go.Proofs.YtghpohiinnallaaGreatDoor.Kv
open Go
open Go.Proofs.YtghpohiinnallaaGreatDoor.Batch (less less_irrefl less_trans less_total less_asymm less_not Rising at?)

section
variable {α : Type} (nm : α → ByteArray)

/-- In order, the same keys beside one another. -/
def Up (l : List α) : Prop := l.Pairwise fun x y => less (nm y) (nm x) = false
/-- Of each key the same, in the same order. -/
def Alike (l r : List α) : Prop := ∀ k, l.filter (fun x => decide (nm x = k)) = r.filter (fun x => decide (nm x = k))
variable {nm}
theorem Alike.refl (l : List α) : Alike nm l l := fun _ => rfl
theorem Alike.trans {a b c : List α} (h : Alike nm a b) (g : Alike nm b c) : Alike nm a c := fun k => (h k).trans (g k)
theorem Alike.symm {a b : List α} (h : Alike nm a b) : Alike nm b a := fun k => (h k).symm
theorem Alike.append {a b c d : List α} (h : Alike nm a b) (g : Alike nm c d) : Alike nm (a ++ c) (b ++ d) := fun k => by
  rw [List.filter_append, List.filter_append, h k, g k]
theorem Alike.mem {a b : List α} (h : Alike nm a b) {x : α} (hx : x ∈ b) : x ∈ a := by
  have h1 : x ∈ b.filter (fun y => decide (nm y = nm x)) := List.mem_filter.2 ⟨hx, by simp⟩
  rw [← h (nm x)] at h1
  exact (List.mem_filter.1 h1).1
theorem filter_none {l : List α} {k : ByteArray} (h : ∀ x ∈ l, nm x ≠ k) : l.filter (fun x => decide (nm x = k)) = [] := by
  rw [List.filter_eq_nil_iff]
  intro x hx
  simpa using h x hx
/-- What is strictly behind may go ahead. -/
theorem Alike.turn {u v : List α} (h : ∀ x ∈ u, ∀ y ∈ v, less (nm y) (nm x) = true) : Alike nm (u ++ v) (v ++ u) := fun k => by
  rw [List.filter_append, List.filter_append]
  by_cases hu : ∃ x ∈ u, nm x = k
  · obtain ⟨x, hx, rfl⟩ := hu
    have hv : ∀ y ∈ v, nm y ≠ nm x := fun y hy e => by
      have := h x hx y hy
      rw [e, less_irrefl] at this
      cases this
    rw [filter_none hv]
    simp
  · have hu' : ∀ x ∈ u, nm x ≠ k := fun x hx e => hu ⟨x, hx, e⟩
    rw [filter_none hu']
    simp
theorem up_append {l r : List α} : Up nm (l ++ r) ↔ Up nm l ∧ Up nm r ∧ ∀ x ∈ l, ∀ y ∈ r, less (nm y) (nm x) = false := List.pairwise_append
theorem up_nil : Up nm ([] : List α) := List.Pairwise.nil
theorem up_one (x : α) : Up nm [x] := List.pairwise_singleton _ _
theorem up_get {l : List α} (h : Up nm l) {i j : Nat} {x y : α} (hx : l[i]? = some x) (hy : l[j]? = some y) (hij : i ≤ j) : less (nm y) (nm x) = false := by
  obtain ⟨h1, rfl⟩ := List.getElem?_eq_some_iff.1 hx
  obtain ⟨h2, rfl⟩ := List.getElem?_eq_some_iff.1 hy
  rcases Nat.lt_or_ge i j with h3 | h3
  · exact List.pairwise_iff_getElem.1 h i j h1 h2 h3
  · obtain rfl : i = j := by omega
    exact less_irrefl _
/-- Not behind, and not ahead of what is behind. -/
theorem le_trans' {a b c : ByteArray} (h : less b a = false) (g : less c b = false) : less c a = false := by
  cases e : less c a
  · rfl
  · by_cases hbc : b = c
    · subst hbc; rw [e] at h; cases h
    · have h1 := less_total g hbc
      have h2 := less_trans h1 e
      rw [h2] at h; cases h
theorem lt_le {a b c : ByteArray} (h : less a b = true) (g : less c b = false) : less a c = true := by
  by_cases e : b = c
  · rw [← e]; exact h
  · exact less_trans h (less_total g e)
theorem le_lt {a b c : ByteArray} (h : less b a = false) (g : less b c = true) : less a c = true := by
  by_cases e : a = b
  · rw [e]; exact g
  · exact less_trans (less_total h e) g

/-! Two places exchanged. -/
theorem swap_list (X M Y : List α) (x y : α) {i j : Nat} (hi : X.length = i) (hj : i + 1 + M.length = j) :
    (X ++ x :: (M ++ y :: Y))[i]? = some x ∧ (X ++ x :: (M ++ y :: Y))[j]? = some y ∧ ((X ++ x :: (M ++ y :: Y)).set i y).set j x = X ++ y :: (M ++ x :: Y) := by
  subst hi
  refine ⟨?_, ?_, ?_⟩
  · rw [List.getElem?_append_right (by omega)]
    simp
  · rw [List.getElem?_append_right (by omega), show j - X.length = M.length + 1 by omega, List.getElem?_cons_succ, List.getElem?_append_right (by omega)]
    simp
  · rw [List.set_append_right _ _ (by omega), Nat.sub_self, List.set_cons_zero, List.set_append_right _ _ (by omega), show j - X.length = M.length + 1 by omega, List.set_cons_succ, List.set_append_right _ _ (by omega), Nat.sub_self, List.set_cons_zero]
theorem snoc_of {l : List α} (h : 0 < l.length) : ∃ r z, l = r ++ [z] := ⟨l.dropLast, l.getLast (by intro e; rw [e] at h; simp at h), (List.dropLast_concat_getLast _).symm⟩
theorem cons_of {l : List α} (h : 0 < l.length) : ∃ z r, l = z :: r := by
  cases l with
  | nil => simp at h
  | cons z r => exact ⟨z, r, rfl⟩
theorem split_at (l : List α) {n : Nat} (h : n ≤ l.length) : ∃ a b, l = a ++ b ∧ a.length = n := ⟨l.take n, l.drop n, (List.take_append_drop _ _).symm, by rw [List.length_take]; omega⟩

/-! Block by block. -/
variable (nm) in
def Bl (bs : Nat) (l : List α) : Prop := ∀ k, Up nm ((l.drop (k * bs)).take bs)
theorem bl_nil (bs : Nat) : Bl nm bs ([] : List α) := fun k => by simp [up_nil]
theorem bl_small {bs : Nat} {l : List α} (h : l.length ≤ bs) (hu : Up nm l) : Bl nm bs l := fun k => by
  cases k with
  | zero => rw [Nat.zero_mul, List.drop_zero, List.take_of_length_le h]; exact hu
  | succ k =>
    rw [List.drop_eq_nil_of_le (by rw [Nat.succ_mul]; omega), List.take_nil]
    exact up_nil
theorem bl_up {bs : Nat} {l : List α} (h : l.length ≤ bs) (hb : Bl nm bs l) : Up nm l := by
  have := hb 0
  rw [Nat.zero_mul, List.drop_zero, List.take_of_length_le h] at this
  exact this
theorem bl_append {bs c : Nat} {l r : List α} (hl : l.length = c * bs) (h1 : Bl nm bs l) (h2 : Bl nm bs r) : Bl nm bs (l ++ r) := fun k => by
  rcases Nat.lt_or_ge k c with h | h
  · have h3 := Nat.mul_le_mul_right bs (show k + 1 ≤ c by omega)
    rw [Nat.succ_mul] at h3
    rw [List.drop_append_of_le_length (by omega), List.take_append_of_le_length (by rw [List.length_drop]; omega)]
    exact h1 k
  · have h3 := Nat.mul_le_mul_right bs h
    rw [List.drop_append, List.drop_eq_nil_of_le (by omega), List.nil_append, hl, ← Nat.sub_mul]
    exact h2 (k - c)
theorem bl_tail {bs c : Nat} {l r : List α} (hl : l.length = c * bs) (h : Bl nm bs (l ++ r)) : Bl nm bs r := fun k => by
  have := h (c + k)
  rw [List.drop_append, List.drop_eq_nil_of_le (by rw [Nat.add_mul]; omega), List.nil_append, hl, show (c + k) * bs - c * bs = k * bs by rw [Nat.add_mul]; omega] at this
  exact this
theorem bl_head {bs : Nat} {l r : List α} (hl : l.length ≤ bs) (h : Bl nm bs (l ++ r)) : Up nm l := by
  have := h 0
  rw [Nat.zero_mul, List.drop_zero] at this
  have h2 : l <+: (l ++ r).take bs := by
    rw [List.take_append, List.take_of_length_le hl]
    exact List.prefix_append _ _
  exact List.Pairwise.sublist h2.sublist this

/-! Merging. -/
/-- Where the two parts of two lists meet: what goes where. -/
structure Cut (nm : α → ByteArray) (u1 u2 v1 v2 : List α) : Prop where
  le : ∀ x ∈ u1, ∀ y ∈ v2, less (nm y) (nm x) = false
  lt : ∀ x ∈ u2, ∀ y ∈ v1, less (nm y) (nm x) = true
/-- The two halves merged, the whole is. -/
theorem Cut.merge {u1 u2 v1 v2 s1 s2 : List α} (c : Cut nm u1 u2 v1 v2) (hu : Up nm (u1 ++ u2)) (hv : Up nm (v1 ++ v2)) (h1 : Up nm s1) (a1 : Alike nm (u1 ++ v1) s1) (h2 : Up nm s2) (a2 : Alike nm (u2 ++ v2) s2) :
    Up nm (s1 ++ s2) ∧ Alike nm ((u1 ++ u2) ++ (v1 ++ v2)) (s1 ++ s2) := by
  obtain ⟨_, _, hu12⟩ := up_append.1 hu
  obtain ⟨_, _, hv12⟩ := up_append.1 hv
  refine ⟨up_append.2 ⟨h1, h2, fun x hx y hy => ?_⟩, ?_⟩
  · rcases List.mem_append.1 (a1.mem hx) with hx | hx
    · rcases List.mem_append.1 (a2.mem hy) with hy | hy
      · exact hu12 x hx y hy
      · exact c.le x hx y hy
    · rcases List.mem_append.1 (a2.mem hy) with hy | hy
      · exact less_asymm (c.lt y hy x hx)
      · exact hv12 x hx y hy
  · have e1 : Alike nm ((u1 ++ u2) ++ (v1 ++ v2)) ((u1 ++ v1) ++ (u2 ++ v2)) := by
      rw [List.append_assoc, List.append_assoc, ← List.append_assoc u2, ← List.append_assoc v1]
      exact (Alike.refl u1).append ((Alike.turn c.lt).append (Alike.refl v2))
    exact e1.trans (a1.append a2)
/-- One put among others. -/
theorem cut_left {x : α} {v1 v2 : List α} (h1 : ∀ y ∈ v1, less (nm y) (nm x) = true) (h2 : ∀ y ∈ v2, less (nm y) (nm x) = false) (hv : Up nm (v1 ++ v2)) : Up nm (v1 ++ x :: v2) ∧ Alike nm (x :: (v1 ++ v2)) (v1 ++ x :: v2) := by
  obtain ⟨hu1, hu2, hu3⟩ := up_append.1 hv
  refine ⟨up_append.2 ⟨hu1, List.pairwise_cons.2 ⟨h2, hu2⟩, fun y hy z hz => ?_⟩, ?_⟩
  · rcases List.mem_cons.1 hz with rfl | hz
    · exact less_asymm (h1 y hy)
    · exact hu3 y hy z hz
  · have := (Alike.turn (nm := nm) (u := [x]) (v := v1) (by simpa using h1)).append (Alike.refl v2)
    simpa using this
theorem cut_right {x : α} {u1 u2 : List α} (h1 : ∀ y ∈ u1, less (nm x) (nm y) = false) (h2 : ∀ y ∈ u2, less (nm x) (nm y) = true) (hu : Up nm (u1 ++ u2)) : Up nm (u1 ++ x :: u2) ∧ Alike nm (u1 ++ (u2 ++ [x])) (u1 ++ x :: u2) := by
  obtain ⟨hu1, hu2, hu3⟩ := up_append.1 hu
  refine ⟨up_append.2 ⟨hu1, List.pairwise_cons.2 ⟨fun y hy => less_asymm (h2 y hy), hu2⟩, fun y hy z hz => ?_⟩, ?_⟩
  · rcases List.mem_cons.1 hz with rfl | hz
    · exact h1 y hy
    · exact hu3 y hy z hz
  · have := (Alike.refl u1).append (Alike.turn (nm := nm) (u := u2) (v := [x]) (fun y hy z hz => by
      obtain rfl := List.mem_singleton.1 hz
      exact h2 y hy))
    simpa using this
end
end Go.Proofs.YtghpohiinnallaaGreatDoor.Kv

/-
  Changes in a row of memory that is turned in place: what an exchange of two leaves; what compares two of them; Reverse.
-/
namespace Go.Proofs.YtghpohiinnallaaGreatDoor.Kv
open Go Go.RowKit
open Go.Proofs.YtghpohiinnallaaGreatDoor.Batch

/-- A row that is owned whole, and begins with these changes. -/
structure Arr (w : World) (g cap : Nat) (L : List Chg) : Prop where
  lies : ∃ cur, Lies w g cur chgT ∧ cur.size = cap * 3 ∧ cur.toList.take (L.length * 3) = L.flatMap chC
  len : L.length ≤ cap
  cap : cap ≤ 9223372036854775807
section
variable {w w' : World} {g cap : Nat} {L : List Chg}
theorem Arr.lt (h : Arr w g cap L) : g < w.heap.size := by
  obtain ⟨cur, h1, _⟩ := h.lies
  exact h1.lt
theorem Arr.same (h : Arr w g cap L) (e : w'.heap[g]? = w.heap[g]?) : Arr w' g cap L := by
  obtain ⟨cur, h1, h2, h3⟩ := h.lies
  exact ⟨⟨cur, h1.same e, h2, h3⟩, h.len, h.cap⟩
theorem Arr.below (h : Arr w g cap L) (hb : Below w.heap.size w w') : Arr w' g cap L := h.same (hb.block _ h.lt)
theorem Arr.at (h : Arr w g cap L) {i : Nat} {x : Chg} (hx : L[i]? = some x) : w.rangeAt g (i * 3) (chC x) := by
  obtain ⟨cur, h1, h2, h3⟩ := h.lies
  intro j v hv
  have hj : j < 3 := by
    have := (List.getElem?_eq_some_iff.1 hv).1
    rw [chC_length] at this
    exact this
  have hi := (List.getElem?_eq_some_iff.1 hx).1
  have e := flat_get L i x hx j hj
  rw [← h3, List.getElem?_take, if_pos (by omega)] at e
  rw [h1.cell, ← hv, ← e]
  simp
theorem Arr.free (h : Arr w g cap L) (j : Nat) : w.frozen? ⟨g, j, none⟩ = false := by
  obtain ⟨cur, h1, _⟩ := h.lies
  exact h1.free j
theorem Arr.drew (h : Arr w g cap L) : Arr w.drew g cap L := h.same rfl
theorem flat_set : ∀ (q : List Chg) (i : Nat) (x : Chg), i < q.length → (q.set i x).flatMap chC = (((q.flatMap chC).set (i * 3) (.string x.key)).set (i * 3 + 1) (.string x.val)).set (i * 3 + 2) (.bool x.gone)
  | [], _, _, h => by simp at h
  | y :: q, 0, x, _ => by simp [chC]
  | y :: q, i + 1, x, h => by
    rw [List.set_cons_succ, List.flatMap_cons, List.flatMap_cons, flat_set q i x (by simpa using h)]
    have e : (i + 1) * 3 = i * 3 + 3 := by omega
    rw [e]
    simp [chC]
/-- One written over. -/
theorem Arr.set (h : Arr w g cap L) {i : Nat} (hi : i < L.length) (x : Chg) :
    Arr (((w.setCell ⟨g, i * 3, none⟩ (.string x.key)).setCell ⟨g, i * 3 + 1, none⟩ (.string x.val)).setCell ⟨g, i * 3 + 2, none⟩ (.bool x.gone)) g cap (L.set i x) := by
  obtain ⟨cur, h1, h2, h3⟩ := h.lies
  refine ⟨⟨_, ((h1.set (i * 3) _).set (i * 3 + 1) _).set (i * 3 + 2) _, by simp [h2], ?_⟩, by rw [List.length_set]; exact h.len, h.cap⟩
  rw [List.length_set, flat_set L i x hi, ← h3]
  simp only [Array.toList_setIfInBounds, List.take_set]
theorem Arr.setFr (w : World) (g i : Nat) (a b c : Value) : Fr (fun k => k = g) w (((w.setCell ⟨g, i, none⟩ a).setCell ⟨g, i + 1, none⟩ b).setCell ⟨g, i + 2, none⟩ c) :=
  (((Fr.refl _ w).setCell (F := fun k => k = g) (fun _ => rfl) a).setCell (F := fun k => k = g) (fun _ => rfl) b).setCell (F := fun k => k = g) (fun _ => rfl) c
/-- The world behind an exchange. -/
abbrev swW (w : World) (g i j : Nat) (x y : Chg) : World :=
  (((((w.setCell ⟨g, i * 3, none⟩ (.string y.key)).setCell ⟨g, i * 3 + 1, none⟩ (.string y.val)).setCell ⟨g, i * 3 + 2, none⟩ (.bool y.gone)).setCell ⟨g, j * 3, none⟩ (.string x.key)).setCell ⟨g, j * 3 + 1, none⟩ (.string x.val)).setCell ⟨g, j * 3 + 2, none⟩ (.bool x.gone)
theorem Arr.swap (h : Arr w g cap L) {i j : Nat} (hi : i < L.length) (hj : j < L.length) (x y : Chg) : Arr (swW w g i j x y) g cap ((L.set i y).set j x) :=
  (h.set hi y).set (by rw [List.length_set]; exact hj) x
theorem swFr (w : World) (g i j : Nat) (x y : Chg) : Fr (fun k => k = g) w (swW w g i j x y) := (Arr.setFr w g (i * 3) _ _ _).trans (Arr.setFr _ g (j * 3) _ _ _) fun _ _ e => e
end
/-- What a call that turns the row leaves. -/
def Turned (w : World) (g cap : Nat) (L' : List Chg) (e : Ending) (w' : World) : Prop := e = .returned (.tuple #[]) ∧ Arr w' g cap L' ∧ Fr (fun k => k = g) w w'

abbrev cmpV : Value := .func (.func 89) #[] #[]
abbrev eqV : Value := .func (.func 91) #[] #[]
set_option maxHeartbeats 1000000 in
theorem cmp_any (a b : Chg) (w : World) : Calls Tryz.prog 89 #[chV a, chV b] w fun e w' => e = .returned (.int .i64 (Lib.compareBytes (Batch.bl a.key) (Batch.bl b.key))) ∧ Below w.heap.size w w' := by
  have hA : Below w.heap.size w ((w.alloc (boxC chgT a)).alloc (boxC chgT b)) := ((Below.refl _ _).alloc (Nat.le_refl _) _).alloc (by simp) _
  have HA := Lib.hid hA
  clear hA
  go_enter Tryz.func89, Tryz.ntmps89
  go_wp2_with (go_at_call 75; refine (compare_any _ _ _).mono ?_; rintro e w' ⟨rfl, rfl⟩)
  go_ret
  exact ⟨rfl, HA.out⟩
set_option maxHeartbeats 1000000 in
theorem eq_any (a b : Chg) (w : World) (v : Bool) (hv : decide (a.key = b.key) = v) : Calls Tryz.prog 91 #[chV a, chV b] w fun e w' => e = .returned (.bool v) ∧ Below w.heap.size w w' := by
  have hA : Below w.heap.size w ((w.alloc (boxC chgT a)).alloc (boxC chgT b)) := ((Below.refl _ _).alloc (Nat.le_refl _) _).alloc (by simp) _
  have HA := Lib.hid hA
  have he := (key_eq a.key b.key).trans hv
  clear hA hv
  go_enter Tryz.func91, Tryz.ntmps91
  go_wp2_with fail
  go_ret
  exact ⟨rfl, HA.out⟩

set_option maxHeartbeats 2000000 in
theorem reverse_any (w : World) (g cap : Nat) (L : List Chg) (h : Arr w g cap L) (hl : L.length ≤ 100000) :
    Calls Tryz.prog 87 #[.slice (some ⟨g, 0, none⟩) L.length cap] w (Turned w g cap L.reverse) := by
  have HC := Lib.hid h.cap
  have HL := Lib.hid h.len
  obtain ⟨n, hn⟩ : ∃ n, n = L.length := ⟨_, rfl⟩
  rw [← hn] at hl HL ⊢
  have HN := Lib.hid hn
  clear hn
  go_enter Tryz.func87, Tryz.ntmps87
  go_wp2_with fail
  go_loopw [2, 3] (fun i j wr => ∃ (p : Nat) (jz : Int) (A M B : List Chg), L = A ++ M ++ B ∧ A.length = p ∧ B.length = p ∧ i = .int .i64 p ∧ j = .int .i64 jz ∧ jz = (p : Int) + M.length - 1 ∧ Arr wr g cap (B.reverse ++ (M ++ A.reverse)) ∧ Fr (fun k => k = g) w wr) (fun i j _ => (intOf j - intOf i + 1).toNat)
  case atStart => exact ⟨0, (n : Int) - 1, [], L, [], by simp, rfl, rfl, rfl, rfl, by rw [HN.out]; omega, by simpa using h, Fr.refl _ _⟩
  case round =>
    obtain ⟨p, jz, A, M, B, hL, hA, hB, rfl, rfl, hj, ha, hf⟩ := hrel
    have hlen : n = p + M.length + p := by rw [HN.out, hL]; simp [hA, hB]; omega
    by_cases hlt : 2 ≤ M.length
    · obtain ⟨x, M1, hM⟩ := cons_of (show 0 < M.length by omega)
      obtain ⟨M2, y, hM1⟩ := snoc_of (show 0 < M1.length by rw [hM] at hlt; simp at hlt; omega)
      have e0 : B.reverse ++ (M ++ A.reverse) = B.reverse ++ x :: (M2 ++ y :: A.reverse) := by rw [hM, hM1]; simp
      have hm : M.length = M2.length + 2 := by rw [hM, hM1]; simp
      obtain ⟨r, hr⟩ : ∃ r : Nat, r = p + 1 + M2.length := ⟨_, rfl⟩
      obtain rfl : jz = (r : Int) := by omega
      obtain ⟨s1, s2, s3⟩ := swap_list B.reverse M2 A.reverse x y (i := p) (j := r) (by simp [hB]) hr.symm
      rw [e0] at ha
      obtain ⟨x0, x1, x2⟩ := three (ha.at s1)
      obtain ⟨y0, y1, y2⟩ := three (ha.at s2)
      have f0 := ha.free (p * 3)
      have f1 := ha.free (p * 3 + 1)
      have f2 := ha.free (p * 3 + 2)
      have g0 := ha.free (r * 3)
      have g1 := ha.free (r * 3 + 1)
      have g2 := ha.free (r * 3 + 2)
      have hsw := ha.swap (i := p) (j := r) (List.getElem?_eq_some_iff.1 s1).1 (List.getElem?_eq_some_iff.1 s2).1 x y
      rw [s3] at hsw
      have hpr : p < r := by omega
      have hrn : r < n := by omega
      have HS := Lib.hid (And.intro hsw (And.intro hf (And.intro hL (And.intro hM (And.intro hM1 (And.intro hA hB))))))
      have HJ := Lib.hid (And.intro hr hlen)
      clear ha hf hL s1 s2 s3 e0 hM hM1 hA hB hsw hr hlen hlt hm hj
      go_wp2_with fail
      go_region
      all_goals
        go_wp2_with fail
        go_roundw
        case rel =>
          obtain ⟨hsw, hf, hL, hM, hM1, hA, hB⟩ := HS.out
          obtain ⟨hr, hlen⟩ := HJ.out
          refine ⟨p + 1, _, A ++ [x], M2, y :: B, by rw [hL, hM, hM1]; simp, by simp [hA], by simp [hB], by simp, rfl, by omega, ?_, ?_⟩
          · have e : (y :: B).reverse ++ (M2 ++ (A ++ [x]).reverse) = B.reverse ++ y :: (M2 ++ x :: A.reverse) := by simp
            rw [e]
            exact hsw.drew
          · exact (hf.trans (swFr wr g p r x y) fun _ _ e => e).drew
        case measure => simp [intOf]; omega
    · have hle : jz ≤ (p : Int) := by omega
      have HS := Lib.hid (And.intro ha (And.intro hf hL))
      have hM : M.length ≤ 1 := by omega
      clear ha hf hL hj hlen
      go_wp2_with fail
      go_end0
      obtain ⟨ha, hf, hL⟩ := HS.out
      refine ⟨rfl, ?_, hf⟩
      have e : B.reverse ++ (M ++ A.reverse) = L.reverse := by
        rw [hL]
        match M, hM with
        | [], _ => simp
        | [m], _ => simp
      rw [← e]
      exact ha
end Go.Proofs.YtghpohiinnallaaGreatDoor.Kv

/-
  Walks of the exchange of two ranges, and of what turns two neighbours about.
-/
namespace Go.Proofs.YtghpohiinnallaaGreatDoor.Kv
open Go Go.RowKit
open Go.Proofs.YtghpohiinnallaaGreatDoor.Batch

set_option maxHeartbeats 2000000 in
theorem swapRange_any (w : World) (g cap N a b n : Nat) (X p M q Y : List Chg) (h : Arr w g cap (X ++ (p ++ (M ++ (q ++ Y))))) (hN : (X ++ (p ++ (M ++ (q ++ Y)))).length = N) (hX : X.length = a) (hp : p.length = n) (hq : q.length = n) (hM : a + n + M.length = b) (hl : N ≤ 100000) :
    Calls Tryz.prog 164 #[.slice (some ⟨g, 0, none⟩) N cap, .int .i64 a, .int .i64 b, .int .i64 n, cmpV] w (Turned w g cap (X ++ (q ++ (M ++ (p ++ Y))))) := by
  have hN2 : N = a + n + M.length + n + Y.length := by rw [← hN]; simp [hX, hp, hq]; omega
  have HX := Lib.hid (And.intro hX (And.intro hp (And.intro hq (And.intro hM hN2))))
  have hc := h.cap
  have hc2 : N ≤ cap := by rw [← hN]; exact h.len
  have hbn : b + n ≤ N := by omega
  have hanb : a + n ≤ b := by omega
  clear hX hp hq hM hN2 hN
  go_enter Tryz.func164, Tryz.ntmps164
  go_wp2_with fail
  go_loopw [10] (fun i wr => ∃ (k : Nat) (pa pb qa qb : List Chg), p = pa ++ pb ∧ q = qa ++ qb ∧ pa.length = k ∧ qa.length = k ∧ k ≤ n ∧ i = .int .i64 k ∧ Arr wr g cap (X ++ (qa ++ (pb ++ (M ++ (pa ++ (qb ++ Y)))))) ∧ Fr (fun k => k = g) w wr) (fun i _ => n - (intOf i).toNat)
  case atStart => exact ⟨0, [], p, [], q, rfl, rfl, rfl, rfl, Nat.zero_le _, rfl, by simpa using h, Fr.refl _ _⟩
  case round =>
    obtain ⟨k, pa, pb, qa, qb, hpp, hqq, hpa, hqa, hkn, rfl, ha, hf⟩ := hrel
    obtain ⟨hX, hp, hq, hM, hN2⟩ := HX.out
    have hpb : pa.length + pb.length = n := by rw [← hp, hpp, List.length_append]
    have hqb : qa.length + qb.length = n := by rw [← hq, hqq, List.length_append]
    by_cases hlt : k < n
    · obtain ⟨x, pb1, hx⟩ := cons_of (show 0 < pb.length by omega)
      obtain ⟨y, qb1, hy⟩ := cons_of (show 0 < qb.length by omega)
      have hxl : pb.length = pb1.length + 1 := by rw [hx]; simp
      have e0 : X ++ (qa ++ (pb ++ (M ++ (pa ++ (qb ++ Y))))) = (X ++ qa) ++ x :: ((pb1 ++ (M ++ pa)) ++ y :: (qb1 ++ Y)) := by rw [hx, hy]; simp
      rw [e0] at ha
      obtain ⟨P, hP⟩ : ∃ P, P = a + k := ⟨_, rfl⟩
      obtain ⟨R, hR⟩ : ∃ R, R = b + k := ⟨_, rfl⟩
      obtain ⟨s1, s2, s3⟩ := swap_list (X ++ qa) (pb1 ++ (M ++ pa)) (qb1 ++ Y) x y (i := P) (j := R) (by simp; omega) (by simp; omega)
      obtain ⟨x0, x1, x2⟩ := three (ha.at s1)
      obtain ⟨y0, y1, y2⟩ := three (ha.at s2)
      have f0 := ha.free (P * 3)
      have f1 := ha.free (P * 3 + 1)
      have f2 := ha.free (P * 3 + 2)
      have g0 := ha.free (R * 3)
      have g1 := ha.free (R * 3 + 1)
      have g2 := ha.free (R * 3 + 2)
      have hsw := ha.swap (i := P) (j := R) (List.getElem?_eq_some_iff.1 s1).1 (List.getElem?_eq_some_iff.1 s2).1 x y
      rw [s3] at hsw
      have hpr : P < R := by omega
      have hrn : R < N := by omega
      have eP : (a : Int) + (k : Int) = (P : Int) := by omega
      have eR : (b : Int) + (k : Int) = (R : Int) := by omega
      have HS := Lib.hid (And.intro hsw (And.intro hf (And.intro hpp (And.intro hqq (And.intro hx (And.intro hy (And.intro hpa hqa)))))))
      clear ha hf hpp hqq hx hy hpa hqa hsw s1 s2 s3 e0 hX hp hq hM hN2 hpb hqb hxl hP hR
      go_wp2_with fail
      go_region
      all_goals
        go_wp2_with fail
        go_roundw
        case rel =>
          obtain ⟨hsw, hf, hpp, hqq, hx, hy, hpa, hqa⟩ := HS.out
          refine ⟨k + 1, pa ++ [x], pb1, qa ++ [y], qb1, by rw [hpp, hx]; simp, by rw [hqq, hy]; simp, by simp [hpa], by simp [hqa], by omega, by simp, ?_, ?_⟩
          · have e : X ++ ((qa ++ [y]) ++ (pb1 ++ (M ++ ((pa ++ [x]) ++ (qb1 ++ Y))))) = (X ++ qa) ++ y :: ((pb1 ++ (M ++ pa)) ++ x :: (qb1 ++ Y)) := by simp
            rw [e]
            exact hsw.drew
          · exact (hf.trans (swFr wr g P R x y) fun _ _ e => e).drew
        case measure => simp [intOf]; omega
    · obtain rfl : k = n := by omega
      have hpb0 : pb = [] := List.length_eq_zero_iff.1 (by omega)
      have hqb0 : qb = [] := List.length_eq_zero_iff.1 (by omega)
      have HS := Lib.hid (And.intro ha (And.intro hf (And.intro hpp (And.intro hqq (And.intro hpb0 hqb0)))))
      clear ha hf hpp hqq hpb0 hqb0 hpa hqa hX hp hq hM hN2 hpb hqb
      go_wp2_with fail
      go_end0
      obtain ⟨ha, hf, hpp, hqq, hpb0, hqb0⟩ := HS.out
      refine ⟨rfl, ?_, hf⟩
      subst hpb0 hqb0
      rw [hpp, hqq]
      simpa using ha

theorem Turned.trans {w w1 w2 : World} {g cap : Nat} {L' L2 : List Chg} {e1 e2 : Ending} (h1 : Turned w g cap L' e1 w1) (h2 : Turned w1 g cap L2 e2 w2) : Turned w g cap L2 e2 w2 :=
  ⟨h2.1, h2.2.1, h1.2.2.trans h2.2.2 fun _ _ e => e⟩
set_option maxHeartbeats 2000000 in
theorem rotate_any (w : World) (g cap N a m b : Nat) (X u v Y : List Chg) (h : Arr w g cap (X ++ (u ++ (v ++ Y)))) (hN : (X ++ (u ++ (v ++ Y))).length = N) (hX : X.length = a) (hu : a + u.length = m) (hv : m + v.length = b) (h1 : a < m) (h2 : m < b) (hl : N ≤ 100000) :
    Calls Tryz.prog 160 #[.slice (some ⟨g, 0, none⟩) N cap, .int .i64 a, .int .i64 m, .int .i64 b, cmpV] w (Turned w g cap (X ++ (v ++ (u ++ Y)))) := by
  have hc := h.cap
  have hmb : b ≤ N := by rw [← hN]; simp; omega
  have HD := Lib.hid (And.intro hX (And.intro hu (And.intro hv hN)))
  clear hX hN
  have ei : (m : Int) - (a : Int) = (u.length : Int) := by omega
  have ej : (b : Int) - (m : Int) = (v.length : Int) := by omega
  go_enter Tryz.func160, Tryz.ntmps160
  go_wp2_with fail
  clear ei ej hu hv
  go_loopw [10, 11] (fun iv jv wr => ∃ (X1 u1 v1 Y1 : List Chg) (xl i j : Nat), X1.length = xl ∧ u1.length = i ∧ v1.length = j ∧ xl + i = m ∧ 1 ≤ i ∧ 1 ≤ j ∧ iv = .int .i64 i ∧ jv = .int .i64 j ∧ X1 ++ (v1 ++ (u1 ++ Y1)) = X ++ (v ++ (u ++ Y)) ∧ Arr wr g cap (X1 ++ (u1 ++ (v1 ++ Y1))) ∧ Fr (fun k => k = g) w wr) (fun i j _ => (intOf i + intOf j).toNat)
  case atStart =>
    obtain ⟨hX, hu, hv, hN⟩ := HD.out
    exact ⟨X, u, v, Y, a, u.length, v.length, hX, rfl, rfl, by omega, by omega, by omega, rfl, rfl, rfl, h, Fr.refl _ _⟩
  case round =>
    obtain ⟨X1, u1, v1, Y1, xl, i, j, hX1, hu1, hv1, hxm, hi, hj, rfl, rfl, hT, ha, hf⟩ := hrel
    have hN1 : xl + i + j + Y1.length = N := by
      have := congrArg List.length hT
      obtain ⟨hX, hu, hv, hN⟩ := HD.out
      simp at this hN
      omega
    have em : (m : Int) - (i : Int) = (xl : Int) := by omega
    rcases Nat.lt_trichotomy i j with hij | hij | hij
    · -- the second part is longer
      obtain ⟨va, vb, hvv, hva⟩ := split_at v1 (n := j - i) (by omega)
      have hvb : vb.length = i := by have := congrArg List.length hvv; simp at this; omega
      have hsw := swapRange_any wr g cap N xl (xl + i + (j - i)) i X1 u1 va vb Y1 (by rw [hvv] at ha; simpa using ha) (by simp; omega) hX1 hu1 hvb (by omega) hl
      have hne : ((i : Int) == (j : Int)) = false := by simp; omega
      have hne2 : ((i : Int) != (j : Int)) = true := by simp; omega
      have hne3 : ¬ (i : Int) = (j : Int) := by omega
      have ep : (m : Int) + (j : Int) - (i : Int) = ((xl + i + (j - i) : Nat) : Int) := by omega
      have HS := Lib.hid (And.intro hf (And.intro hT (And.intro hX1 (And.intro hu1 (And.intro hvv (And.intro hva hvb))))))
      have HSW := Lib.hid hsw
      obtain ⟨Q, hQ⟩ : ∃ Q, Q = xl + i + (j - i) := ⟨_, rfl⟩
      rw [← hQ] at HSW ep
      have HQ := Lib.hid hQ
      clear hf hT hX1 hu1 hv1 hvv hva hvb ha hsw hQ
      go_wp2_with fail
      refine HSW.out.mono ?_
      rintro e w2 ⟨rfl, ha2, hf2⟩
      have HA := Lib.hid (And.intro ha2 hf2)
      clear ha2 hf2
      go_wp2_with fail
      go_roundw
      case rel =>
        obtain ⟨hf, hT, hX1, hu1, hvv, hva, hvb⟩ := HS.out
        exact ⟨X1, vb, va, u1 ++ Y1, xl, i, j - i, hX1, hvb, hva, hxm, hi, by omega, rfl, by congr 1; omega, by rw [← hT, hvv]; simp, by simpa using HA.out.1, hf.trans HA.out.2 fun _ _ e => e⟩
      case measure => simp [intOf]; omega
    · -- both are as long
      subst hij
      have hsw := swapRange_any wr g cap N xl m i X1 u1 [] v1 Y1 (by simpa using ha) (by simp; omega) hX1 hu1 hv1 (by simp; omega) hl
      have HS := Lib.hid (And.intro hf hT)
      have HSW := Lib.hid hsw
      clear hf hT hX1 hu1 hv1 ha hsw
      go_wp2_with fail
      refine HSW.out.mono ?_
      rintro e w2 ⟨rfl, ha2, hf2⟩
      have HA := Lib.hid (And.intro ha2 hf2)
      clear ha2 hf2
      go_wp2_with fail
      go_end0
      obtain ⟨hf, hT⟩ := HS.out
      refine ⟨rfl, ?_, hf.trans HA.out.2 fun _ _ e => e⟩
      rw [← hT]
      simpa using HA.out.1
    · -- the first part is longer
      obtain ⟨ua, ub, huu, hua⟩ := split_at u1 (n := j) (by omega)
      have hub : ub.length = i - j := by have := congrArg List.length huu; simp at this; omega
      have hsw := swapRange_any wr g cap N xl m j X1 ua ub v1 Y1 (by rw [huu] at ha; simpa using ha) (by simp; omega) hX1 hua hv1 (by omega) hl
      have hne : ((i : Int) == (j : Int)) = false := by simp; omega
      have hne2 : ((i : Int) != (j : Int)) = true := by simp; omega
      have hne3 : ¬ (i : Int) = (j : Int) := by omega
      have HS := Lib.hid (And.intro hf (And.intro hT (And.intro hX1 (And.intro hv1 (And.intro huu (And.intro hua hub))))))
      have HSW := Lib.hid hsw
      clear hf hT hX1 hu1 hv1 huu hua hub ha hsw
      go_wp2_with fail
      refine HSW.out.mono ?_
      rintro e w2 ⟨rfl, ha2, hf2⟩
      have HA := Lib.hid (And.intro ha2 hf2)
      clear ha2 hf2
      go_wp2_with fail
      go_roundw
      case rel =>
        obtain ⟨hf, hT, hX1, hv1, huu, hua, hub⟩ := HS.out
        exact ⟨X1 ++ v1, ub, ua, Y1, xl + j, i - j, j, by simp [hX1, hv1], hub, hua, by omega, by omega, hj, by congr 1; omega, rfl, by rw [← hT, huu]; simp, by simpa using HA.out.1, hf.trans HA.out.2 fun _ _ e => e⟩
      case measure => simp [intOf]; omega
end Go.Proofs.YtghpohiinnallaaGreatDoor.Kv

/-
  Walk of the sort by insertion, of a part of a row: what has the same key stays in its order.
-/
namespace Go.Proofs.YtghpohiinnallaaGreatDoor.Kv
open Go Go.RowKit
open Go.Proofs.YtghpohiinnallaaGreatDoor.Batch
open Go.Proofs.YtghpohiinnallaaGreatDoor.Sha (Kept wp_region_kept wp_region_kept_tail quiet_load_row)

/-- What compares tells whether the one is ahead. -/
theorem cmp_sign (a b : ByteArray) : ∃ n : Int, Lib.compareBytes (Batch.bl a) (Batch.bl b) = n ∧ ((n = -1 ∧ less a b = true) ∨ (n = 0 ∧ less a b = false) ∨ (n = 1 ∧ less a b = false)) := by
  by_cases h : less a b = true
  · exact ⟨-1, cmp_lt h, .inl ⟨rfl, h⟩⟩
  · have h : less a b = false := by simpa using h
    by_cases e : a = b
    · subst e; exact ⟨0, cmp_same _, .inr (.inl ⟨rfl, h⟩)⟩
    · exact ⟨1, cmp_gt (less_total h fun e' => e e'.symm), .inr (.inr ⟨rfl, h⟩)⟩
theorem cmp_n (a b : Chg) (w : World) (n : Int) (hn : Lib.compareBytes (Batch.bl a.key) (Batch.bl b.key) = n) : Calls Tryz.prog 89 #[chV a, chV b] w fun e w' => e = .returned (.int .i64 n) ∧ Below w.heap.size w w' := by
  subst hn; exact cmp_any a b w
/-- A row turned, and sorted in between. -/
def Sorted (w : World) (g cap : Nat) (X s Y : List Chg) (e : Ending) (w' : World) : Prop := ∃ s', Turned w g cap (X ++ (s' ++ Y)) e w' ∧ Up Chg.key s' ∧ Alike Chg.key s s' ∧ s'.length = s.length
theorem Arr.range {w : World} {g cap : Nat} {L : List Chg} (h : Arr w g cap L) {i : Nat} {x : Chg} (hx : L[i]? = some x) {W : World} (hk : Kept w W) : W.rangeAt g (i * 3) (chC x) := range_below (h.at hx) h.lt hk
theorem get_mid (X Y : List Chg) (x : Chg) {i : Nat} (hi : X.length = i) : (X ++ x :: Y)[i]? = some x := by
  subst hi; rw [List.getElem?_append_right (Nat.le_refl _)]; simp

set_option maxHeartbeats 4000000 in
theorem insertion_any (w : World) (g cap N a b : Nat) (X s Y : List Chg) (h : Arr w g cap (X ++ (s ++ Y))) (hN : (X ++ (s ++ Y)).length = N) (hX : X.length = a) (hs : a + s.length = b) (hl : N ≤ 100000) :
    Calls Tryz.prog 148 #[.slice (some ⟨g, 0, none⟩) N cap, .int .i64 a, .int .i64 b, cmpV] w (Sorted w g cap X s Y) := by
  have hbN : b ≤ N := by rw [← hN]; simp; omega
  have hcN : N ≤ cap := by rw [← hN]; exact h.len
  have hcap := h.cap
  cases s with
  | nil =>
    obtain rfl : a = b := by simpa using hs
    have HA := Lib.hid h
    clear h hN hs
    go_enter Tryz.func148, Tryz.ntmps148
    go_wp2_with fail
    go_loopw [8] (fun i wr => i = .int .i64 ((a : Int) + 1) ∧ wr = w) (fun _ _ => 0)
    case atStart => exact ⟨rfl, rfl⟩
    case round =>
      obtain ⟨rfl, rfl⟩ := hrel
      go_wp2_with fail
      go_end0
      exact ⟨[], ⟨rfl, HA.out, Fr.refl _ _⟩, up_nil, Alike.refl _, rfl⟩
  | cons z s0 =>
    have haN : a < N := by simp at hs; omega
    have HX := Lib.hid (And.intro hX hs)
    have HN := Lib.hid hN
    clear hN hX hs
    go_enter Tryz.func148, Tryz.ntmps148
    go_wp2_with fail
    go_loopw [8] (fun iv wr => ∃ (i : Nat) (s1 t s2 : List Chg), z :: s0 = s1 ++ s2 ∧ 1 ≤ t.length ∧ a + t.length = i ∧ t.length = s1.length ∧ iv = .int .i64 i ∧ Up Chg.key t ∧ Alike Chg.key s1 t ∧ Arr wr g cap (X ++ (t ++ (s2 ++ Y))) ∧ Fr (fun k => k = g) w wr) (fun i _ => b - (intOf i).toNat)
    case atStart => exact ⟨a + 1, [z], [z], s0, rfl, Nat.le_refl _, rfl, rfl, by simp, up_one z, Alike.refl _, by simpa using h, Fr.refl _ _⟩
    case round =>
      obtain ⟨i, s1, t, s2, hz, ht1, hti, hts, rfl, hup, hal, ha, hf⟩ := hrel
      obtain ⟨hX, hs⟩ := HX.out
      have hb2 : i + s2.length = b := by have := congrArg List.length hz; rw [List.length_append] at this; omega
      by_cases hlt : i < b
      · obtain ⟨x, s3, hx⟩ := cons_of (show 0 < s2.length by omega)
        have HO := Lib.hid (And.intro hz (And.intro hti (And.intro hts (And.intro hup (And.intro hal (And.intro hx ha))))))
        have HF := Lib.hid hf
        clear hz hts hup hal ha hf
        go_wp2_with fail
        obtain ⟨wo, hwo⟩ : ∃ wo, wo = wr := ⟨_, rfl⟩
        rw [← hwo] at HO HF
        go_loopw [9] (fun jv wr2 => ∃ (j : Nat) (t1 t2 : List Chg), t = t1 ++ t2 ∧ a + t1.length = j ∧ jv = .int .i64 j ∧ (∀ y ∈ t2, less x.key y.key = true) ∧ Arr wr2 g cap ((X ++ t1) ++ x :: (t2 ++ (s3 ++ Y))) ∧ Fr (fun k => k = g) w wr2) (fun j _ => (intOf j).toNat)
        case atStart =>
          obtain ⟨hz, hti, hts, hup, hal, hx, ha⟩ := HO.out
          exact ⟨i, t, [], by simp, hti, rfl, fun y hy => (by cases hy), (by rw [hx] at ha; rw [← hwo]; simpa using ha), (by rw [← hwo]; exact HF.out)⟩
        case round =>
          obtain ⟨j, t1, t2, ht, hj, rfl, hx2, ha, hf⟩ := hrel
          have HA0 := Lib.hid ha
          have hji : j ≤ i := by have := congrArg List.length ht; rw [List.length_append] at this; omega
          by_cases hja : a < j
          · obtain ⟨t0, y, hy⟩ := snoc_of (show 0 < t1.length by omega)
            obtain ⟨p, hp⟩ : ∃ p, j = p + 1 := ⟨j - 1, by omega⟩
            have hpl : (X ++ t0).length = p := by have := congrArg List.length hy; simp at this; simp; omega
            have e0 : (X ++ t1) ++ x :: (t2 ++ (s3 ++ Y)) = (X ++ t0) ++ y :: ([] ++ x :: (t2 ++ (s3 ++ Y))) := by rw [hy]; simp
            rw [e0] at ha
            obtain ⟨q1, q2, q3⟩ := swap_list (X ++ t0) [] (t2 ++ (s3 ++ Y)) y x (i := p) (j := j) hpl (by simp; omega)
            have HR1 := Lib.hid (fun (W : World) (hk : Kept wr W) => ha.range q1 hk)
            have HR2 := Lib.hid (fun (W : World) (hk : Kept wr W) => ha.range q2 hk)
            obtain ⟨n, hn, hns⟩ := cmp_sign x.key y.key
            have HCM := Lib.hid (fun (W : World) => cmp_n x y W n hn)
            have hjN : j < N := by omega
            have hpj : p < j := by omega
            have ejp : (j : Int) - 1 = (p : Int) := by omega
            have hgj : decide ((a : Int) < (j : Int)) = true := decide_eq_true (by omega)
            have hgj2 : decide (a < j) = true := decide_eq_true hja
            have HS := Lib.hid (And.intro ht (And.intro hj (And.intro hx2 (And.intro ha (And.intro hf (And.intro hy (And.intro hpl (And.intro q1 (And.intro q2 q3)))))))))
            have HP := Lib.hid hp
            clear ht hj hx2 ha hf hy hpl q1 q2 q3 e0 hn hp
            have hle1 : less x.key y.key = false → ∀ q ∈ t1, less x.key q.key = false := fun hls q hq => by
              obtain ⟨ht, _, _, _, _, hy, _⟩ := HS.out
              obtain ⟨_, _, _, hup, _⟩ := HO.out
              rw [ht, hy] at hup
              have hu1 := (up_append.1 hup).1
              rw [hy] at hq
              rcases List.mem_append.1 hq with hq | hq
              · exact le_trans' ((up_append.1 hu1).2.2 q hq y (by simp)) hls
              · obtain rfl := List.mem_singleton.1 hq
                exact hls
            have HL1 := Lib.hid hle1
            clear hle1
            rcases hns with ⟨rfl, hls⟩ | ⟨rfl, hls⟩ | ⟨rfl, hls⟩
            · have HLS := Lib.hid hls
              clear hls
              go_wp2_with fail
              refine wp_region_kept (by kernel_rfl) (by kernel_rfl) ?_
              repeat (first
                | (go_big_quiet_want
                   first
                     | refine quiet_load_row chgT (.tmp 25) rfl g (j * 3) (by simp [Act.eval]) (chC x) _ (fun w' hk => HR2.out w' hk) Tryz.underlying123 rfl size3 ?_
                     | refine quiet_load_row chgT (.tmp 30) rfl g (p * 3) (by simp [Act.eval]) (chC y) _ (fun w' hk => HR1.out w' hk) Tryz.underlying123 rfl size3 ?_
                   go_simp
                   go_big_quiet_on)
                | (go_big_quiet_step ((first | (exact fun _ => rfl) | (intro hk; go_at_call 89; exact hk.call (HCM.out _))))))
              refine wpQuiet_nil ?_
              intro W hk
              obtain ⟨ht, hj, hx2, ha, hf, hy, hpl, q1, q2, q3⟩ := HS.out
              have ha2 := ha.below hk
              obtain ⟨y0, y1, y2⟩ := three (ha2.at q1)
              obtain ⟨x0, x1, x2⟩ := three (ha2.at q2)
              have f0 := ha2.free (p * 3)
              have f1 := ha2.free (p * 3 + 1)
              have f2 := ha2.free (p * 3 + 2)
              have g0 := ha2.free (j * 3)
              have g1 := ha2.free (j * 3 + 1)
              have g2 := ha2.free (j * 3 + 2)
              have hsw := ha2.swap (i := j) (j := p) (List.getElem?_eq_some_iff.1 q2).1 (List.getElem?_eq_some_iff.1 q1).1 x y
              have q4 : ((((X ++ t0) ++ y :: ([] ++ x :: (t2 ++ (s3 ++ Y)))).set j y).set p x) = (X ++ t0) ++ x :: ([] ++ y :: (t2 ++ (s3 ++ Y))) := by
                rw [List.set_comm _ _ (by omega)]; exact q3
              rw [q4] at hsw
              have HW := Lib.hid (And.intro hsw (hf.trans (Fr.of_below (F := fun k => k = g) hk) fun _ _ e => e))
              clear ht hj hx2 ha hf hy hpl q1 q2 q3 ha2 hsw q4 hk
              go_wp2_with fail
              go_region
              all_goals
                go_wp2_with fail
                go_roundw
                case rel =>
                  obtain ⟨ht, hj, hx2, ha, hf, hy, hpl, q1, q2, q3⟩ := HS.out
                  refine ⟨p, t0, y :: t2, by rw [ht, hy]; simp, ?_, rfl, ?_, ?_, ?_⟩
                  · have := HP.out; have := congrArg List.length hy; simp at this; omega
                  · intro q hq
                    rcases List.mem_cons.1 hq with rfl | hq
                    · exact HLS.out
                    · exact hx2 q hq
                  · have := HW.out.1.drew
                    simpa using this
                  · exact (HW.out.2.trans (swFr W g j p x y) fun _ _ e => e).drew
                case measure => simp [intOf]; omega
            · have HLE := Lib.hid (HL1.out hls)
              clear hls
              go_wp2_with fail
              refine wp_region_kept (by kernel_rfl) (by kernel_rfl) ?_
              repeat (first
                | (go_big_quiet_want
                   first
                     | refine quiet_load_row chgT (.tmp 25) rfl g (j * 3) (by simp [Act.eval]) (chC x) _ (fun w' hk => HR2.out w' hk) Tryz.underlying123 rfl size3 ?_
                     | refine quiet_load_row chgT (.tmp 30) rfl g (p * 3) (by simp [Act.eval]) (chC y) _ (fun w' hk => HR1.out w' hk) Tryz.underlying123 rfl size3 ?_
                   go_simp
                   go_big_quiet_on)
                | (go_big_quiet_step ((first | (exact fun _ => rfl) | (intro hk; go_at_call 89; exact hk.call (HCM.out _))))))
              refine wpQuiet_nil ?_
              intro W hk
              have HKW := Lib.hid hk
              clear hk
              go_wp2_with fail
              go_roundw
              case rel =>
                obtain ⟨ht, hj, hx2, ha, hf, _⟩ := HS.out
                obtain ⟨hz, hti, hts, hup, hal, hx, _⟩ := HO.out
                refine ⟨i + 1, s1 ++ [x], t1 ++ x :: t2, s3, by rw [hz, hx]; simp, by simp; omega, ?_, ?_, by simp, ?_, ?_, ?_, ?_⟩
                · rw [← hti, ht]; simp; omega
                · simp [← hts, ht]; omega
                · rw [ht] at hup
                  refine (cut_right (x := x) ?_ hx2 hup).1
                  exact HLE.out
                · rw [ht] at hup hal
                  have h2 := (cut_right (x := x) (u1 := t1) (u2 := t2) HLE.out hx2 hup).2
                  refine (hal.append (Alike.refl [x])).trans ?_
                  simpa using h2
                · have e : X ++ ((t1 ++ x :: t2) ++ (s3 ++ Y)) = (X ++ t1) ++ x :: (t2 ++ (s3 ++ Y)) := by simp
                  rw [e]
                  exact HA0.out.below HKW.out
                · exact hf.trans (Fr.of_below (F := fun k => k = g) HKW.out) fun _ _ e => e
              case measure => simp [intOf]; omega
            · have HLE := Lib.hid (HL1.out hls)
              clear hls
              go_wp2_with fail
              refine wp_region_kept (by kernel_rfl) (by kernel_rfl) ?_
              repeat (first
                | (go_big_quiet_want
                   first
                     | refine quiet_load_row chgT (.tmp 25) rfl g (j * 3) (by simp [Act.eval]) (chC x) _ (fun w' hk => HR2.out w' hk) Tryz.underlying123 rfl size3 ?_
                     | refine quiet_load_row chgT (.tmp 30) rfl g (p * 3) (by simp [Act.eval]) (chC y) _ (fun w' hk => HR1.out w' hk) Tryz.underlying123 rfl size3 ?_
                   go_simp
                   go_big_quiet_on)
                | (go_big_quiet_step ((first | (exact fun _ => rfl) | (intro hk; go_at_call 89; exact hk.call (HCM.out _))))))
              refine wpQuiet_nil ?_
              intro W hk
              have HKW := Lib.hid hk
              clear hk
              go_wp2_with fail
              go_roundw
              case rel =>
                obtain ⟨ht, hj, hx2, ha, hf, _⟩ := HS.out
                obtain ⟨hz, hti, hts, hup, hal, hx, _⟩ := HO.out
                refine ⟨i + 1, s1 ++ [x], t1 ++ x :: t2, s3, by rw [hz, hx]; simp, by simp; omega, ?_, ?_, by simp, ?_, ?_, ?_, ?_⟩
                · rw [← hti, ht]; simp; omega
                · simp [← hts, ht]; omega
                · rw [ht] at hup
                  refine (cut_right (x := x) ?_ hx2 hup).1
                  exact HLE.out
                · rw [ht] at hup hal
                  have h2 := (cut_right (x := x) (u1 := t1) (u2 := t2) HLE.out hx2 hup).2
                  refine (hal.append (Alike.refl [x])).trans ?_
                  simpa using h2
                · have e : X ++ ((t1 ++ x :: t2) ++ (s3 ++ Y)) = (X ++ t1) ++ x :: (t2 ++ (s3 ++ Y)) := by simp
                  rw [e]
                  exact HA0.out.below HKW.out
                · exact hf.trans (Fr.of_below (F := fun k => k = g) HKW.out) fun _ _ e => e
              case measure => simp [intOf]; omega
          · have ht0 : t1 = [] := List.length_eq_zero_iff.1 (by omega)
            have hle0 : ∀ q ∈ t1, less x.key q.key = false := by rw [ht0]; intro q hq; cases hq
            have HLE := Lib.hid hle0
            have hgj : decide ((a : Int) < (j : Int)) = false := decide_eq_false (by omega)
            have hgj2 : decide (a < j) = false := decide_eq_false hja
            have HS := Lib.hid (And.intro ht (And.intro hj (And.intro hx2 (And.intro ha (And.intro hf trivial)))))
            clear ht hj hx2 ha hf ht0 hle0
            go_wp2_with fail
            refine wp_region_kept (by kernel_rfl) (by kernel_rfl) ?_
            repeat (go_big_quiet_step ((exact fun _ => rfl)))
            refine wpQuiet_nil ?_
            intro W hk
            have HKW := Lib.hid hk
            clear hk
            go_wp2_with fail
            go_roundw
            case rel =>
              obtain ⟨ht, hj, hx2, ha, hf, _⟩ := HS.out
              obtain ⟨hz, hti, hts, hup, hal, hx, _⟩ := HO.out
              refine ⟨i + 1, s1 ++ [x], t1 ++ x :: t2, s3, by rw [hz, hx]; simp, by simp; omega, ?_, ?_, by simp, ?_, ?_, ?_, ?_⟩
              · rw [← hti, ht]; simp; omega
              · simp [← hts, ht]; omega
              · rw [ht] at hup
                refine (cut_right (x := x) ?_ hx2 hup).1
                exact HLE.out
              · rw [ht] at hup hal
                have h2 := (cut_right (x := x) (u1 := t1) (u2 := t2) HLE.out hx2 hup).2
                refine (hal.append (Alike.refl [x])).trans ?_
                simpa using h2
              · have e : X ++ ((t1 ++ x :: t2) ++ (s3 ++ Y)) = (X ++ t1) ++ x :: (t2 ++ (s3 ++ Y)) := by simp
                rw [e]
                exact HA0.out.below HKW.out
              · exact hf.trans (Fr.of_below (F := fun k => k = g) HKW.out) fun _ _ e => e
            case measure => simp [intOf]; omega
      · have hs2 : s2 = [] := List.length_eq_zero_iff.1 (by omega)
        have HS := Lib.hid (And.intro hz (And.intro hts (And.intro hup (And.intro hal (And.intro ha (And.intro hf hs2))))))
        clear hz hts hup hal ha hf hs2
        go_wp2_with fail
        go_end0
        obtain ⟨hz, hts, hup, hal, ha, hf, hs2⟩ := HS.out
        rw [hs2] at hz ha
        rw [List.append_nil] at hz
        rw [hz]
        exact ⟨t, ⟨rfl, by simpa using ha, hf⟩, hup, hal, hts⟩
end Go.Proofs.YtghpohiinnallaaGreatDoor.Kv
