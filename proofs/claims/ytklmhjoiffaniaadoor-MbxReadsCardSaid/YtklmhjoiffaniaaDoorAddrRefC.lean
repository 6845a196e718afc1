/-
  Walk of the document's Of.
-/
import Derived.Test.YtklmhjoiffaniaaDoorAddrRefB
namespace Go.Proofs.YtklmhjoiffaniaaDoor.Addr
open Go Go.RowKit
open Go.Proofs.YtklmhjoiffaniaaDoor.Lex
open Go.Proofs.YtklmhjoiffaniaaDoor.Glyph (fd foldL foldL_foldL fold_any)

/-! The form of the tokens, place by place. -/
def tokOk (ok : Int → Bool) (j : Nat) (t : Tk) : Bool := if j % 2 = 1 then dotB t else ok t.kind
theorem joined_iff {ok : Int → Bool} : ∀ (L : List Tk) (i : Nat), joined ok i L = true ↔ (∀ j t, L[j]? = some t → tokOk ok (i + j) t = true) ∧ (i + L.length) % 2 = 1
  | [], i => by simp [joined]
  | x :: L, i => by
    rw [joined, Bool.and_eq_true, joined_iff L (i + 1)]
    constructor
    · rintro ⟨h1, h2, h3⟩
      refine ⟨fun j t hj => ?_, by rw [List.length_cons]; omega⟩
      cases j with
      | zero =>
        obtain rfl : x = t := by simpa using hj
        exact h1
      | succ j =>
        have := h2 j t (by simpa using hj)
        rwa [show i + 1 + j = i + (j + 1) by omega] at this
    · rintro ⟨h1, h2⟩
      refine ⟨h1 0 x rfl, fun j t hj => ?_, by rw [List.length_cons] at h2; omega⟩
      have := h1 (j + 1) t (by simpa using hj)
      rwa [show i + (j + 1) = i + 1 + j by omega] at this
/-- What is asked of the token at a place, the @ being at m. -/
def chk (m i : Nat) (t : Tk) : Bool := if i = m then true else if i < m then tokOk wordK i t else tokOk atomK (i - m - 1) t
theorem form_iff {T : List Tk} (hm : atN T < T.length) : formT T = true ↔ (∀ i t, T[i]? = some t → chk (atN T) i t = true) ∧ atN T % 2 = 1 ∧ (T.length - atN T - 1) % 2 = 1 := by
  unfold formT
  rw [decide_eq_true hm, Bool.true_and, Bool.and_eq_true, joined_iff, joined_iff]
  constructor
  · rintro ⟨⟨h1, h2⟩, h3, h4⟩
    rw [List.length_take] at h2
    rw [List.length_drop] at h4
    refine ⟨fun i t hi => ?_, by omega, by omega⟩
    unfold chk
    split
    · rfl
    · split
      · rename_i hne hlt
        have := h1 i t (by rw [List.getElem?_take, if_pos hlt]; exact hi)
        rwa [Nat.zero_add] at this
      · rename_i hne hlt
        have := h3 (i - atN T - 1) t (by rw [List.getElem?_drop, show atN T + 1 + (i - atN T - 1) = i by omega]; exact hi)
        rwa [Nat.zero_add] at this
  · rintro ⟨h1, h2, h3⟩
    refine ⟨⟨fun j t hj => ?_, by rw [List.length_take]; omega⟩, fun j t hj => ?_, by rw [List.length_drop]; omega⟩
    · rw [List.getElem?_take] at hj
      split at hj
      · rename_i hlt
        have := h1 j t hj
        unfold chk at this
        rw [if_neg (by omega), if_pos hlt] at this
        rwa [Nat.zero_add]
      · cases hj
    · rw [List.getElem?_drop] at hj
      have := h1 _ t hj
      unfold chk at this
      rw [if_neg (by omega), if_neg (by omega), show atN T + 1 + j - atN T - 1 = j by omega] at this
      rwa [Nat.zero_add]
theorem form_bad {T : List Tk} (hm : atN T < T.length) {i : Nat} {t : Tk} (hi : T[i]? = some t) (hc : chk (atN T) i t = false) : ofL T = (noAd, 130) := by
  refine of_no ?_
  rw [← Bool.not_eq_true, form_iff hm]
  rintro ⟨h, _⟩
  rw [h i t hi] at hc
  cases hc
/-- The document's at, so far. -/
def atK (T : List Tk) (k : Nat) : Int := if atN T < k then (atN T : Int) else -1
theorem at_le {T : List Tk} {k : Nat} {t : Tk} (hk : T[k]? = some t) (h : atB t = true) : atN T ≤ k := by
  obtain ⟨hl, rfl⟩ := List.getElem?_eq_some_iff.1 hk
  refine Nat.le_of_not_lt fun hlt => ?_
  have := List.not_of_lt_findIdx (p := atB) (xs := T) hlt
  exact absurd h (by simpa using this)
theorem at_ne {T : List Tk} {k : Nat} {t : Tk} (hk : T[k]? = some t) (h : atB t = false) : atN T ≠ k := by
  obtain ⟨hl, rfl⟩ := List.getElem?_eq_some_iff.1 hk
  intro e
  have hlt : T.findIdx atB < T.length := by
    have : T.findIdx atB = k := e
    omega
  have := List.findIdx_getElem (p := atB) (xs := T) (w := hlt)
  have e2 : T[T.findIdx atB]'hlt = T[k] := by
    have : T.findIdx atB = k := e
    simp [this]
  rw [e2, h] at this
  cases this
theorem atK_same {T : List Tk} {k : Nat} (h : atN T ≠ k) : atK T (k + 1) = atK T k := by
  unfold atK
  by_cases h1 : atN T < k
  · rw [if_pos h1, if_pos (by omega)]
  · rw [if_neg h1, if_neg (by omega)]
theorem atK_old {T : List Tk} {k : Nat} (h : atN T < k) : atK T (k + 1) = atN T ∧ atK T k = atN T := by
  unfold atK
  exact ⟨if_pos (by omega), if_pos h⟩
theorem atK_new {T : List Tk} {k : Nat} (h : atN T = k) : atK T (k + 1) = k ∧ atK T k = -1 := by
  unfold atK
  exact ⟨by rw [if_pos (by omega), h], if_neg (by omega)⟩
theorem text_at (t : Tk) : (bl t.text == [64]) = (t.text.toList == [64]) := by rw [Lib.toList_data]
theorem text_dot (t : Tk) : (bl t.text == [46]) = (t.text.toList == [46]) := by rw [Lib.toList_data]
theorem atB_eq (t : Tk) : atB t = ((t.kind == 3) && (t.text.toList == [64])) := by
  unfold atB
  rw [text_at]
  congr 1
theorem dotB_eq (t : Tk) : dotB t = ((t.kind == 3) && (t.text.toList == [46])) := by
  unfold dotB
  rw [text_dot]
  congr 1
/-- The address so far, in its box; the result's box. -/
structure OfAt (w : World) (b : Nat) (T : List Tk) (m i : Nat) (L D : ByteArray) (wr : World) : Prop where
  own : Lies wr b #[.string L, .string D] arT
  res : Lies wr w.heap.size #[.string ⟨#[]⟩, .string ⟨#[]⟩] arT
  low : w.heap.size < b
  below : Below w.heap.size w wr
  hl : bl L = textsL (T.take (min i m))
  hd : bl D = textsL ((T.take i).drop (m + 1))
  ok : ∀ j t, j < i → T[j]? = some t → chk m j t = true
theorem ok_next {T : List Tk} {m i : Nat} {t : Tk} (h : ∀ j t, j < i → T[j]? = some t → chk m j t = true) (ht : T[i]? = some t) (hc : chk m i t = true) : ∀ j t, j < i + 1 → T[j]? = some t → chk m j t = true := by
  intro j u hj hu
  by_cases e : j = i
  · subst e
    obtain rfl : t = u := by rw [ht] at hu; exact Option.some.inj hu
    exact hc
  · exact h j u (by omega) hu
theorem textsL_snoc (L : List Tk) (t : Tk) : textsL (L ++ [t]) = textsL L ++ bl t.text := by simp [textsL]
theorem bl_app (a b : ByteArray) : bl (a ++ b) = bl a ++ bl b := by
  rw [← ba_bl a, ← ba_bl b, ba_cat, bl_ba, bl_ba, bl_ba]
section
variable {w wr : World} {b m i : Nat} {T : List Tk} {L D : ByteArray} {t : Tk}
theorem OfAt.skip (h : OfAt w b T m i L D wr) (ht : T[i]? = some t) (hi : i = m) (o : Obj) : OfAt w b T m (i + 1) L D (wr.alloc o) := by
  have hlt := (List.getElem?_eq_some_iff.1 ht).1
  have hbb : Below wr.heap.size wr (wr.alloc o) := (Below.refl _ _).alloc (Nat.le_refl _) _
  refine ⟨h.own.same (hbb.block _ h.own.lt), h.res.same (hbb.block _ h.res.lt), h.low, h.below.trans (hbb.mono h.below.size), ?_, ?_, ok_next h.ok ht (by unfold chk; rw [if_pos hi])⟩
  · rw [h.hl, show min (i + 1) m = min i m by omega]
  · rw [h.hd, List.drop_eq_nil_of_le (by rw [List.length_take]; omega), List.drop_eq_nil_of_le (by rw [List.length_take]; omega)]
theorem OfAt.loc (h : OfAt w b T m i L D wr) (ht : T[i]? = some t) (hi : i < m) (hc : chk m i t = true) (o : Obj) : OfAt w b T m (i + 1) (L ++ t.text) D ((wr.alloc o).setCell ⟨b, 0, none⟩ (.string (L ++ t.text))) := by
  have hlt := (List.getElem?_eq_some_iff.1 ht).1
  have hbb : Below wr.heap.size wr (wr.alloc o) := (Below.refl _ _).alloc (Nat.le_refl _) _
  have hb2 := h.below.trans (hbb.mono h.below.size)
  refine ⟨(h.own.same (hbb.block _ h.own.lt)).set 0 _, (h.res.same (hbb.block _ h.res.lt)).other _ (by have := h.low; omega), h.low, hb2.setCell (Nat.le_of_lt h.low) _, ?_, ?_, ok_next h.ok ht hc⟩
  · rw [bl_app, h.hl, show min (i + 1) m = i + 1 by omega, show min i m = i by omega, List.take_add_one, ht]
    exact (textsL_snoc _ t).symm
  · rw [h.hd, List.drop_eq_nil_of_le (by rw [List.length_take]; omega), List.drop_eq_nil_of_le (by rw [List.length_take]; omega)]
theorem OfAt.dom (h : OfAt w b T m i L D wr) (ht : T[i]? = some t) (hi : m < i) (hc : chk m i t = true) (o : Obj) : OfAt w b T m (i + 1) L (D ++ t.text) ((wr.alloc o).setCell ⟨b, 1, none⟩ (.string (D ++ t.text))) := by
  have hlt := (List.getElem?_eq_some_iff.1 ht).1
  have hbb : Below wr.heap.size wr (wr.alloc o) := (Below.refl _ _).alloc (Nat.le_refl _) _
  have hb2 := h.below.trans (hbb.mono h.below.size)
  refine ⟨(h.own.same (hbb.block _ h.own.lt)).set 1 _, (h.res.same (hbb.block _ h.res.lt)).other _ (by have := h.low; omega), h.low, hb2.setCell (Nat.le_of_lt h.low) _, ?_, ?_, ok_next h.ok ht hc⟩
  · rw [h.hl, show min (i + 1) m = min i m by omega]
  · rw [bl_app, h.hd, List.take_add_one, ht]
    have e : (T.take i ++ [t]).drop (m + 1) = (T.take i).drop (m + 1) ++ [t] := by
      rw [List.drop_append_of_le_length (by rw [List.length_take]; omega)]
    show _ = textsL ((T.take i ++ [t]).drop (m + 1))
    rw [e, textsL_snoc]
end
end Go.Proofs.YtklmhjoiffaniaaDoor.Addr
