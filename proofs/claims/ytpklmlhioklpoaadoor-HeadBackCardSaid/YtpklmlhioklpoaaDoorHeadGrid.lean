/-
  Lists of lists of texts in memory, built by the call; a walk: join.
-/
import Derived.Test.YtpklmlhioklpoaaDoorHeadMem
import Derived.Test.YtpklmlhioklpoaaDoorHeadTest
namespace Go.Proofs.YtpklmlhioklpoaaDoor.Head
open Go Go.RowKit

abbrev gridT : TypeId := 58
theorem infoG : (Tryd.prog.info? strsT).map (fun i => (i.zero, i.size, i.bytes)) = some (some (.slice none 0 0), 1, 24) := by kernel_rfl
/-- A slice of slices of texts, all of them the call's own, no two in one block. -/
structure GridAt (B : Nat) (w : World) (ov : Value) (vs : List Value) (F : List (List ByteArray)) : Prop where
  len : vs.length = F.length
  outer : w.ownsRow B strsT 1 ov F.length vs
  inner : ∀ (i : Nat) (v : Value) (ls : List ByteArray), vs[i]? = some v → F[i]? = some ls → w.ownsRow B strT 1 v ls.length (ls.map Value.string)
  apart : ∀ (i : Nat) (v : Value) (g : Nat), vs[i]? = some v → v.ownBlock = some g → ov.ownBlock ≠ some g
  away : ∀ (i j : Nat) (u v : Value) (g : Nat), vs[i]? = some u → vs[j]? = some v → i ≠ j → u.ownBlock = some g → v.ownBlock ≠ some g
section
variable {B : Nat} {w w' : World} {ov : Value} {vs : List Value} {F : List (List ByteArray)}
theorem GridAt.start (B : Nat) (w : World) : GridAt B w (.slice none 0 0) [] [] :=
  ⟨rfl, World.ownsRow_nil _ _ _ _, fun i v ls h => by simp at h, fun i v g h => by simp at h, fun i j u v g h => by simp at h⟩
theorem GridAt.on (h : GridAt B w ov vs F) (hb : Below w.heap.size w w') : GridAt B w' ov vs F :=
  ⟨h.len, owns_below h.outer hb, fun i v ls h1 h2 => owns_below (h.inner i v ls h1 h2) hb, h.apart, h.away⟩
theorem own_lt {t : TypeId} {z n : Nat} {v : Value} {xs : List Value} (h : w.ownsRow B t z v n xs) {g : Nat} (hg : v.ownBlock = some g) : B ≤ g ∧ g < w.heap.size := h.lt g hg
theorem owns_new (w : World) (hB : B ≤ w.heap.size) (x : ByteArray) : (w.alloc (.cells #[.string x] strT)).ownsRow B strT 1 (.slice (some ⟨w.heap.size, 0, none⟩) 1 1) 1 [.string x] :=
  ⟨rfl, .inr ⟨w.heap.size, 1, #[.string x], rfl, hB, heap_alloc_new w _, Nat.le_refl _, by unfold maxLen; omega, rfl, rfl⟩⟩
theorem owns_grown {t : TypeId} {z n : Nat} {v : Value} {xs : List Value} {row : Option Nat} (h : w.ownsRow B t z v n xs) (hg : w.grownBy w' row) (hne : ∀ g, v.ownBlock = some g → row ≠ some g) : w'.ownsRow B t z v n xs :=
  Fr.owns (F := fun k => row = some k) h ((Fr.refl (fun k => row = some k) w).grown hg fun _k hk _ => hk) hne
theorem owns_put {t : TypeId} {z n : Nat} {v x : Value} {xs : List Value} {b i : Nat} (h : w.ownsRow B t z v n xs) (hne : v.ownBlock ≠ some b) : (w.setCell ⟨b, i, none⟩ x).ownsRow B t z v n xs :=
  Fr.owns (F := fun k => k = b) h (Fr.one w b i x) fun k hk e => hne (by rw [← e]; exact hk)
/-- A new list with one text, put behind. -/
theorem GridAt.push (h : GridAt B w ov vs F) (n : Nat) (hn : F.length = n) (x : ByteArray) (hl : n ≤ 1000000) (hB : B ≤ w.heap.size) :
    ∃ a c w', (Builtin.append_ #[gridT, gridT] gridT #[ov, .slice (some ⟨w.heap.size + 1, 0, none⟩) 1 1]).run Tryd.prog ((w.alloc (.cells #[.string x] strT)).alloc (.cells #[.slice (some ⟨w.heap.size, 0, none⟩) 1 1] strsT)) = .ok (.slice a (n + 1) c) w' ∧
      Hid (GridAt B w' (.slice a (n + 1) c) (vs ++ [.slice (some ⟨w.heap.size, 0, none⟩) 1 1]) (F ++ [[x]]) ∧ Below B w w') := by
  subst hn
  obtain ⟨i, hi, hz, hs, hb⟩ := info_parts infoG
  obtain ⟨W, hW⟩ : ∃ W, W = (w.alloc (.cells #[.string x] strT)).alloc (.cells #[.slice (some ⟨w.heap.size, 0, none⟩) 1 1] strsT) := ⟨_, rfl⟩
  have hWs : W.heap.size = w.heap.size + 2 := by rw [hW]; simp
  have hbl : Below B w W := by rw [hW]; exact ((Below.refl B w).alloc hB _).alloc (by simp; omega) _
  have hblw : Below w.heap.size w W := by rw [hW]; exact ((Below.refl _ w).alloc (Nat.le_refl _) _).alloc (by simp) _
  have ho := owns_below h.outer hblw
  have hx : W.ownsRow B strT 1 (.slice (some ⟨w.heap.size, 0, none⟩) 1 1) 1 [.string x] := by
    rw [hW]
    exact (owns_new w hB x).alloc _
  obtain ⟨v', w', hr, h2, h3, _, h5⟩ := run_append_own_at (P := Tryd.prog) W B gridT gridT strsT i (.slice none 0 0) 1 24 Tryd.underlying58 hi hz hs hb rfl (by decide) ov F.length vs ho ⟨w.heap.size + 1, 0, none⟩ 1 1 [.slice (some ⟨w.heap.size, 0, none⟩) 1 1] rfl (fun j u hu => by
    rw [addr_add, Nat.zero_add]
    match j, hu with
    | 0, hu =>
      obtain rfl : Value.slice (some ⟨w.heap.size, 0, none⟩) 1 1 = u := by simpa using hu
      rw [hW]
      have e0 := heap_alloc_new (w.alloc (.cells #[.string x] strT)) (.cells #[.slice (some ⟨w.heap.size, 0, none⟩) 1 1] strsT)
      have e1 : (w.alloc (.cells #[.string x] strT)).heap.size = w.heap.size + 1 := by simp
      rw [e1] at e0
      rw [cell_of_row _ _ _ _ _ _ e0]
      rfl
    | j + 1, hu => simp at hu) (by intro u hu; obtain rfl := List.mem_singleton.1 hu; rfl) (by unfold maxLen; omega) (by omega) (by omega)
  obtain ⟨a, c, rfl⟩ := owns_slice h2
  have hov : ∀ g, ov.ownBlock = some g → g < w.heap.size := fun g hg => (h.outer.lt g hg).2
  have hin : ∀ (i : Nat) (v : Value) (g : Nat), vs[i]? = some v → v.ownBlock = some g → g < w.heap.size := fun i v g h1 hg => by
    have hl := (List.getElem?_eq_some_iff.1 h1).1
    exact ((h.inner i v _ h1 (List.getElem?_eq_getElem (by rw [← h.len]; exact hl))).lt g hg).2
  have hnew : ∀ g, (Value.slice a (F.length + 1) c).ownBlock = some g → ov.ownBlock = some g ∨ g = w.heap.size + 2 := fun g hg => by
    rcases h5 with e | e
    · rw [e] at hg; exact .inl hg
    · rw [e, hWs] at hg
      exact .inr (Option.some.inj hg).symm
  refine ⟨a, c, w', by rw [← hW]; exact hr, Lib.hid ⟨⟨?_, ?_, ?_, ?_, ?_⟩, hbl.grown h3 (by omega) fun k hk => (ho.lt k hk).1⟩⟩
  · simp [h.len]
  · simpa using h2
  · intro i v ls h1 h6
    rw [List.getElem?_append] at h1 h6
    rw [h.len] at h1
    split at h1
    · rename_i hlt
      rw [if_pos hlt] at h6
      refine owns_grown (owns_below (h.inner i v ls h1 h6) hblw) h3 fun g hg e => ?_
      exact h.apart i v g h1 hg e
    · rename_i hlt
      rw [if_neg hlt] at h6
      obtain rfl : Value.slice (some ⟨w.heap.size, 0, none⟩) 1 1 = v := by
        exact (List.mem_singleton.1 (List.mem_of_getElem? h1)).symm
      obtain rfl : [x] = ls := by
        exact (List.mem_singleton.1 (List.mem_of_getElem? h6)).symm
      refine owns_grown hx h3 fun g hg e => ?_
      have e2 := hov g e
      have e3 : w.heap.size = g := by simpa [Value.ownBlock] using hg
      omega
  · intro i v g h1 hg e
    rw [List.getElem?_append] at h1
    rw [h.len] at h1
    rcases hnew g e with e1 | e1
    · split at h1
      · exact h.apart i v g h1 hg e1
      · obtain rfl : Value.slice (some ⟨w.heap.size, 0, none⟩) 1 1 = v := by
          exact (List.mem_singleton.1 (List.mem_of_getElem? h1)).symm
        have e2 := hov g e1
        have e3 : w.heap.size = g := by simpa [Value.ownBlock] using hg
        omega
    · split at h1
      · have := hin i v g h1 hg
        omega
      · obtain rfl : Value.slice (some ⟨w.heap.size, 0, none⟩) 1 1 = v := by
          exact (List.mem_singleton.1 (List.mem_of_getElem? h1)).symm
        have e3 : w.heap.size = g := by simpa [Value.ownBlock] using hg
        omega
  · intro i j u v g h1 h6 hij hu hv
    have hone : ∀ i v, (vs ++ [Value.slice (some ⟨w.heap.size, 0, none⟩) 1 1])[i]? = some v → (i < F.length ∧ vs[i]? = some v) ∨ (i = F.length ∧ v = .slice (some ⟨w.heap.size, 0, none⟩) 1 1) := fun i v h1 => by
      have hl := (List.getElem?_eq_some_iff.1 h1).1
      rw [List.length_append, h.len, List.length_singleton] at hl
      rw [List.getElem?_append, h.len] at h1
      split at h1
      · rename_i hlt; exact .inl ⟨hlt, h1⟩
      · rename_i hlt
        have := List.mem_of_getElem? h1
        exact .inr ⟨by omega, by simpa using this⟩
    rcases hone i u h1 with ⟨_, a1⟩ | ⟨a1, rfl⟩ <;> rcases hone j v h6 with ⟨_, b1⟩ | ⟨b1, rfl⟩
    · exact h.away i j u v g a1 b1 hij hu hv
    · have := hin i u g a1 hu
      have e3 : w.heap.size = g := by simpa [Value.ownBlock] using hv
      omega
    · have := hin j v g b1 hv
      have e3 : w.heap.size = g := by simpa [Value.ownBlock] using hu
      omega
    · omega
/-- A text put behind the last list's. -/
theorem GridAt.last {G : List (List ByteArray)} {us : List ByteArray} (h : GridAt B w ov vs (G ++ [us])) (x : ByteArray) (hl : us.length ≤ 1000000) (hB : B ≤ w.heap.size) (k : Nat) (hk : G.length = k) :
    ∃ b c v a d w', ov = .slice (some ⟨b, 0, none⟩) (k + 1) c ∧ B ≤ b ∧ w.cell? ⟨b, k, none⟩ = some v ∧ (∃ va vc, v = .slice va us.length vc) ∧
      (Builtin.append_ #[strsT, strsT] strsT #[v, .slice (some ⟨w.heap.size, 0, none⟩) 1 1]).run Tryd.prog (w.alloc (.cells #[.string x] strT)) = .ok (.slice a (us.length + 1) d) w' ∧
      w'.frozen? ⟨b, k, none⟩ = false ∧ w'.cell? ⟨b, k, none⟩ = some v ∧
      Hid (GridAt B (w'.setCell ⟨b, k, none⟩ (.slice a (us.length + 1) d)) ov (vs.set k (.slice a (us.length + 1) d)) (G ++ [us ++ [x]]) ∧ Below B w (w'.setCell ⟨b, k, none⟩ (.slice a (us.length + 1) d))) := by
  subst hk
  have hlen : vs.length = G.length + 1 := by rw [h.len]; simp
  obtain ⟨v, hv⟩ : ∃ v, vs[G.length]? = some v := ⟨vs[G.length]'(by omega), List.getElem?_eq_getElem _⟩
  have hin := h.inner G.length v us hv (by simp)
  obtain ⟨b, c, rfl⟩ : ∃ b c, ov = .slice (some ⟨b, 0, none⟩) (G.length + 1) c := by
    rcases h.outer.2 with ⟨_, h2⟩ | ⟨g, cap, cur, rfl, _⟩
    · simp at h2
    · exact ⟨g, cap, by simp⟩
  have hBb := h.outer.lt b rfl
  have hcell : w.cell? ⟨b, G.length, none⟩ = some v := by
    have := h.outer.cells (g := b) rfl G.length v hv
    rw [addr_add, Nat.zero_add] at this
    exact this
  obtain ⟨a, d, w', hr, hh⟩ := append_str w B v us x hin (by omega) hB
  obtain ⟨h1, h2, h3, h4⟩ := hh.out
  have hal : Below w.heap.size w (w.alloc (.cells #[.string x] strT)) := (Below.refl _ w).alloc (Nat.le_refl _) _
  have hvb : v.ownBlock ≠ some b := fun e => h.apart G.length v b hv e rfl
  have ho1 : w'.ownsRow B strsT 1 (.slice (some ⟨b, 0, none⟩) (G ++ [us]).length c) (G ++ [us]).length vs := by
    have := h.outer
    simp only [List.length_append, List.length_singleton] at this ⊢
    exact owns_grown (owns_below this hal) h3 fun g hg e => by
      have e2 : b = g := by simpa [Value.ownBlock] using hg
      rw [← e2] at e
      exact hvb e
  have hfro : w'.frozen? ⟨b, G.length, none⟩ = false := by
    rcases ho1.2 with ⟨h5, _⟩ | ⟨g, cap, cur, h5, _, h6, _⟩
    · cases h5
    · obtain ⟨e1, _, _⟩ := Value.slice.inj h5
      have e2 : b = g := by simpa using e1
      subst e2
      exact frozen_of_row w' b G.length cur _ h6
  have hcell1 : w'.cell? ⟨b, G.length, none⟩ = some v := by
    have := ho1.cells (g := b) rfl G.length v hv
    rw [addr_add, Nat.zero_add] at this
    exact this
  have hset := owns_set ho1 (g := b) rfl G.length (.slice a (us.length + 1) d) (by simp)
  have hnb : ∀ g, (Value.slice a (us.length + 1) d).ownBlock = some g → v.ownBlock = some g ∨ w.heap.size ≤ g := h4
  have hnewb : (Value.slice a (us.length + 1) d).ownBlock ≠ some b := fun e => by
    rcases hnb b e with e1 | e1
    · exact hvb e1
    · omega
  have hold : ∀ (i : Nat) (u : Value) (g : Nat), vs[i]? = some u → u.ownBlock = some g → g < w.heap.size := fun i u g h5 hg => by
    have hl2 := (List.getElem?_eq_some_iff.1 h5).1
    exact ((h.inner i u _ h5 (List.getElem?_eq_getElem (by rw [← h.len]; exact hl2))).lt g hg).2
  refine ⟨b, c, v, a, d, w', rfl, hBb.1, hcell, owns_slice hin, hr, hfro, hcell1, Lib.hid ⟨⟨?_, ?_, ?_, ?_, ?_⟩, h2.setCell (p := ⟨b, G.length, none⟩) hBb.1 _⟩⟩
  · rw [List.length_set, hlen]; simp
  · simp only [List.length_append, List.length_singleton] at hset ⊢
    exact hset
  · intro i u ls h5 h6
    rw [List.getElem?_set] at h5
    rw [List.getElem?_append] at h6
    split at h5
    · rename_i e
      subst e
      rw [if_neg (by omega)] at h6
      split at h5
      · obtain rfl := Option.some.inj h5
        obtain rfl : us ++ [x] = ls := by
          exact (List.mem_singleton.1 (List.mem_of_getElem? h6)).symm
        have := owns_put (i := G.length) (x := .slice a (us.length + 1) d) h1 hnewb
        simpa using this
      · cases h5
    · rename_i e
      have hi : i < G.length := by
        have := (List.getElem?_eq_some_iff.1 h5).1
        omega
      rw [if_pos hi] at h6
      have ho := h.inner i u ls h5 (by rw [List.getElem?_append_left hi]; exact h6)
      have h7 := owns_grown (owns_below ho hal) h3 fun g hg e2 => h.away i G.length u v g h5 hv (by omega) hg e2
      exact owns_put h7 fun e2 => h.apart i u b h5 e2 rfl
  · intro i u g h5 hg e
    have e2 : b = g := by simpa [Value.ownBlock] using e
    subst e2
    rw [List.getElem?_set] at h5
    split at h5
    · split at h5
      · obtain rfl := Option.some.inj h5
        exact hnewb hg
      · cases h5
    · exact h.apart i u b h5 hg rfl
  · intro i j u u' g h5 h6 hij hu hu'
    rw [List.getElem?_set] at h5 h6
    split at h5
    · rename_i e1
      split at h5
      · obtain rfl := Option.some.inj h5
        rw [if_neg (by omega)] at h6
        rcases hnb g hu with e | e
        · exact h.away G.length j v u' g hv h6 (by omega) e hu'
        · have := hold j u' g h6 hu'
          omega
      · cases h5
    · split at h6
      · split at h6
        · obtain rfl := Option.some.inj h6
          rename_i e1 e2 e3
          rcases hnb g hu' with e | e
          · exact h.away i G.length u v g h5 hv (by omega) hu e
          · have := hold i u g h5 hu
            omega
        · cases h6
      · exact h.away i j u u' g h5 h6 hij hu hu'
/-- The value reads as these lists of texts. -/
def ReadsG (w : World) (ov : Value) (F : List (List ByteArray)) : Prop :=
  (∃ a cap, ov = .slice a 0 cap ∧ F = []) ∨
  (∃ b cap, ov = .slice (some ⟨b, 0, none⟩) F.length cap ∧ b < w.heap.size ∧ ∀ i ls, F[i]? = some ls → ∃ v, w.cell? ⟨b, i, none⟩ = some v ∧ ReadsS w v ls)
theorem ReadsG.below (h : ReadsG w ov F) (hb : Below w.heap.size w w') : ReadsG w' ov F := by
  rcases h with h | ⟨b, cap, rfl, h1, h2⟩
  · exact .inl h
  · refine .inr ⟨b, cap, rfl, by have := hb.size; omega, fun i ls hi => ?_⟩
    obtain ⟨v, h3, h4⟩ := h2 i ls hi
    exact ⟨v, by rw [hb.cell (p := ⟨b, i, none⟩) h1]; exact h3, h4.below hb⟩
theorem GridAt.reads (h : GridAt B w ov vs F) : ReadsG w ov F := by
  rcases h.outer.2 with ⟨rfl, h2⟩ | ⟨g, cap, cur, rfl, _, h3, _⟩
  · exact .inl ⟨_, _, rfl, List.length_eq_zero_iff.1 h2⟩
  · refine .inr ⟨g, cap, rfl, (h.outer.lt g rfl).2, fun i ls hi => ?_⟩
    have hl := (List.getElem?_eq_some_iff.1 hi).1
    have hv : vs[i]? = some (vs[i]'(by rw [h.len]; exact hl)) := List.getElem?_eq_getElem _
    refine ⟨_, ?_, owns_readsS (h.inner i _ ls hv hi)⟩
    have := h.outer.cells (g := g) rfl i _ hv
    rw [addr_add, Nat.zero_add] at this
    exact this
end
end Go.Proofs.YtpklmlhioklpoaaDoor.Head
