/-
  Walks of the document mbx, the first part.
-/
import Derived.Test.YtegbkfloiiilfaaGreatDoorMgMbxB
import Derived.Test.YtegbkfloiiilfaaGreatDoorMgAddrS
import Derived.Test.YtegbkfloiiilfaaGreatDoorMgLexR
import Derived.Maps.AppendAt

/-
  Walks: Phrase, Show, ShowAll; how boxes are written, in plain words.
-/
namespace Go.Proofs.YtegbkfloiiilfaaGreatDoor.Mbx
open Go Go.RowKit
open Go.Proofs.YtegbkfloiiilfaaGreatDoor.Lex
open Go.Proofs.YtegbkfloiiilfaaGreatDoor.Addr (strT adT arT adB cellsA textL textL_le text_any all_take all_not ba_cat quiet_load_str)
open Go.Proofs.YtegbkfloiiilfaaGreatDoor.Sha (Kept wp_region_kept wp_region_kept_tail quiet_load_row)

/-! How boxes are written. -/
def phraseL (s : List UInt8) : List UInt8 := if (pieces s).all atomB = true then s else quoteL s
def showL (b : Bx) : List UInt8 := if (bl b.n).isEmpty = true then textL (adOf b) else phraseL (bl b.n) ++ ([32, 60] ++ (textL (adOf b) ++ [62]))
def showAllL (B : List Bx) : List UInt8 := joinS [44, 32] (B.map showL)
theorem phrase_len (s : List UInt8) : (phraseL s).length ≤ 2 * s.length + 2 := by
  unfold phraseL
  split
  · omega
  · exact quote_len s
theorem show_len (b : Bx) : (showL b).length ≤ 2 * b.n.size + 2 * b.l.size + b.d.size + 8 := by
  have h1 := phrase_len (bl b.n)
  have h2 := textL_le (adOf b)
  simp only [bl_len] at h1 h2
  unfold showL
  split
  · omega
  · simp only [List.length_append, List.length_cons, List.length_nil]
    omega
theorem ba_three (a b : List UInt8) : ba a ++ (⟨#[32, 60]⟩ : ByteArray) ++ ba b ++ (⟨#[62]⟩ : ByteArray) = ba (a ++ ([32, 60] ++ (b ++ [62]))) := by
  rw [show (⟨#[32, 60]⟩ : ByteArray) = ba [32, 60] from rfl, show (⟨#[62]⟩ : ByteArray) = ba [62] from rfl, ba_cat, ba_cat, ba_cat]
  simp
theorem empty_iff (s : ByteArray) : (s.toList == []) = (bl s).isEmpty := by
  rw [Lib.toList_data]
  show (s.data.toList == []) = s.data.toList.isEmpty
  cases s.data.toList <;> rfl
theorem mem_get {α : Type} {l : List α} {i : Nat} {a : α} (h : l[i]? = some a) : a ∈ l := List.mem_of_getElem? h
theorem piece_size {s : ByteArray} {k : Nat} {p : List UInt8} (h : (pieces (bl s))[k]? = some p) : (ba p).size ≤ s.size := by
  rw [ba_size, ← bl_len]
  exact pieces_le (mem_get h)
/-- Boxes of which none is too long to be written. -/
def Small (B : List Bx) : Prop := B.length ≤ 1000 ∧ ∀ b ∈ B, b.n.size ≤ 10000 ∧ b.l.size ≤ 10000 ∧ b.d.size ≤ 10000
theorem small_sum : ∀ (B : List Bx), (∀ b ∈ B, b.n.size ≤ 10000 ∧ b.l.size ≤ 10000 ∧ b.d.size ≤ 10000) → sumS (B.map fun b => ba (showL b)) ≤ B.length * 60000
  | [], _ => by simp [sumS]
  | b :: B, h => by
    have ih := small_sum B (fun x hx => h x (by simp [hx]))
    have h1 := h b (by simp)
    have h2 := show_len b
    have e : sumS ((b :: B).map fun b => ba (showL b)) = (ba (showL b)).size + sumS (B.map fun b => ba (showL b)) := by simp [sumS]
    rw [e, ba_size, List.length_cons, Nat.succ_mul]
    omega
theorem all_len (B : List Bx) (h : ∀ b ∈ B, b.n.size ≤ 10000 ∧ b.l.size ≤ 10000 ∧ b.d.size ≤ 10000) : (showAllL B).length ≤ B.length * 60002 := by
  have h1 := joinS_len [44, 32] (B.map fun b => ba (showL b))
  have h2 := small_sum B h
  have e : (B.map fun b => ba (showL b)).map bl = B.map showL := by rw [List.map_map]; congr 1
  rw [e, List.length_map] at h1
  simp only [List.length_cons, List.length_nil] at h1
  unfold showAllL
  omega
end Go.Proofs.YtegbkfloiiilfaaGreatDoor.Mbx

/-
  Walks of the document: its Phrase, Show, ShowAll.
-/
namespace Go.Proofs.YtegbkfloiiilfaaGreatDoor.Mbx
open Go Go.RowKit
open Go.Proofs.YtegbkfloiiilfaaGreatDoor.Lex
open Go.Proofs.YtegbkfloiiilfaaGreatDoor.Addr (strT adT arT adB cellsA textL textL_le text_any all_take all_not ba_cat quiet_load_str refText_any)
open Go.Proofs.YtegbkfloiiilfaaGreatDoor.Sha (Kept wp_region_kept wp_region_kept_tail quiet_load_row)
theorem ba_comma (a : List UInt8) : ba a ++ (⟨#[44, 32]⟩ : ByteArray) = ba (a ++ [44, 32]) := by
  rw [show (⟨#[44, 32]⟩ : ByteArray) = ba [44, 32] from rfl, ba_cat]
def accL (B : List Bx) (k : Nat) : List UInt8 := joinS [44, 32] ((B.take k).map showL)
theorem accL_next {B : List Bx} {k : Nat} {x : Bx} (hx : B[k]? = some x) : accL B (k + 1) = (if k = 0 then [] else accL B k ++ [44, 32]) ++ showL x := by
  have hlt := (List.getElem?_eq_some_iff.1 hx).1
  have e : (B.take (k + 1)).map showL = (B.take k).map showL ++ [showL x] := by rw [List.take_add_one, hx]; simp
  unfold accL
  rw [e]
  by_cases h0 : k = 0
  · subst h0
    simp [joinS]
  · rw [if_neg h0, joinS_snoc]
    · simp
    · intro h
      have := congrArg List.length h
      rw [List.length_map, List.length_take, List.length_nil] at this
      omega
theorem accL_len (B : List Bx) (h : ∀ b ∈ B, b.n.size ≤ 10000 ∧ b.l.size ≤ 10000 ∧ b.d.size ≤ 10000) (hl : B.length ≤ 1000) (k : Nat) : (ba (accL B k)).size ≤ 70000000 := by
  rw [ba_size]
  have h1 := all_len (B.take k) (fun b hb => h b (List.mem_of_mem_take hb))
  have h2 : (B.take k).length ≤ 1000 := by rw [List.length_take]; omega
  have h3 := Nat.mul_le_mul_right 60002 h2
  unfold showAllL at h1
  unfold accL
  omega
end Go.Proofs.YtegbkfloiiilfaaGreatDoor.Mbx

/-
  The document's pieces in memory; walks: its cut, its words.
-/
namespace Go.Proofs.YtegbkfloiiilfaaGreatDoor.Mbx
open Go Go.RowKit
open Go.Proofs.YtegbkfloiiilfaaGreatDoor.Lex
open Go.Proofs.YtegbkfloiiilfaaGreatDoor.Addr (strT)

abbrev pcT : TypeId := 120
abbrev pcsT : TypeId := 117
def pcC (e : Value × Pc) : List Value := [e.1, .string e.2.s]
theorem infoP : (Tryz.prog.info? pcT).map (fun i => (i.zero, i.size, i.bytes)) = some (some (.agg #[.slice none 0 0, .string ⟨#[]⟩]), 2, 40) := by kernel_rfl
theorem sizeP : (Tryz.prog.info? pcT).map (·.size) = some 2 := by kernel_rfl
def Dj (a b : Value) : Prop := ∀ g, a.ownBlock = some g → b.ownBlock ≠ some g
theorem Dj.symm {a b : Value} (h : Dj a b) : Dj b a := fun g h1 h2 => h g h2 h1
theorem Dj.nil (a : Value) : Dj a (.slice none 0 0) := fun g _ h => by cases h
/-- Pieces done, each a list of its own, and the one at hand. -/
structure CutAt (w wr : World) (ov lv : Value) (D : List (Value × Pc)) (cur : List Tk) : Prop where
  out : wr.ownsRow (w.heap.size + 1) pcT 2 ov D.length (D.flatMap pcC)
  each : ∀ e ∈ D, wr.ownsRow (w.heap.size + 1) rfT 2 e.1 e.2.l.length (e.2.l.flatMap tkC) ∧ Dj e.1 ov ∧ Dj e.1 lv
  box : Lies wr w.heap.size #[lv, .string ⟨#[]⟩] pcT
  own : wr.ownsRow (w.heap.size + 1) rfT 2 lv cur.length (cur.flatMap tkC)
  apart : Dj lv ov
  below : Below w.heap.size w wr
theorem CutAt.start (w : World) : CutAt w (w.alloc (.cells #[.slice none 0 0, .string ⟨#[]⟩] pcT)) (.slice none 0 0) (.slice none 0 0) [] [] :=
  ⟨World.ownsRow_nil _ _ _ _, by simp, Lies.new w _ _, World.ownsRow_nil _ _ _ _, Dj.nil _, (Below.refl _ _).alloc (Nat.le_refl _) _⟩
theorem flatP_length (q : List (Value × Pc)) : (q.flatMap pcC).length = q.length * 2 := by
  induction q with
  | nil => rfl
  | cons e q ih => rw [List.flatMap_cons, List.length_append, ih, List.length_cons]; simp [pcC]; omega
theorem flatP_get : ∀ (q : List (Value × Pc)) (i : Nat) (e : Value × Pc), q[i]? = some e → ∀ j, j < 2 → (q.flatMap pcC)[i * 2 + j]? = (pcC e)[j]?
  | [], _, _, h, _, _ => by simp at h
  | x :: q, 0, e, h, j, hj => by
    obtain rfl : x = e := by simpa using h
    rw [List.flatMap_cons, List.getElem?_append_left (by simp [pcC]; omega)]
    simp
  | x :: q, i + 1, e, h, j, hj => by
    rw [List.flatMap_cons, List.getElem?_append_right (by simp [pcC]; omega), show (pcC x).length = 2 from rfl, show (i + 1) * 2 + j - 2 = i * 2 + j by omega]
    exact flatP_get q i e (by simpa using h) j hj
theorem sgrow {w w' : World} {B : Nat} {lv : Value} {F : Nat → Prop} (o : Obj) (hd : (w.alloc o).drew.grownBy w' lv.ownBlock) (hF : ∀ k, lv.ownBlock = some k → F k) (_hB : B ≤ w.heap.size) : Fr F w w' :=
  ((Fr.refl F w).alloc o).drew.grown hd (fun k hk _ => hF k hk)
/-- One more token in the piece at hand. -/
theorem CutAt.tok {w wr : World} {ov : Value} {a : Option Addr} {n c : Nat} {D : List (Value × Pc)} {cur : List Tk} (h : CutAt w wr ov (.slice a n c) D cur) (hn : cur.length = n) (t : Tk) (hl : n ≤ 100000000) :
    ∃ a' c' w4, (Builtin.append_ #[rfsT, rfsT] rfsT #[.slice a n c, .slice (some ⟨wr.heap.size, 0, none⟩) 1 1]).run Tryz.prog (wr.alloc (boxT rfT t)).drew = .ok (.slice a' (n + 1) c') w4 ∧
      w4.cell? ⟨w.heap.size, 0, none⟩ = some (.slice a n c) ∧ w4.frozen? ⟨w.heap.size, 0, none⟩ = false ∧
      Hid (CutAt w (w4.setCell ⟨w.heap.size, 0, none⟩ (.slice a' (n + 1) c')) ov (.slice a' (n + 1) c') D (cur ++ [t])) := by
  obtain ⟨i0, hi, hz0, hz1, hz2⟩ := info_parts infoF
  have hbz := h.below.size
  have hB : Below wr.heap.size wr (wr.alloc (boxT rfT t)).drew := ((Below.refl _ _).alloc (Nat.le_refl _) _).drew
  have ho := owns_below h.own hB
  rw [hn] at ho
  have hwlt := h.box.lt
  obtain ⟨v', w4, hr, h2, h3, _, h5⟩ := run_append_own_at (P := Tryz.prog) (wr.alloc (boxT rfT t)).drew (w.heap.size + 1) rfsT rfsT rfT i0 _ 2 24 Tryz.underlying114 hi hz0 hz1 hz2 rfl (by decide) (.slice a n c) n _ ho ⟨wr.heap.size, 0, none⟩ 1 1 (tkC t) rfl (fun j u hu => by rw [addr_add]; exact new_boxT wr rfT t j u hu) (one_cell2 t) (by unfold maxLen; omega) (by omega) (by simp; omega)
  obtain ⟨a', c', rfl⟩ := owns_slice h2
  have hf : Fr (fun k => (Value.slice a n c).ownBlock = some k) wr w4 := sgrow (B := 0) (boxT rfT t) h3 (fun k hk => hk) (Nat.zero_le _)
  have hbx : Lies w4 w.heap.size #[.slice a n c, .string ⟨#[]⟩] pcT := h.box.same (hf.block _ hwlt (fun e => by have := (h.own.lt _ e).1; omega))
  refine ⟨a', c', w4, hr, hbx.cell 0, hbx.free 0, Lib.hid ?_⟩
  have hs : Fr (fun k => k = w.heap.size) w4 (w4.setCell ⟨w.heap.size, 0, none⟩ (.slice a' (n + 1) c')) := Fr.one _ _ _ _
  have hx := hbx.set 0 (.slice a' (n + 1) c')
  have hall : ∀ {B : Nat} {ty : TypeId} {z m : Nat} {v : Value} {xs : List Value}, w.heap.size + 1 ≤ B → w4.ownsRow B ty z v m xs → (w4.setCell ⟨w.heap.size, 0, none⟩ (.slice a' (n + 1) c')).ownsRow B ty z v m xs := fun hB' ho' => Fr.owns ho' hs (fun k hk e => by have := (ho'.lt k hk).1; omega)
  have hnew : ∀ (u : Value) (ty : TypeId) (z m : Nat) (xs : List Value), wr.ownsRow (w.heap.size + 1) ty z u m xs → Dj u (.slice a n c) → Dj u (.slice a' (n + 1) c') := by
    intro u ty z m xs hu hd g hg h6
    rcases h5 with h5 | h5
    · rw [h5] at h6
      exact hd g hg h6
    · rw [h5] at h6
      have h7 := Option.some.inj h6
      have := (hu.lt g hg).2
      simp at h7
      omega
  refine ⟨?_, ?_, hx, ?_, ?_, ?_⟩
  · exact hall (Nat.le_refl _) (Fr.owns h.out hf (fun k hk e => h.apart k e hk))
  · intro e he
    obtain ⟨e1, e2, e3⟩ := h.each e he
    exact ⟨hall (Nat.le_refl _) (Fr.owns e1 hf (fun k hk e4 => e3 k hk e4)), e2, hnew _ _ _ _ _ e1 e3⟩
  · have e1 : (cur ++ [t]).length = n + 1 := by rw [List.length_append, hn]; rfl
    rw [e1, flat2_snoc]
    exact hall (Nat.le_refl _) h2
  · exact (hnew _ _ _ _ _ h.out h.apart.symm).symm
  · exact ((hf.below hbz (fun k e => by have := (h.own.lt k e).1; omega)) |> fun hb => h.below.trans hb).setCell (p := ⟨w.heap.size, 0, none⟩) (Nat.le_refl _) _
/-- The piece at hand done. -/
theorem CutAt.app {w wr : World} {lv : Value} {a : Option Addr} {n c : Nat} {D : List (Value × Pc)} {cur : List Tk} (h : CutAt w wr (.slice a n c) lv D cur) (hn : D.length = n) (x : ByteArray) {W1 : World} (hf1 : Fr (fun k => k = w.heap.size) wr W1) (hz : W1.heap.size = wr.heap.size) (hl : n ≤ 1000000) :
    ∃ a' c' w4, (Builtin.append_ #[pcsT, pcsT] pcsT #[.slice a n c, .slice (some ⟨wr.heap.size, 0, none⟩) 1 1]).run Tryz.prog (W1.alloc (.cells #[lv, .string x] pcT)) = .ok (.slice a' (n + 1) c') w4 ∧
      Hid (w4.ownsRow (w.heap.size + 1) pcT 2 (.slice a' (n + 1) c') (n + 1) ((D ++ [(lv, (⟨cur, x⟩ : Pc))]).flatMap pcC) ∧
        (∀ e ∈ D ++ [(lv, (⟨cur, x⟩ : Pc))], w4.ownsRow (w.heap.size + 1) rfT 2 e.1 e.2.l.length (e.2.l.flatMap tkC) ∧ Dj e.1 (.slice a' (n + 1) c')) ∧
        (∀ cs, Lies W1 w.heap.size cs pcT → Lies w4 w.heap.size cs pcT) ∧ Below w.heap.size w w4) := by
  obtain ⟨i0, hi, hz0, hz1, hz2⟩ := info_parts infoP
  have hbz := h.below.size
  have hwlt := h.box.lt
  have hown1 : ∀ {ty : TypeId} {z m : Nat} {v : Value} {xs : List Value}, wr.ownsRow (w.heap.size + 1) ty z v m xs → W1.ownsRow (w.heap.size + 1) ty z v m xs := fun ho' => Fr.owns ho' hf1 (fun k hk e => by have := (ho'.lt k hk).1; omega)
  have ho := hown1 h.out
  rw [hn] at ho
  have hlo : lv.oneCell' = true := by
    obtain ⟨p, q, rfl⟩ := owns_slice h.own
    rfl
  obtain ⟨v', w4, hr, h2, h3, _, h5⟩ := run_append_own_at (P := Tryz.prog) (W1.alloc (.cells #[lv, .string x] pcT)) (w.heap.size + 1) pcsT pcsT pcT i0 _ 2 40 Tryz.underlying117 hi hz0 hz1 hz2 rfl (by decide) (.slice a n c) n _ (ho.alloc _) ⟨W1.heap.size, 0, none⟩ 1 1 [lv, .string x] rfl (fun j u hu => by
    rw [addr_add, Nat.zero_add]
    have hg : Lies (W1.alloc (.cells #[lv, .string x] pcT)) W1.heap.size #[lv, .string x] pcT := Lies.new _ _ _
    exact (hg.cell j).trans (by simpa using hu)) (by
      intro u hu
      simp only [List.mem_cons, List.not_mem_nil, or_false] at hu
      rcases hu with rfl | rfl
      · exact hlo
      · rfl) (by unfold maxLen; omega) (by omega) (by simp; omega)
  obtain ⟨a', c', rfl⟩ := owns_slice h2
  rw [hz] at hr
  have hf : Fr (fun k => (Value.slice a n c).ownBlock = some k) W1 w4 := ((Fr.refl _ W1).alloc _).grown h3 (fun k hk _ => hk)
  refine ⟨a', c', w4, hr, Lib.hid ⟨?_, ?_, ?_, ?_⟩⟩
  · rw [List.flatMap_append]
    simpa [pcC] using h2
  · intro e he
    have hnew : ∀ (u : Value) (m : Nat) (xs : List Value), wr.ownsRow (w.heap.size + 1) rfT 2 u m xs → Dj u (.slice a n c) → w4.ownsRow (w.heap.size + 1) rfT 2 u m xs ∧ Dj u (.slice a' (n + 1) c') := by
      intro u m xs hu hd
      refine ⟨Fr.owns (hown1 hu) hf (fun k hk e => hd k hk e), fun g hg h6 => ?_⟩
      rcases h5 with h5 | h5
      · rw [h5] at h6
        exact hd g hg h6
      · rw [h5] at h6
        have h7 := Option.some.inj h6
        have := (hu.lt g hg).2
        simp at h7
        omega
    rcases List.mem_append.1 he with he | he
    · obtain ⟨e1, e2, e3⟩ := h.each e he
      exact hnew _ _ _ e1 e2
    · obtain rfl := List.mem_singleton.1 he
      exact hnew _ _ _ h.own h.apart
  · intro cs hc
    exact hc.same (hf.block _ hc.lt (fun e => by have := (h.out.lt _ e).1; omega))
  · have hb1 : Below w.heap.size w W1 := h.below.trans (hf1.below hbz (fun k e => by omega))
    exact hb1.trans (hf.below hb1.size (fun k e => by have := (h.out.lt k e).1; omega))

/-- The value is a slice that reads as these pieces. -/
def ReadsC (w : World) (v : Value) (ps : List Pc) : Prop :=
  ∃ b cap, v = .slice (some ⟨b, 0, none⟩) ps.length cap ∧ ps.length ≤ cap ∧ b < w.heap.size ∧
    ∀ i p, ps[i]? = some p → ∃ a c, w.cell? ⟨b, 0 + i * 2, none⟩ = some (.slice a p.l.length c) ∧ w.cell? ⟨b, 0 + i * 2 + 1, none⟩ = some (.string p.s) ∧ ReadsT w (.slice a p.l.length c) p.l
theorem ReadsC.below {w w' : World} {v : Value} {ps : List Pc} (h : ReadsC w v ps) (hb : Below w.heap.size w w') : ReadsC w' v ps := by
  obtain ⟨b, cap, rfl, h1, h2, h3⟩ := h
  refine ⟨b, cap, rfl, h1, by have := hb.size; omega, fun i p hi => ?_⟩
  obtain ⟨a, c, e1, e2, e3⟩ := h3 i p hi
  exact ⟨a, c, old_cell e1 h2 hb, old_cell e2 h2 hb, e3.below hb⟩
theorem owns_readsC {w : World} {B : Nat} {v : Value} {D : List (Value × Pc)} {n : Nat} (hn : D.length = n) (h0 : D ≠ []) (h : w.ownsRow B pcT 2 v n (D.flatMap pcC)) (he : ∀ e ∈ D, w.ownsRow B rfT 2 e.1 e.2.l.length (e.2.l.flatMap tkC)) : ReadsC w v (D.map (·.2)) := by
  subst hn
  have hc := fun g hg => h.cells (g := g) hg
  have hlt := h.lt
  rcases h.2 with ⟨rfl, hn⟩ | ⟨g, cap, cur, rfl, hb, hg, h1, h2, _, _⟩
  · exact absurd (List.length_eq_zero_iff.1 hn) h0
  · refine ⟨g, cap, by rw [List.length_map], by rw [List.length_map]; exact h1, (hlt g rfl).2, fun i p hi => ?_⟩
    rw [List.getElem?_map] at hi
    obtain ⟨e, hei, rfl⟩ := Option.map_eq_some_iff.1 hi
    have ho := he e (List.mem_of_getElem? hei)
    have hr := owns_readsT ho
    obtain ⟨a, c, hv⟩ := hr.shape
    rw [hv] at hr
    have e0 := hc g rfl (i * 2 + 0) e.1 (by rw [flatP_get D i e hei 0 (by omega)]; rfl)
    have e1 := hc g rfl (i * 2 + 1) (.string e.2.s) (by rw [flatP_get D i e hei 1 (by omega)]; rfl)
    rw [addr_add] at e0 e1
    rw [hv] at e0
    exact ⟨a, c, e0, by rw [← e1]; congr 2, hr⟩

/-! cut. -/
theorem end_ways (t : Tk) : (t.kind ≠ 3 ∧ endT t = false) ∨ (t.kind = 3 ∧ (t.text.toList == [64]) = true ∧ endT t = false) ∨ (t.kind = 3 ∧ (t.text.toList == [64]) = false ∧ (t.text.toList == [46]) = true ∧ endT t = false) ∨ (t.kind = 3 ∧ (t.text.toList == [64]) = false ∧ (t.text.toList == [46]) = false ∧ endT t = true) := by
  unfold endT
  rw [Lib.toList_data]
  by_cases hk : t.kind = 3
  · cases h1 : (t.text.data.toList == [64]) <;> cases h2 : (t.text.data.toList == [46]) <;> simp [hk]
  · simp [hk]
def CutI (T : List Tk) (k : Nat) (D : List (Value × Pc)) (cur : List Tk) : Prop := D.map (·.2) ++ cutL (cur ++ T.drop k) = cutL T ∧ (∀ t ∈ cur, endT t = false) ∧ D.length + cur.length ≤ k
theorem CutI.tok {T : List Tk} {k : Nat} {D : List (Value × Pc)} {cur : List Tk} {t : Tk} (h : CutI T k D cur) (ht : T[k]? = some t) (he : endT t = false) : CutI T (k + 1) D (cur ++ [t]) := by
  obtain ⟨hl, rfl⟩ := List.getElem?_eq_some_iff.1 ht
  refine ⟨?_, ?_, by have := h.2.2; simp; omega⟩
  · have := h.1
    rw [List.drop_eq_getElem_cons hl] at this
    simpa using this
  · intro x hx
    rcases List.mem_append.1 hx with hx | hx
    · exact h.2.1 x hx
    · obtain rfl := List.mem_singleton.1 hx
      exact he
theorem CutI.cut {T : List Tk} {k : Nat} {D : List (Value × Pc)} {cur : List Tk} {t : Tk} (h : CutI T k D cur) (ht : T[k]? = some t) (he : endT t = true) (lv : Value) : CutI T (k + 1) (D ++ [(lv, ⟨cur, t.text⟩)]) [] := by
  obtain ⟨hl, rfl⟩ := List.getElem?_eq_some_iff.1 ht
  refine ⟨?_, by simp, by have := h.2.2; simp; omega⟩
  have := h.1
  rw [List.drop_eq_getElem_cons hl, cut_sign _ _ _ h.2.1 he] at this
  simpa using this
theorem CutI.fin {T : List Tk} {k : Nat} {D : List (Value × Pc)} {cur : List Tk} (h : CutI T k D cur) (hk : T.length ≤ k) (lv : Value) : (D ++ [(lv, (⟨cur, ⟨#[]⟩⟩ : Pc))]).map (·.2) = cutL T := by
  have := h.1
  rw [List.drop_eq_nil_of_le hk, List.append_nil, cut_all _ h.2.1] at this
  rw [List.map_append]
  exact this
set_option maxRecDepth 100000 in
set_option maxHeartbeats 8000000 in
theorem cut_any (v : Value) (T : List Tk) (w : World) (hv : ReadsT w v T) (hl : T.length ≤ 100000) :
    Calls Tryz.prog 80 #[v] w fun e w' => ∃ u, e = .returned u ∧ ReadsC w' u (cutL T) ∧ Below w.heap.size w w' := by
  obtain ⟨va, vc, rfl⟩ := hv.shape
  obtain ⟨n, hn⟩ : ∃ n, n = T.length := ⟨_, rfl⟩
  rw [← hn] at hv hl ⊢
  have HV := Lib.hid (fun k a ha => hv.at_ k a ha)
  have HNN := Lib.hid hn
  have HI : Hid (CutI T 0 [] []) := Lib.hid ⟨rfl, by simp, by simp⟩
  have HS := Lib.hid (CutAt.start w)
  clear hv hn
  go_enter Tryz.func80, Tryz.ntmps80
  go_wp2_with fail
  go_loopw [3, 5, 6] (fun u i _ wr => ∃ (k : Nat) (lv : Value) (D : List (Value × Pc)) (cur : List Tk), k ≤ n ∧ i = .int .i64 k ∧ Hid (CutI T k D cur) ∧ Hid (CutAt w wr u lv D cur)) (fun _ i _ _ => n - (intOf i).toNat)
  case atStart => exact ⟨0, _, [], [], Nat.zero_le _, rfl, HI, HS⟩
  case round =>
    clear HI HS
    obtain ⟨k, lv, D, cur, hk, rfl, hI, hC⟩ := hrel
    obtain ⟨ua, uc, rfl⟩ := owns_slice hC.out.out
    obtain ⟨la, lc, rfl⟩ := owns_slice hC.out.own
    obtain ⟨m, hm⟩ : ∃ m, m = D.length := ⟨_, rfl⟩
    obtain ⟨q, hq⟩ : ∃ q, q = cur.length := ⟨_, rfl⟩
    have hcnt := hI.out.2.2
    rw [← hm, ← hq] at hcnt
    rw [← hq] at hC
    rw [← hm] at hC ⊢
    have c0 := hC.out.box.cell 0
    have c1 := hC.out.box.cell 1
    have f0 := hC.out.box.free 0
    have f1 := hC.out.box.free 1
    simp only [List.getElem?_toArray] at c0 c1
    have hblt := hC.out.box.lt
    by_cases hlt : k < n
    · obtain ⟨t, ht⟩ : ∃ a, T[k]? = some a := ⟨T[k]'(by have := HNN.out; omega), List.getElem?_eq_getElem _⟩
      obtain ⟨b1, o1, rfl, hb1, r1⟩ := HV.out k t ht
      have hr2 := range_below r1 hb1 hC.out.below
      obtain ⟨d0, d1⟩ := two hr2
      rcases end_ways t with ⟨hk3, he⟩ | ⟨hk3, h64, he⟩ | ⟨hk3, h64, h46, he⟩ | ⟨hk3, h64, h46, he⟩
      · have q1 : (t.kind == 3) = false := by rw [beq_eq_false_iff_ne]; exact hk3
        clear hk3
        obtain ⟨a', c', w4, hr, g0, g1, hh⟩ := hC.out.tok hq.symm t (by omega)
        have HR : Hid ((Builtin.append_ #[rfsT, rfsT] rfsT #[.slice la q lc, .slice (some ⟨wr.heap.size, 0, none⟩) 1 1]).run Tryz.prog (wr.alloc (boxT rfT t)).drew = .ok (.slice a' (q + 1) c') w4) := Lib.hid hr
        have HN := Lib.hid hh.out
        have HNI := Lib.hid (hI.out.tok ht he)
        have hba : Below wr.heap.size wr (wr.alloc (boxT rfT t)) := (Below.refl _ _).alloc (Nat.le_refl _) _
        have y0 := old_cell c0 hblt hba
        obtain ⟨y1, y2⟩ := two (range_below hr2 (by have := hC.out.below.size; omega) hba)
        clear hr hh hr2 r1 ht he hba hC hI hq hm
        go_wp2_with fail
        go_region_law ((refine step_append_run (by rfl) _ _ _ (by rfl) _ _ _ (by rfl) (by rfl) HR.out ?_))
        all_goals
          go_wp2_with fail
          go_roundw
          case rel => exact ⟨k + 1, _, D, _, by omega, by simp, HNI, HN⟩
          case measure => simp [intOf]; omega
      · have q1 : (t.kind == 3) = true := by rw [hk3]; rfl
        clear hk3
        obtain ⟨a', c', w4, hr, g0, g1, hh⟩ := hC.out.tok hq.symm t (by omega)
        have HR : Hid ((Builtin.append_ #[rfsT, rfsT] rfsT #[.slice la q lc, .slice (some ⟨wr.heap.size, 0, none⟩) 1 1]).run Tryz.prog (wr.alloc (boxT rfT t)).drew = .ok (.slice a' (q + 1) c') w4) := Lib.hid hr
        have HN := Lib.hid hh.out
        have HNI := Lib.hid (hI.out.tok ht he)
        have hba : Below wr.heap.size wr (wr.alloc (boxT rfT t)) := (Below.refl _ _).alloc (Nat.le_refl _) _
        have y0 := old_cell c0 hblt hba
        obtain ⟨y1, y2⟩ := two (range_below hr2 (by have := hC.out.below.size; omega) hba)
        clear hr hh hr2 r1 ht he hba hC hI hq hm
        go_wp2_with fail
        go_region_law ((refine step_append_run (by rfl) _ _ _ (by rfl) _ _ _ (by rfl) (by rfl) HR.out ?_))
        all_goals
          go_wp2_with fail
          go_roundw
          case rel => exact ⟨k + 1, _, D, _, by omega, by simp, HNI, HN⟩
          case measure => simp [intOf]; omega
      · have q1 : (t.kind == 3) = true := by rw [hk3]; rfl
        clear hk3
        obtain ⟨a', c', w4, hr, g0, g1, hh⟩ := hC.out.tok hq.symm t (by omega)
        have HR : Hid ((Builtin.append_ #[rfsT, rfsT] rfsT #[.slice la q lc, .slice (some ⟨wr.heap.size, 0, none⟩) 1 1]).run Tryz.prog (wr.alloc (boxT rfT t)).drew = .ok (.slice a' (q + 1) c') w4) := Lib.hid hr
        have HN := Lib.hid hh.out
        have HNI := Lib.hid (hI.out.tok ht he)
        have hba : Below wr.heap.size wr (wr.alloc (boxT rfT t)) := (Below.refl _ _).alloc (Nat.le_refl _) _
        have y0 := old_cell c0 hblt hba
        obtain ⟨y1, y2⟩ := two (range_below hr2 (by have := hC.out.below.size; omega) hba)
        clear hr hh hr2 r1 ht he hba hC hI hq hm
        go_wp2_with fail
        go_region_law ((refine step_append_run (by rfl) _ _ _ (by rfl) _ _ _ (by rfl) (by rfl) HR.out ?_))
        all_goals
          go_wp2_with fail
          go_roundw
          case rel => exact ⟨k + 1, _, D, _, by omega, by simp, HNI, HN⟩
          case measure => simp [intOf]; omega
      · have q1 : (t.kind == 3) = true := by rw [hk3]; rfl
        clear hk3
        have hf1 : Fr (fun k => k = w.heap.size) wr (wr.setCell ⟨w.heap.size, 1, none⟩ (.string t.text)) := Fr.one _ _ _ _
        obtain ⟨a', c', w4, hr, hh⟩ := hC.out.app hm.symm t.text hf1 (by simp [World.setCell]) (by omega)
        have HR := Lib.hid hr
        have HNI := Lib.hid (hI.out.cut ht he (.slice la q lc))
        have hb4 := hh.out.2.2.1 _ (hC.out.box.set 1 (.string t.text))
        have g0 := hb4.cell 0
        have g1 := hb4.cell 1
        have g2 := hb4.free 0
        have g3 := hb4.free 1
        have hb5 := (hb4.set 0 (.slice none 0 0)).set 1 (.string ⟨#[]⟩)
        have hbe : Fr (fun k => k = w.heap.size) w4 ((w4.setCell ⟨w.heap.size, 0, none⟩ (.slice none 0 0)).setCell ⟨w.heap.size, 1, none⟩ (.string ⟨#[]⟩)) := Fr.setCell (Fr.one w4 w.heap.size 0 _) (fun _ => rfl) _
        have HN : Hid (CutAt w ((w4.setCell ⟨w.heap.size, 0, none⟩ (.slice none 0 0)).setCell ⟨w.heap.size, 1, none⟩ (.string ⟨#[]⟩)) (.slice a' (m + 1) c') (.slice none 0 0) (D ++ [(.slice la q lc, ⟨cur, t.text⟩)]) []) := Lib.hid (by
          have hown : ∀ {ty : TypeId} {z m : Nat} {v : Value} {xs : List Value}, w4.ownsRow (w.heap.size + 1) ty z v m xs → ((w4.setCell ⟨w.heap.size, 0, none⟩ (.slice none 0 0)).setCell ⟨w.heap.size, 1, none⟩ (.string ⟨#[]⟩)).ownsRow (w.heap.size + 1) ty z v m xs := fun ho' => Fr.owns ho' hbe (fun k hk e => by have := (ho'.lt k hk).1; omega)
          refine ⟨?_, fun e he => ?_, hb5, World.ownsRow_nil _ _ _ _, (Dj.nil _).symm, (hh.out.2.2.2.setCell (p := ⟨w.heap.size, 0, none⟩) (Nat.le_refl _) _).setCell (p := ⟨w.heap.size, 1, none⟩) (Nat.le_refl _) _⟩
          · rw [List.length_append, ← hm]
            exact hown hh.out.1
          · obtain ⟨e1, e2⟩ := hh.out.2.1 e he
            exact ⟨hown e1, e2, Dj.nil _⟩)
        rw [show (#[Value.slice la q lc, Value.string ⟨#[]⟩].setIfInBounds 1 (.string t.text)) = #[.slice la q lc, .string t.text] from rfl] at g0 g1
        simp only [List.getElem?_toArray] at g0 g1
        clear hr hh hr2 r1 ht he hC hI hq hm hb4 hb5 hbe hf1
        go_wp2_with (at_builtin; refine Lib.wpList_append_run _ rfl _ _ _ _ rfl _ _ rfl rfl _ _ HR.out ?_)
        go_roundw
        case rel => exact ⟨k + 1, _, _, [], by omega, by simp, HNI, HN⟩
        case measure => simp [intOf]; omega
    · have hf1 : Fr (fun k => k = w.heap.size) wr wr := Fr.refl _ _
      obtain ⟨a', c', w4, hr, hh⟩ := hC.out.app hm.symm ⟨#[]⟩ hf1 rfl (by omega)
      have HR := Lib.hid hr
      have HE : Hid (ReadsC w4 (.slice a' (m + 1) c') (cutL T) ∧ Below w.heap.size w w4) := Lib.hid (by
        have e := hI.out.fin (by have := HNN.out; omega) (.slice la q lc)
        rw [← e]
        refine ⟨owns_readsC (n := m + 1) (by rw [List.length_append, ← hm]; rfl) (by simp) hh.out.1 (fun e he => (hh.out.2.1 e he).1), hh.out.2.2.2⟩)
      clear hr hh hC hI hq hm hf1
      go_wp2_with (at_builtin; refine Lib.wpList_append_run _ rfl _ _ _ _ rfl _ _ rfl rfl _ _ HR.out ?_)
      go_ret
      exact ⟨_, rfl, HE.out⟩

/-! words. -/
abbrev pcV (a : Option Addr) (n c : Nat) (s : ByteArray) : Value := .agg #[.slice a n c, .string s]
theorem name_next {L : List Tk} {k : Nat} {t : Tk} (ht : L[k]? = some t) : nameL (L.take (k + 1)) = (if k = 0 then [] else nameL (L.take k) ++ [32]) ++ bl t.text := by
  have hlt := (List.getElem?_eq_some_iff.1 ht).1
  have e : (L.take (k + 1)).map (fun t => bl t.text) = (L.take k).map (fun t => bl t.text) ++ [bl t.text] := by rw [List.take_add_one, ht]; simp
  unfold nameL
  rw [e]
  by_cases h0 : k = 0
  · subst h0
    simp [joinS]
  · rw [if_neg h0, joinS_snoc]
    · simp
    · intro h
      have := congrArg List.length h
      rw [List.length_map, List.length_take, List.length_nil] at this
      omega
theorem ba_space (a : List UInt8) : ba a ++ spS = ba (a ++ [32]) := by
  rw [show spS = ba [32] from rfl, Addr.ba_cat]
theorem ba_text (a : List UInt8) (t : ByteArray) : ba a ++ t = ba (a ++ bl t) := by
  conv => lhs; rw [← ba_bl t]
  rw [Addr.ba_cat]
theorem plain_next {L : List Tk} {k : Nat} {t : Tk} (ht : L[k]? = some t) (h : plain (L.take k) = true) (hk : t.kind ≠ 3) : plain (L.take (k + 1)) = true := by
  unfold plain at *
  rw [List.take_add_one, ht, List.all_append, h]
  simp [hk]
theorem plain_not {L : List Tk} {k : Nat} {t : Tk} (ht : L[k]? = some t) (hk : t.kind = 3) : plain L = false := by
  unfold plain
  rw [List.all_eq_false]
  exact ⟨t, List.mem_of_getElem? ht, by simp [hk]⟩
def WoP (L : List Tk) (w : World) (e : Ending) (w' : World) : Prop := e = .returned (.tuple #[.string (if plain L = true then ba (nameL L) else ⟨#[]⟩), .bool (plain L)]) ∧ Below w.heap.size w w'
theorem WoP.no {L : List Tk} {w w' : World} (h : plain L = false) (hb : Below w.heap.size w w') : WoP L w (.returned (.tuple #[.string ⟨#[]⟩, .bool false])) w' := ⟨by rw [h]; rfl, hb⟩
theorem WoP.yes {L : List Tk} {w w' : World} {x : ByteArray} (h : plain L = true) (hx : x = ba (nameL L)) (hb : Below w.heap.size w w') : WoP L w (.returned (.tuple #[.string x, .bool true])) w' := ⟨by rw [h, hx]; rfl, hb⟩
set_option maxRecDepth 100000 in
set_option maxHeartbeats 4000000 in
theorem words_any (a : Option Addr) (n c : Nat) (x : ByteArray) (L : List Tk) (w : World) (hn : n = L.length) (hv : ReadsT w (.slice a n c) L) (hc : cost L ≤ 100000) :
    Calls Tryz.prog 81 #[pcV a n c x] w (WoP L w) := by
  have hl : n ≤ 100000 := by rw [hn]; exact Nat.le_trans (len_cost L) hc
  have HA : Hid (Below w.heap.size w (w.alloc (.cells #[.slice a n c, .string x] pcT))) := Lib.hid ((Below.refl _ _).alloc (Nat.le_refl _) _)
  have hbx : Lies (w.alloc (.cells #[.slice a n c, .string x] pcT)) w.heap.size #[.slice a n c, .string x] pcT := Lies.new _ _ _
  have c0 := hbx.cell 0
  simp only [List.getElem?_toArray] at c0
  have HV := Lib.hid (fun k t (ht : L[k]? = some t) => hv.at_ k t ht)
  have HNN := Lib.hid hn
  have HZ : Hid (∀ k, (ba (nameL (L.take k))).size ≤ 100000) := Lib.hid (fun k => by
    rw [ba_size]
    exact Nat.le_trans (name_le _) (Nat.le_trans (costT_le L k) hc))
  clear hv hn hbx
  go_enter Tryz.func81, Tryz.ntmps81
  go_wp2_with fail
  go_loopw [4, 5] (fun u i wr => ∃ k : Nat, k ≤ n ∧ i = .int .i64 k ∧ u = .string (ba (nameL (L.take k))) ∧ Hid (plain (L.take k) = true) ∧ wr = w.alloc (.cells #[.slice a n c, .string x] pcT)) (fun _ i _ => n - (intOf i).toNat)
  case atStart => exact ⟨0, Nat.zero_le _, rfl, rfl, Lib.hid rfl, rfl⟩
  case round =>
    obtain ⟨k, hk, rfl, rfl, hp, rfl⟩ := hrel
    by_cases hlt : k < n
    · obtain ⟨t, ht⟩ : ∃ a, L[k]? = some a := ⟨L[k]'(by have := HNN.out; omega), List.getElem?_eq_getElem _⟩
      obtain ⟨b1, o1, rfl, hb1, r1⟩ := HV.out k t ht
      obtain ⟨d0, d1⟩ := two (range_below r1 hb1 (HA.out.mono (Nat.le_refl _)))
      have hz := HZ.out k
      have htz : t.text.size ≤ 100000 := by
        have := mem_cost (List.mem_of_getElem? ht)
        omega
      by_cases hk3 : t.kind = 3
      · have q1 : (t.kind == 3) = true := by rw [hk3]; rfl
        have HE := Lib.hid (plain_not ht hk3)
        clear hk3 ht r1
        go_wp2_with fail
        go_ret2
        exact WoP.no HE.out HA.out
      · have q1 : (t.kind == 3) = false := by rw [beq_eq_false_iff_ne]; exact hk3
        have HP := Lib.hid (plain_next ht hp.out hk3)
        have hne := name_next ht
        by_cases h0 : k = 0
        · have HX : Hid (ba (nameL (L.take k)) ++ t.text = ba (nameL (L.take (k + 1)))) := Lib.hid (by
            rw [hne, if_pos h0, h0, ba_text]
            rfl)
          have hq : decide ((0 : Int) < (k : Int)) = false := by rw [h0]; rfl
          have hq2 : decide (0 < k) = false := by rw [h0]; rfl
          generalize ba (nameL (L.take k)) = o at *
          clear r1 ht hne h0 hk3
          go_wp2_with fail
          go_roundw
          case rel => exact ⟨k + 1, by omega, by simp, by rw [← HX.out], HP, trivial⟩
          case measure => simp [intOf]; omega
        · have HX : Hid (ba (nameL (L.take k)) ++ spS ++ t.text = ba (nameL (L.take (k + 1)))) := Lib.hid (by
            rw [hne, if_neg h0, ba_space, ba_text])
          have hq : decide ((0 : Int) < (k : Int)) = true := decide_eq_true (by omega)
          have hq2 : decide (0 < k) = true := decide_eq_true (by omega)
          generalize ba (nameL (L.take k)) = o at *
          clear r1 ht hne h0 hk3
          go_wp2_with fail
          go_roundw
          case rel => exact ⟨k + 1, by omega, by simp, by rw [← HX.out], HP, trivial⟩
          case measure => simp [intOf]; omega
    · have HE : Hid (L.take k = L) := Lib.hid (List.take_of_length_le (by have := HNN.out; omega))
      have HP := Lib.hid hp.out
      rw [HE.out] at HP
      go_wp2_with fail
      go_ret2
      exact WoP.yes HP.out (by rw [HE.out]) HA.out
end Go.Proofs.YtegbkfloiiilfaaGreatDoor.Mbx
