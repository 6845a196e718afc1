/-
  The law walk: MsgWith.
-/
import Derived.Test.YtegbkfloiiilfaaGreatDoorMgLawA
import Derived.Test.YtegbkfloiiilfaaGreatDoorMgHeadR
import Derived.Deep.RegionHeld

/-
  The law's walk: MsgWith.
-/
namespace Go.Proofs.YtegbkfloiiilfaaGreatDoor.Msg
open Go Go.RowKit
open Go.Proofs.YtegbkfloiiilfaaGreatDoor.Head
open Go.Proofs.YtegbkfloiiilfaaGreatDoor.Glyph (foldL)

/-- A field in a list that the call has made, written over. -/
theorem own_setf {wr : World} {B n c : Nat} {a : Option Addr} {L : List Head.Fd} (ho : wr.ownsRow B fdT 2 (.slice a n c) n (L.flatMap fdC)) (hL : L.length = n) (i : Nat) (hi : i < n) (y : Head.Fd) :
    ∃ (g : Nat) (f : Head.Fd), a = some ⟨g, 0, none⟩ ∧ B ≤ g ∧ wr.cell? ⟨g, i * 2, none⟩ = some (.string f.n) ∧ wr.cell? ⟨g, i * 2 + 1, none⟩ = some (.string f.v) ∧ wr.frozen? ⟨g, i * 2, none⟩ = false ∧ wr.frozen? ⟨g, i * 2 + 1, none⟩ = false ∧ Hid (((wr.setCell ⟨g, i * 2, none⟩ (.string y.n)).setCell ⟨g, i * 2 + 1, none⟩ (.string y.v)).ownsRow B fdT 2 (.slice a n c) n ((L.set i y).flatMap fdC)) := by
  obtain ⟨f, hf⟩ : ∃ f, L[i]? = some f := ⟨L[i]'(by omega), List.getElem?_eq_getElem _⟩
  obtain ⟨g, rfl, hfr⟩ : ∃ g, a = some ⟨g, 0, none⟩ ∧ ∀ j, wr.frozen? ⟨g, j, none⟩ = false := by
    rcases ho.2 with ⟨h5, h6⟩ | ⟨g', cap', cur, h5, _, h6, _⟩
    · omega
    · obtain ⟨h7, _, _⟩ := Value.slice.inj h5
      exact ⟨g', h7, fun j => frozen_of_row wr g' j cur _ h6⟩
  have a0 := ho.cells (g := g) rfl (i * 2) (.string f.n) (by have := flat2_get L i f hf 0 (by omega); simpa [fdC] using this)
  have a1 := ho.cells (g := g) rfl (i * 2 + 1) (.string f.v) (by have := flat2_get L i f hf 1 (by omega); simpa [fdC] using this)
  rw [addr_add, Nat.zero_add] at a0 a1
  refine ⟨g, f, rfl, (ho.lt g rfl).1, a0, a1, hfr _, hfr _, Lib.hid ?_⟩
  have hfs : (L.set i y).flatMap fdC = ((L.flatMap fdC).set (i * 2) (.string y.n)).set (i * 2 + 1) (.string y.v) := by
    rw [flat_set]
  rw [hfs]
  exact owns_set (owns_set ho (g := g) rfl (i * 2) (.string y.n) (by omega)) (g := g) rfl (i * 2 + 1) (.string y.v) (by omega)
set_option maxRecDepth 100000 in
set_option maxHeartbeats 8000000 in
theorem msgWith_any (v : Value) (q : List Head.Fd) (b : ByteArray) (f : Head.Fd) (w : World) (hv : ReadsF w v q) (hm : MaxAt w) : Calls Tryz.prog 7 #[msV v b, fdV f] w (TrueP w) := by
  obtain ⟨va, vc, rfl⟩ := hv.shape
  obtain ⟨n, hn⟩ : ∃ n, n = q.length := ⟨_, rfl⟩
  rw [← hn] at hv ⊢
  have HNN := Lib.hid hn
  obtain ⟨W0, hW0⟩ : ∃ W0, W0 = ((w.alloc (boxM rmT (.slice va n vc) b)).alloc (boxF rfT f)) := ⟨_, rfl⟩
  have hz1 : (w.alloc (boxM rmT (.slice va n vc) b)).heap.size = w.heap.size + 1 := by simp
  have hz0 : W0.heap.size = w.heap.size + 2 := by rw [hW0]; simp
  have a1 : Below w.heap.size w (w.alloc (boxM rmT (.slice va n vc) b)) := (Below.refl _ _).alloc (Nat.le_refl _) _
  have a2 : Below (w.alloc (boxM rmT (.slice va n vc) b)).heap.size (w.alloc (boxM rmT (.slice va n vc) b)) W0 := by rw [hW0]; exact (Below.refl _ _).alloc (Nat.le_refl _) _
  have hA : Below w.heap.size w W0 := a1.trans (a2.mono a1.size)
  have hR1 : W0.rangeAt w.heap.size 0 (msC (.slice va n vc) b) := range_below (new_boxM w rmT (.slice va n vc) b) (by simp) a2
  have hR2 : W0.rangeAt (w.heap.size + 1) 0 (fdC f) := by
    have := new_boxF (w.alloc (boxM rmT (.slice va n vc) b)) rfT f
    rw [hz1] at this
    rw [hW0]
    exact this
  have HA := Lib.hid hA
  have HCE : Hid (∀ W, Below W0.heap.size W0 W → (W.cell? ⟨w.heap.size, 0, none⟩ = some (.slice va n vc) ∧ W.cell? ⟨w.heap.size, 0 + 1, none⟩ = some (.string b)) ∧ W.cell? ⟨w.heap.size + 1, 0, none⟩ = some (.string f.n) ∧ W.cell? ⟨w.heap.size + 1, 0 + 1, none⟩ = some (.string f.v)) := Lib.hid (fun W hb => ⟨twoM (range_below hR1 (by rw [hz0]; omega) hb), two (range_below hR2 (by rw [hz0]; omega) hb)⟩)
  have HV := Lib.hid hv
  have HM := Lib.hid hm
  have HLI := Lib.hid (mlight_any _ q b W0 (hv.below hA))
  have HWK := Lib.hid (fun W (h : Below w.heap.size w W) => works_any W (hm.below h))
  have HW0 := Lib.hid hW0
  have HW0z := Lib.hid hz0
  obtain ⟨⟨c0, c1⟩, e0, e1⟩ := HCE.out W0 (Below.refl _ _)
  clear hv hm hn a1 a2 hA hR1 hR2 hz1 hz0 hW0
  cases hl : lightM q b
  · rw [hl] at HLI
    clear hl
    go_enter Tryz.func7, Tryz.ntmps7
    go_wp2_with fail
    rw [← HW0.out]
    refine HLI.out.mono ?_
    rintro e w1 ⟨rfl, hb⟩
    have HB := Lib.hid (HA.out.trans (hb.mono HA.out.size))
    have HW1 := Lib.hid (HWK.out w1 HB.out)
    clear c0 c1 e0 e1
    obtain ⟨⟨c0, c1⟩, e0, e1⟩ := HCE.out w1 hb
    clear hb
    go_wp2_with fail
    refine HW1.out.mono ?_
    rintro e w2 ⟨rfl, hb⟩
    have HB2 := Lib.hid (HB.out.trans (hb.mono HB.out.size))
    clear hb
    go_wp2_with fail
    go_ret
    exact ⟨rfl, HB2.out⟩
  obtain ⟨⟨hq, hsz⟩, hbz⟩ := lightM_iff hl
  rw [hl] at HLI
  clear hl
  by_cases hs1 : 200 < f.n.size
  · have d1 : (200 : Int) < (f.n.size : Int) := by omega
    go_enter Tryz.func7, Tryz.ntmps7
    go_wp2_with fail
    rw [← HW0.out]
    refine HLI.out.mono ?_
    rintro e w1 ⟨rfl, hb⟩
    have HB := Lib.hid (HA.out.trans (hb.mono HA.out.size))
    have HW1 := Lib.hid (HWK.out w1 HB.out)
    clear c0 c1 e0 e1
    obtain ⟨⟨c0, c1⟩, e0, e1⟩ := HCE.out w1 hb
    clear hb
    go_wp2_with fail
    refine HW1.out.mono ?_
    rintro e w2 ⟨rfl, hb⟩
    have HB2 := Lib.hid (HB.out.trans (hb.mono HB.out.size))
    clear hb
    go_wp2_with fail
    go_ret
    exact ⟨rfl, HB2.out⟩
  have d1 : ¬ (200 : Int) < (f.n.size : Int) := by omega
  by_cases hs2 : 3000 < f.v.size
  · have d2 : (3000 : Int) < (f.v.size : Int) := by omega
    go_enter Tryz.func7, Tryz.ntmps7
    go_wp2_with fail
    rw [← HW0.out]
    refine HLI.out.mono ?_
    rintro e w1 ⟨rfl, hb⟩
    have HB := Lib.hid (HA.out.trans (hb.mono HA.out.size))
    have HW1 := Lib.hid (HWK.out w1 HB.out)
    clear c0 c1 e0 e1
    obtain ⟨⟨c0, c1⟩, e0, e1⟩ := HCE.out w1 hb
    clear hb
    go_wp2_with fail
    refine HW1.out.mono ?_
    rintro e w2 ⟨rfl, hb⟩
    have HB2 := Lib.hid (HB.out.trans (hb.mono HB.out.size))
    clear hb
    go_wp2_with fail
    go_ret
    exact ⟨rfl, HB2.out⟩
  have d2 : ¬ (3000 : Int) < (f.v.size : Int) := by omega
  have hsn : ∀ f ∈ q, f.n.size ≤ 1000000 := fun f hf => by have := hsz f hf; omega
  have hnz : f.n.size ≤ 1000000 := by omega
  have HTO := Lib.hid (fun W (h : Below w.heap.size w W) => mto_any _ q b W (HV.out.below h) (by omega))
  have HWI := Lib.hid (fun u W (h : ReadsF W u q) => with_any u q b f.n f.v W h (by omega) hsn hnz)
  have HRP := Lib.hid (fun u W (h : ReadsF W u q) => rput_any u q f W h (by omega) hsn hnz)
  have hpl : (putL (foldL (bl f.n)) f q).length ≤ q.length + 1 := by
    have := putK_len (foldL (bl f.n)) f q
    have e := putK_end (foldL (bl f.n)) f q
    split at e
    · rw [e]; exact this
    · rename_i hna
      rw [e]
      unfold putK
      rw [if_neg hna, List.length_append]
      simp
  have HS1 := Lib.hid (fun u v W (h1 : ReadsF W u (putL (foldL (bl f.n)) f q)) (h2 : ReadsF W v (putL (foldL (bl f.n)) f q)) => msame_any u v _ b W h1 h2 (by omega))
  have HS2 := Lib.hid (fun u v W (h1 : ReadsF W u q) (h2 : ReadsF W v q) => msame_any u v q b W h1 h2 (by omega))
  have hpl40 : (putL (foldL (bl f.n)) f q).length ≤ 40 := by omega
  rw [show (⟨f.n, f.v⟩ : Head.Fd) = f from rfl] at HWI
  generalize putL (foldL (bl f.n)) f q = PL at *
  obtain ⟨np, hnp⟩ : ∃ np, np = PL.length := ⟨_, rfl⟩
  have HNP := Lib.hid hnp
  rw [← hnp] at hpl40
  clear hsn hnz hsz hq hbz hpl hnp
  go_enter Tryz.func7, Tryz.ntmps7
  go_wp2_with fail
  rw [← HW0.out]
  refine HLI.out.mono ?_
  rintro e w1 ⟨rfl, hb⟩
  have HB1 := Lib.hid (HA.out.trans (hb.mono HA.out.size))
  have HB10 := Lib.hid hb
  have HT1 := Lib.hid (HTO.out w1 HB1.out)
  clear c0 c1 e0 e1
  obtain ⟨⟨c0, c1⟩, e0, e1⟩ := HCE.out w1 hb
  clear hb
  go_wp2_with fail
  refine HT1.out.mono ?_
  rintro e w2 ⟨u, rfl, hf⟩
  obtain ⟨ua, uc, rfl⟩ := owns_slice hf.1
  have hrd := owns_readsF hf.1
  rw [← HNN.out] at hrd ⊢
  have hal2 : Below w2.heap.size w2 (w2.alloc (boxM msT (.slice ua n uc) b)) := (Below.refl _ _).alloc (Nat.le_refl _) _
  have HRD2 := Lib.hid (hrd.below hal2)
  have HB2 := Lib.hid (HB1.out.trans ((hf.2.trans (hal2.mono hf.2.size)).mono HB1.out.size))
  have HB20 := Lib.hid (HB10.out.trans ((hf.2.trans (hal2.mono hf.2.size)).mono HB10.out.size))
  have HX2 := Lib.hid (new_boxM w2 msT (.slice ua n uc) b)
  have HL2 : Hid (w2.heap.size < (w2.alloc (boxM msT (.slice ua n uc) b)).heap.size) := Lib.hid (by simp)
  have HI2 := Lib.hid (HWI.out _ _ HRD2.out)
  clear c0 c1 e0 e1
  obtain ⟨⟨c0, c1⟩, e0, e1⟩ := HCE.out _ HB20.out
  clear hf hrd hal2
  go_wp2_with fail
  refine HI2.out.mono ?_
  rintro e w3 ⟨p, rfl, hf⟩
  obtain ⟨pa, pc, rfl⟩ := owns_slice hf.1
  have ho := hf.1
  rw [← HNP.out] at ho ⊢
  have hal3 : Below w3.heap.size w3 (w3.alloc (boxM msT (.slice pa np pc) b)) := (Below.refl _ _).alloc (Nat.le_refl _) _
  obtain ⟨W3, hW3⟩ : ∃ W3, W3 = w3.alloc (boxM msT (.slice pa np pc) b) := ⟨_, rfl⟩
  rw [← hW3] at hal3
  obtain ⟨W2, hW2⟩ : ∃ W2, W2 = w2.alloc (boxM msT (.slice ua n uc) b) := ⟨_, rfl⟩
  rw [← hW2] at HRD2 HB2 HB20 HX2 HL2 hf ho
  have HOW : Hid (W3.ownsRow W2.heap.size fdT 2 (.slice pa np pc) np (PL.flatMap fdC)) := Lib.hid (owns_below ho hal3)
  have HB32 := Lib.hid (hf.2.trans (hal3.mono hf.2.size))
  have HB3 := Lib.hid (HB2.out.trans (HB32.out.mono HB2.out.size))
  have HB30 := Lib.hid (HB20.out.trans (HB32.out.mono HB20.out.size))
  have hz3 : W3.heap.size = w3.heap.size + 1 := by rw [hW3]; simp
  have HX3 : Hid (W3.rangeAt w3.heap.size 0 (msC (.slice pa np pc) b) ∧ w3.heap.size < W3.heap.size) := Lib.hid ⟨by rw [hW3]; exact new_boxM w3 msT (.slice pa np pc) b, by omega⟩
  have HBK : Hid (∀ g o, pa = some ⟨g, o, none⟩ → g < w3.heap.size) := Lib.hid (by
    rintro g o rfl
    rcases ho.2 with ⟨h6, _⟩ | ⟨g', cap', cur, h6, _, h7, _⟩
    · cases h6
    · obtain ⟨e1, _, _⟩ := Value.slice.inj h6
      have e2 : g = g' := (Addr.mk.inj (Option.some.inj e1)).1
      subst e2
      exact (Array.getElem?_eq_some_iff.1 h7).1)
  have HW3 := Lib.hid hW3
  have HZ3 := Lib.hid hz3
  have HQ : Hid (∀ W, Below W3.heap.size W3 W → (W.cell? ⟨w.heap.size, 0, none⟩ = some (.slice va n vc) ∧ W.cell? ⟨w.heap.size, 0 + 1, none⟩ = some (.string b)) ∧ W.cell? ⟨w.heap.size + 1, 0, none⟩ = some (.string f.n) ∧ W.cell? ⟨w.heap.size + 1, 0 + 1, none⟩ = some (.string f.v)) := Lib.hid (fun W hb => HCE.out W (HB30.out.trans (hb.mono HB30.out.size)))
  have HZZ : Hid (w.heap.size + 1 < W3.heap.size) := Lib.hid (by have h1 := HB30.out.size; have h2 := HW0z.out; omega)
  have n0 : W3.heap.size ≠ w.heap.size := by have := HZZ.out; omega
  have n1 : W3.heap.size ≠ w.heap.size + 1 := by have := HZZ.out; omega
  have HRPW : Hid (∀ W, Below W3.heap.size W3 W → Calls Tryz.prog 35 #[.slice va n vc, fdV f] W fun e w' => ∃ ra rc, e = .returned (.slice ra np rc) ∧ w'.cell? ⟨w.heap.size, 0, none⟩ = some (.slice va n vc) ∧ w'.cell? ⟨w.heap.size, 0 + 1, none⟩ = some (.string b) ∧ w'.cell? ⟨w.heap.size + 1, 0, none⟩ = some (.string f.n) ∧ w'.cell? ⟨w.heap.size + 1, 0 + 1, none⟩ = some (.string f.v) ∧ Below W3.heap.size W3 w' ∧ Below W.heap.size W w' ∧ w'.heap.size ≠ w.heap.size ∧ w'.heap.size ≠ w.heap.size + 1 ∧ Hid (∀ W', Below w'.heap.size w' W' → ReadsF W' (.slice ra np rc) PL)) := Lib.hid (fun W hb => by
    refine (HRP.out _ W (HV.out.below (HB3.out.trans (hb.mono HB3.out.size)))).mono ?_
    rintro e w' ⟨r, rfl, ht⟩
    obtain ⟨ra, rc, rfl⟩ := owns_slice ht.1
    have hb' : Below W3.heap.size W3 w' := hb.trans (ht.2.mono hb.size)
    have hrd := owns_readsF ht.1
    rw [← HNP.out] at hrd ⊢
    exact ⟨ra, rc, rfl, (HQ.out w' hb').1.1, (HQ.out w' hb').1.2, (HQ.out w' hb').2.1, (HQ.out w' hb').2.2, hb', ht.2, by have := hb'.size; have := HZZ.out; omega, by have := hb'.size; have := HZZ.out; omega, Lib.hid (fun W' h => hrd.below h)⟩)
  have HRPA : Hid (Calls Tryz.prog 35 #[.slice va n vc, fdV f] ((W3.alloc (boxM rmT (.slice none 0 0) ⟨#[]⟩)).drew) fun e w' => ∃ ra rc, e = .returned (.slice ra np rc) ∧ w'.cell? ⟨w.heap.size, 0, none⟩ = some (.slice va n vc) ∧ w'.cell? ⟨w.heap.size, 0 + 1, none⟩ = some (.string b) ∧ w'.cell? ⟨w.heap.size + 1, 0, none⟩ = some (.string f.n) ∧ w'.cell? ⟨w.heap.size + 1, 0 + 1, none⟩ = some (.string f.v) ∧ w'.cell? ⟨W3.heap.size, 0, none⟩ = some (.slice none 0 0) ∧ w'.cell? ⟨W3.heap.size, 1, none⟩ = some (.string ⟨#[]⟩) ∧ w'.frozen? ⟨W3.heap.size, 0, none⟩ = false ∧ w'.frozen? ⟨W3.heap.size, 1, none⟩ = false ∧
      Hid (Below W3.heap.size W3 (fill2 w' W3.heap.size (.slice ra np rc) b) ∧ ReadsF (fill2 w' W3.heap.size (.slice ra np rc) b) (.slice ra np rc) PL ∧ (fill2 w' W3.heap.size (.slice ra np rc) b).rangeAt W3.heap.size 0 (msC (.slice ra np rc) b))) := Lib.hid (by
    have hb : Below W3.heap.size W3 ((W3.alloc (boxM rmT (.slice none 0 0) ⟨#[]⟩)).drew) := bel_drew (bel_alloc (Below.refl _ _))
    have hl : Lies ((W3.alloc (boxM rmT (.slice none 0 0) ⟨#[]⟩)).drew) W3.heap.size #[.slice none 0 0, .string ⟨#[]⟩] rmT := Lies.new W3 #[.slice none 0 0, .string ⟨#[]⟩] rmT
    refine (HRP.out _ _ (HV.out.below (HB3.out.trans (hb.mono HB3.out.size)))).mono ?_
    rintro e w' ⟨r, rfl, ht⟩
    obtain ⟨ra, rc, rfl⟩ := owns_slice ht.1
    have hb' : Below W3.heap.size W3 w' := hb.trans (ht.2.mono hb.size)
    have hl2 := hl.same (ht.2.block _ hl.lt)
    have hrd := owns_readsF (owns_fill (g := W3.heap.size) (u := .slice ra np rc) (b := b) ht.1 (by simp))
    rw [← HNP.out] at hrd ⊢
    have hl3 : Lies (fill2 w' W3.heap.size (.slice ra np rc) b) W3.heap.size #[.slice ra np rc, .string b] rmT := (hl2.set 0 _).set 1 _
    refine ⟨ra, rc, rfl, (HQ.out w' hb').1.1, (HQ.out w' hb').1.2, (HQ.out w' hb').2.1, (HQ.out w' hb').2.2, hl2.cell 0, hl2.cell 1, hl2.free 0, hl2.free 1, Lib.hid ⟨(hb'.setCell (p := ⟨W3.heap.size, 0, none⟩) (Nat.le_refl _) _).setCell (p := ⟨W3.heap.size, 1, none⟩) (Nat.le_refl _) _, hrd, ?_⟩⟩
    intro j x hx
    rw [Nat.zero_add, hl3.cell]
    match j, hx with
    | 0, hx => exact hx
    | 1, hx => exact hx
    | j + 2, hx => simp [msC] at hx)
  clear c0 c1 e0 e1
  obtain ⟨⟨c0, c1⟩, e0, e1⟩ := HQ.out W3 (Below.refl _ _)
  clear hf ho hal3 hW3 hW2 hz3
  go_wp2_with fail
  rw [← HW3.out]
  go_region_held (fun W => W.cell? ⟨w.heap.size, 0, none⟩ = some (.slice va n vc) ∧ W.cell? ⟨w.heap.size, 0 + 1, none⟩ = some (.string b) ∧ W.cell? ⟨w.heap.size + 1, 0, none⟩ = some (.string f.n) ∧ W.cell? ⟨w.heap.size + 1, 0 + 1, none⟩ = some (.string f.v)) (first | go_keep | (all_goals assumption)) ((first | (go_at_call 35; (with_reducible refine HRPA.out.mono ?_); rintro e wa ⟨ra, rc, rfl, sa0, sa1, sa2, sa3, z0, z1, z2, z3, hra⟩) | (go_at_call 35; (with_reducible refine (HRPW.out _ (by (repeat (first | exact Below.refl _ _ | with_reducible refine bel_drew ?_)))).mono ?_); rintro e wa ⟨ra, rc, rfl, sa0, sa1, sa2, sa3, ba3, baW, m0, m1, hra⟩)))
  · obtain ⟨WX, hWX⟩ : ∃ WX, WX = wa.alloc (boxM rmT (.slice ra np rc) b) := ⟨_, rfl⟩
    have hal : Below wa.heap.size wa WX := by rw [hWX]; exact (Below.refl _ _).alloc (Nat.le_refl _) _
    have HBX := Lib.hid (ba3.trans (hal.mono ba3.size))
    have HD : Hid (WX.rangeAt wa.heap.size 0 (msC (.slice ra np rc) b)) := Lib.hid (by rw [hWX]; exact new_boxM wa rmT _ b)
    have HRR := Lib.hid (hra.out WX hal)
    rw [← hWX]
    clear hal hWX sa0 sa1 sa2 sa3 ba3 baW m0 m1 c0 c1 e0 e1 n0 n1
    obtain ⟨d0, d1⟩ := twoM HD.out
    obtain ⟨k0, k1⟩ := twoM (range_below HX3.out.1 HX3.out.2 HBX.out)
    have HOX := Lib.hid (owns_below HOW.out HBX.out)
    have HSX := Lib.hid (HS1.out _ _ WX (by have := owns_readsF (q := PL) (by have := HOX.out; rw [HNP.out] at this; exact this); rw [← HNP.out] at this; exact this) HRR.out)
    go_wp2_with fail
    refine HSX.out.mono ?_
    rintro e w8 ⟨rfl, hb⟩
    have HOW8 := Lib.hid (owns_below HOX.out hb)
    have HB83 := Lib.hid (HBX.out.trans (hb.mono HBX.out.size))
    have HB82 := Lib.hid (HB32.out.trans (HB83.out.mono HB32.out.size))
    clear k0 k1 d0 d1 hb
    obtain ⟨k0, k1⟩ := twoM (range_below HX3.out.1 HX3.out.2 HB83.out)
    have HK8 := Lib.hid k0
    go_wp2_with fail
    clear k0 k1
    go_loopw [47] (fun i wr => ∃ (k : Nat) (L' : List Head.Fd), k ≤ np ∧ i = .int .i64 k ∧ L'.length = np ∧ Hid (wr.ownsRow W2.heap.size fdT 2 (.slice pa np pc) np (L'.flatMap fdC) ∧ Below W2.heap.size W2 wr ∧ wr.cell? ⟨w3.heap.size, 0, none⟩ = some (.slice pa np pc))) (fun i _ => np - (intOf i).toNat)
    case atStart => exact ⟨0, PL, Nat.zero_le _, rfl, HNP.out.symm, Lib.hid ⟨HOW8.out, HB82.out, HK8.out⟩⟩
    case round =>
      obtain ⟨k, L', hk, rfl, hL', hR⟩ := hrel
      have k0 := hR.out.2.2
      by_cases hlt : k < np
      · obtain ⟨g, f0, rfl, hBg, g0, g1, g2, g3, hset⟩ := own_setf hR.out.1 hL' k hlt ⟨⟨#[115, 112, 111, 105, 108, 116]⟩, ⟨#[]⟩⟩
        have hg3 := HBK.out g 0 rfl
        have HN : Hid (((wr.setCell ⟨g, k * 2, none⟩ (.string ⟨#[115, 112, 111, 105, 108, 116]⟩)).setCell ⟨g, k * 2 + 1, none⟩ (.string ⟨#[]⟩)).ownsRow W2.heap.size fdT 2 (.slice (some ⟨g, 0, none⟩) np pc) np ((L'.set k ⟨⟨#[115, 112, 111, 105, 108, 116]⟩, ⟨#[]⟩⟩).flatMap fdC) ∧ Below W2.heap.size W2 ((wr.setCell ⟨g, k * 2, none⟩ (.string ⟨#[115, 112, 111, 105, 108, 116]⟩)).setCell ⟨g, k * 2 + 1, none⟩ (.string ⟨#[]⟩)) ∧ ((wr.setCell ⟨g, k * 2, none⟩ (.string ⟨#[115, 112, 111, 105, 108, 116]⟩)).setCell ⟨g, k * 2 + 1, none⟩ (.string ⟨#[]⟩)).cell? ⟨w3.heap.size, 0, none⟩ = some (.slice (some ⟨g, 0, none⟩) np pc)) := Lib.hid ⟨hset.out, (hR.out.2.1.setCell (p := ⟨g, k * 2, none⟩) hBg _).setCell (p := ⟨g, k * 2 + 1, none⟩) hBg _, by
          rw [World.cell?_setCell_far _ _ _ _ (by show g ≠ w3.heap.size; omega), World.cell?_setCell_far _ _ _ _ (by show g ≠ w3.heap.size; omega)]
          exact k0⟩
        clear hset
        go_wp2_with fail
        go_roundw
        case rel => exact ⟨k + 1, _, by omega, by simp, by rw [List.length_set]; exact hL', HN⟩
        case measure => simp [intOf]; omega
      · have HBW : Hid (Below w.heap.size w wr) := Lib.hid (HB2.out.trans (hR.out.2.1.mono HB2.out.size))
        obtain ⟨y0, y1⟩ := twoM (range_below HX2.out HL2.out hR.out.2.1)
        obtain ⟨⟨x0, x1⟩, _, _⟩ := HCE.out wr (HB20.out.trans (hR.out.2.1.mono HB20.out.size))
        have HSF := Lib.hid (HS2.out _ _ wr (HRD2.out.below hR.out.2.1) (HV.out.below HBW.out))
        go_wp2_with fail
        refine HSF.out.mono ?_
        rintro e w9 ⟨rfl, hb⟩
        have HB9 := Lib.hid (HBW.out.trans (hb.mono HBW.out.size))
        have HW9 := Lib.hid (HWK.out w9 HB9.out)
        clear hb
        go_wp2_with fail
        refine HW9.out.mono ?_
        rintro e w10 ⟨rfl, hb⟩
        have HBF := Lib.hid (HB9.out.trans (hb.mono HB9.out.size))
        clear hb
        go_wp2_with fail
        go_ret
        exact ⟨rfl, HBF.out⟩
  · obtain ⟨WX, hWX⟩ : ∃ WX, WX = (wa.setCell ⟨W3.heap.size, 0, none⟩ (.slice ra np rc)).setCell ⟨W3.heap.size, 1, none⟩ (.string b) := ⟨_, rfl⟩
    have hWX' : fill2 wa W3.heap.size (.slice ra np rc) b = WX := hWX.symm
    rw [hWX'] at hra
    have HBX := Lib.hid hra.out.1
    have HD := Lib.hid hra.out.2.2
    have HRR := Lib.hid hra.out.2.1
    rw [← hWX]
    clear hWX hWX' sa0 sa1 sa2 sa3 z0 z1 z2 z3 c0 c1 e0 e1 n0 n1
    obtain ⟨d0, d1⟩ := twoM HD.out
    obtain ⟨k0, k1⟩ := twoM (range_below HX3.out.1 HX3.out.2 HBX.out)
    have HOX := Lib.hid (owns_below HOW.out HBX.out)
    have HSX := Lib.hid (HS1.out _ _ WX (by have := owns_readsF (q := PL) (by have := HOX.out; rw [HNP.out] at this; exact this); rw [← HNP.out] at this; exact this) HRR.out)
    go_wp2_with fail
    refine HSX.out.mono ?_
    rintro e w8 ⟨rfl, hb⟩
    have HOW8 := Lib.hid (owns_below HOX.out hb)
    have HB83 := Lib.hid (HBX.out.trans (hb.mono HBX.out.size))
    have HB82 := Lib.hid (HB32.out.trans (HB83.out.mono HB32.out.size))
    clear k0 k1 d0 d1 hb
    obtain ⟨k0, k1⟩ := twoM (range_below HX3.out.1 HX3.out.2 HB83.out)
    have HK8 := Lib.hid k0
    go_wp2_with fail
    clear k0 k1
    go_loopw [47] (fun i wr => ∃ (k : Nat) (L' : List Head.Fd), k ≤ np ∧ i = .int .i64 k ∧ L'.length = np ∧ Hid (wr.ownsRow W2.heap.size fdT 2 (.slice pa np pc) np (L'.flatMap fdC) ∧ Below W2.heap.size W2 wr ∧ wr.cell? ⟨w3.heap.size, 0, none⟩ = some (.slice pa np pc))) (fun i _ => np - (intOf i).toNat)
    case atStart => exact ⟨0, PL, Nat.zero_le _, rfl, HNP.out.symm, Lib.hid ⟨HOW8.out, HB82.out, HK8.out⟩⟩
    case round =>
      obtain ⟨k, L', hk, rfl, hL', hR⟩ := hrel
      have k0 := hR.out.2.2
      by_cases hlt : k < np
      · obtain ⟨g, f0, rfl, hBg, g0, g1, g2, g3, hset⟩ := own_setf hR.out.1 hL' k hlt ⟨⟨#[115, 112, 111, 105, 108, 116]⟩, ⟨#[]⟩⟩
        have hg3 := HBK.out g 0 rfl
        have HN : Hid (((wr.setCell ⟨g, k * 2, none⟩ (.string ⟨#[115, 112, 111, 105, 108, 116]⟩)).setCell ⟨g, k * 2 + 1, none⟩ (.string ⟨#[]⟩)).ownsRow W2.heap.size fdT 2 (.slice (some ⟨g, 0, none⟩) np pc) np ((L'.set k ⟨⟨#[115, 112, 111, 105, 108, 116]⟩, ⟨#[]⟩⟩).flatMap fdC) ∧ Below W2.heap.size W2 ((wr.setCell ⟨g, k * 2, none⟩ (.string ⟨#[115, 112, 111, 105, 108, 116]⟩)).setCell ⟨g, k * 2 + 1, none⟩ (.string ⟨#[]⟩)) ∧ ((wr.setCell ⟨g, k * 2, none⟩ (.string ⟨#[115, 112, 111, 105, 108, 116]⟩)).setCell ⟨g, k * 2 + 1, none⟩ (.string ⟨#[]⟩)).cell? ⟨w3.heap.size, 0, none⟩ = some (.slice (some ⟨g, 0, none⟩) np pc)) := Lib.hid ⟨hset.out, (hR.out.2.1.setCell (p := ⟨g, k * 2, none⟩) hBg _).setCell (p := ⟨g, k * 2 + 1, none⟩) hBg _, by
          rw [World.cell?_setCell_far _ _ _ _ (by show g ≠ w3.heap.size; omega), World.cell?_setCell_far _ _ _ _ (by show g ≠ w3.heap.size; omega)]
          exact k0⟩
        clear hset
        go_wp2_with fail
        go_roundw
        case rel => exact ⟨k + 1, _, by omega, by simp, by rw [List.length_set]; exact hL', HN⟩
        case measure => simp [intOf]; omega
      · have HBW : Hid (Below w.heap.size w wr) := Lib.hid (HB2.out.trans (hR.out.2.1.mono HB2.out.size))
        obtain ⟨y0, y1⟩ := twoM (range_below HX2.out HL2.out hR.out.2.1)
        obtain ⟨⟨x0, x1⟩, _, _⟩ := HCE.out wr (HB20.out.trans (hR.out.2.1.mono HB20.out.size))
        have HSF := Lib.hid (HS2.out _ _ wr (HRD2.out.below hR.out.2.1) (HV.out.below HBW.out))
        go_wp2_with fail
        refine HSF.out.mono ?_
        rintro e w9 ⟨rfl, hb⟩
        have HB9 := Lib.hid (HBW.out.trans (hb.mono HBW.out.size))
        have HW9 := Lib.hid (HWK.out w9 HB9.out)
        clear hb
        go_wp2_with fail
        refine HW9.out.mono ?_
        rintro e w10 ⟨rfl, hb⟩
        have HBF := Lib.hid (HB9.out.trans (hb.mono HB9.out.size))
        clear hb
        go_wp2_with fail
        go_ret
        exact ⟨rfl, HBF.out⟩
end Go.Proofs.YtegbkfloiiilfaaGreatDoor.Msg
