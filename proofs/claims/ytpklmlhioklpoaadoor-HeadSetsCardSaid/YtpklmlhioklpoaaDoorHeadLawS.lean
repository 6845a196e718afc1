/-
  The law's walk: HeadSets.
-/
import Derived.Test.YtpklmlhioklpoaaDoorHeadLawA
import Derived.Test.YtpklmlhioklpoaaDoorHeadRefS
import Derived.Test.YtpklmlhioklpoaaDoorHeadGrid
import Derived.Deep.RegionHeld
namespace Go.Proofs.YtpklmlhioklpoaaDoor.Head
open Go Go.RowKit
open Go.Proofs.YtpklmlhioklpoaaDoor.Glyph (foldL)

/-- A value in a list that the call has made, written over. -/
theorem own_setv {wr : World} {B n c : Nat} {a : Option Addr} {L : List Fd} (ho : wr.ownsRow B fdT 2 (.slice a n c) n (L.flatMap fdC)) (hL : L.length = n) (i : Nat) (hi : i < n) (v : ByteArray) :
    ∃ (b : Nat) (f : Fd), a = some ⟨b, 0, none⟩ ∧ B ≤ b ∧ wr.cell? ⟨b, i * 2, none⟩ = some (.string f.n) ∧ wr.cell? ⟨b, i * 2 + 1, none⟩ = some (.string f.v) ∧ wr.frozen? ⟨b, i * 2 + 1, none⟩ = false ∧ Hid ((wr.setCell ⟨b, i * 2 + 1, none⟩ (.string v)).ownsRow B fdT 2 (.slice a n c) n ((L.set i ⟨f.n, v⟩).flatMap fdC)) := by
  obtain ⟨f, hf⟩ : ∃ f, L[i]? = some f := ⟨L[i]'(by omega), List.getElem?_eq_getElem _⟩
  obtain ⟨b, rfl⟩ : ∃ b, a = some ⟨b, 0, none⟩ := by
    rcases ho.2 with ⟨h5, h6⟩ | ⟨g', cap', cur, h5, _⟩
    · omega
    · obtain ⟨h6, _, _⟩ := Value.slice.inj h5
      exact ⟨g', h6⟩
  have a0 := ho.cells (g := b) rfl (i * 2) (.string f.n) (by have := flat2_get L i f hf 0 (by omega); simpa [fdC] using this)
  have a1 := ho.cells (g := b) rfl (i * 2 + 1) (.string f.v) (by have := flat2_get L i f hf 1 (by omega); simpa [fdC] using this)
  rw [addr_add, Nat.zero_add] at a0 a1
  refine ⟨b, f, rfl, (ho.lt b rfl).1, a0, a1, ?_, Lib.hid ?_⟩
  · rcases ho.2 with ⟨h5, _⟩ | ⟨g', cap', cur, h5, _, h6, _⟩
    · cases h5
    · obtain ⟨e1, _, _⟩ := Value.slice.inj h5
      have e2 : b = g' := by simpa using e1
      subst e2
      exact frozen_of_row wr b _ cur _ h6
  · have hfs : (L.set i ⟨f.n, v⟩).flatMap fdC = (L.flatMap fdC).set (i * 2 + 1) (.string v) := by
      rw [flat_set]
      congr 1
      have := flat2_get L i f hf 0 (by omega)
      obtain ⟨h1, h2⟩ := List.getElem?_eq_some_iff.1 (by simpa [fdC] using this : (L.flatMap fdC)[i * 2]? = some (.string f.n))
      rw [← h2]
      exact List.set_getElem_self h1
    rw [hfs]
    exact owns_set ho (g := b) rfl (i * 2 + 1) (.string v) (by omega)
set_option maxRecDepth 100000 in
set_option maxHeartbeats 8000000 in
theorem headSets_any (v : Value) (q : List Fd) (f : Fd) (w : World) (hv : ReadsF w v q) (hm : MaxAt w) : Calls Tryd.prog 5 #[v, fdV f] w (TrueP w) := by
  have HW := Lib.hid (fun W (h : MaxAt W) => works_any W h)
  have HV := Lib.hid hv
  have HA : Hid (Below w.heap.size w (w.alloc (boxF rfT f))) := Lib.hid ((Below.refl _ _).alloc (Nat.le_refl _) _)
  have HNB := Lib.hid (new_boxF w rfT f)
  have HZ : Hid (w.heap.size < (w.alloc (boxF rfT f)).heap.size) := Lib.hid (by simp)
  obtain ⟨c0, c1⟩ := two HNB.out
  have HM := Lib.hid hm
  have HW0 := Lib.hid (HW.out _ (hm.below HA.out))
  have HLI := Lib.hid (light_any v q (w.alloc (boxF rfT f)) (hv.below HA.out))
  clear hv hm
  cases hl : lightB q
  · rw [hl] at HLI
    clear hl
    go_enter Tryd.func5, Tryd.ntmps5
    go_wp2_with fail
    refine HLI.out.mono ?_
    rintro e w1 ⟨rfl, rfl⟩
    go_wp2_with fail
    refine HW0.out.mono ?_
    rintro e w1 ⟨rfl, hb⟩
    have HB := Lib.hid (HA.out.trans (hb.mono HA.out.size))
    clear hb
    go_wp2_with fail
    go_ret
    exact ⟨rfl, HB.out⟩
  · obtain ⟨hq, hsz⟩ := light_iff hl
    rw [hl] at HLI
    clear hl
    by_cases hs1 : 200 < f.n.size
    · have d1 : (200 : Int) < (f.n.size : Int) := by omega
      go_enter Tryd.func5, Tryd.ntmps5
      go_wp2_with fail
      refine HLI.out.mono ?_
      rintro e w1 ⟨rfl, rfl⟩
      go_wp2_with fail
      refine HW0.out.mono ?_
      rintro e w1 ⟨rfl, hb⟩
      have HB := Lib.hid (HA.out.trans (hb.mono HA.out.size))
      clear hb
      go_wp2_with fail
      go_ret
      exact ⟨rfl, HB.out⟩
    · have d1 : ¬ (200 : Int) < (f.n.size : Int) := by omega
      by_cases hs2 : 3000 < f.v.size
      · have d2 : (3000 : Int) < (f.v.size : Int) := by omega
        go_enter Tryd.func5, Tryd.ntmps5
        go_wp2_with fail
        refine HLI.out.mono ?_
        rintro e w1 ⟨rfl, rfl⟩
        go_wp2_with fail
        refine HW0.out.mono ?_
        rintro e w1 ⟨rfl, hb⟩
        have HB := Lib.hid (HA.out.trans (hb.mono HA.out.size))
        clear hb
        go_wp2_with fail
        go_ret
        exact ⟨rfl, HB.out⟩
      · have d2 : ¬ (3000 : Int) < (f.v.size : Int) := by omega
        clear HW0
        have hnz : f.n.size ≤ 1000000 := by omega
        have hsn : ∀ x ∈ q, x.n.size ≤ 1000000 := fun x hx => by have := hsz x hx; omega
        have HTO := Lib.hid (to_any v q (w.alloc (boxF rfT f)) (HV.out.below HA.out) (by omega))
        have HGT := Lib.hid (fun u W (h : ReadsF W u q) => get_any u q f.n W h (by omega) hsn hnz)
        have HRG := Lib.hid (fun u W (h : ReadsF W u q) => rget_any u q f.n W h (by omega) hsn hnz)
        have HPU := Lib.hid (fun u W (h : ReadsF W u q) => put_any u q f W h (by omega) hsn hnz)
        have HLE := Lib.hid (fun u W (h : ReadsF W u q) => without_any u q f.n W h (by omega) hsn hnz)
        have HAL := Lib.hid (fun u W (h : ReadsF W u q) => all_any u q f.n W h (by omega) hsn hnz)
        have HRA := Lib.hid (fun u W (h : ReadsF W u q) => rall_any u q f.n W h (by omega) hsn hnz)
        have HRP := Lib.hid (fun u W (h : ReadsF W u q) => rput_any u q f W h (by omega) hsn hnz)
        have HRL := Lib.hid (fun u W (h : ReadsF W u q) => rless_any u q f.n W h (by omega) hsn hnz)
        generalize foldL (bl f.n) = p at *
        have hml := all_le p q
        have hpl : (putL p f q).length ≤ q.length + 1 := by
          have := putK_len p f q
          have e := putK_end p f q
          split at e
          · rw [e]; exact this
          · rename_i hna
            rw [e]
            unfold putK
            rw [if_neg hna, List.length_append]
            simp
        have hll := less_le p q
        have HST := Lib.hid (fun u v W (h1 : ReadsS W u (allL p q)) (h2 : ReadsS W v (allL p q)) => texts_any u v (allL p q) W h1 h2 (by omega))
        have HS1 := Lib.hid (fun u v W (h1 : ReadsF W u (putL p f q)) (h2 : ReadsF W v (putL p f q)) => same_any u v (putL p f q) W h1 h2 (by omega))
        have HS2 := Lib.hid (fun u v W (h1 : ReadsF W u (lessL p q)) (h2 : ReadsF W v (lessL p q)) => same_any u v (lessL p q) W h1 h2 (by omega))
        have HS3 := Lib.hid (fun u v W (h1 : ReadsF W u q) (h2 : ReadsF W v q) => same_any u v q W h1 h2 (by omega))
        have hpl40 : (putL p f q).length ≤ 40 := by omega
        have hll40 : (lessL p q).length ≤ 40 := by omega
        generalize getL p q = gv at *
        generalize q.any (nmB p) = gb at *
        generalize allL p q = T at *
        generalize putL p f q = PL at *
        generalize lessL p q = LL at *
        clear hml hpl hll hsn hsz hq hnz
        go_enter Tryd.func5, Tryd.ntmps5
        go_wp2_with fail
        refine HLI.out.mono ?_
        rintro e w1 ⟨rfl, rfl⟩
        go_wp2_with fail
        refine HTO.out.mono ?_
        rintro e w2 ⟨al, rfl, hf⟩
        have HAL2 := Lib.hid (owns_readsF hf.1)
        have HB2 := Lib.hid hf.2
        have HCE : Hid (∀ W, Below w2.heap.size w2 W → W.cell? ⟨w.heap.size, 0, none⟩ = some (.string f.n) ∧ W.cell? ⟨w.heap.size, 0 + 1, none⟩ = some (.string f.v)) := Lib.hid (fun W hb => two (range_below HNB.out HZ.out (HB2.out.trans (hb.mono HB2.out.size))))
        have HG2 := Lib.hid (HGT.out al w2 HAL2.out)
        clear hf c0 c1
        obtain ⟨c0, c1⟩ := HCE.out w2 (Below.refl _ _)
        go_wp2_with fail
        refine HG2.out.mono ?_
        rintro e w3 ⟨rfl, hb⟩
        have HB3 := Lib.hid hb
        have HG3 := Lib.hid (HRG.out v w3 (HV.out.below (HA.out.trans ((HB2.out.trans (hb.mono HB2.out.size)).mono HA.out.size))))
        clear hb c0 c1
        obtain ⟨c0, c1⟩ := HCE.out w3 HB3.out
        go_wp2_with fail
        refine HG3.out.mono ?_
        rintro e w4 ⟨rfl, hb⟩
        have HB4 := Lib.hid (HB3.out.trans (hb.mono HB3.out.size))
        have HP4 := Lib.hid (HPU.out al w4 (HAL2.out.below HB4.out))
        clear hb c0 c1
        obtain ⟨c0, c1⟩ := HCE.out w4 HB4.out
        go_wp2_with fail
        refine HP4.out.mono ?_
        rintro e w5 ⟨pv, rfl, hf⟩
        have HF5 := Lib.hid hf
        have HB5 := Lib.hid (HB4.out.trans (hf.2.mono HB4.out.size))
        have HL5 := Lib.hid (HLE.out al w5 (HAL2.out.below HB5.out))
        clear hf c0 c1
        obtain ⟨c0, c1⟩ := HCE.out w5 HB5.out
        go_wp2_with fail
        refine HL5.out.mono ?_
        rintro e w6 ⟨lv, rfl, hf⟩
        have HF6 := Lib.hid hf
        have HB6 := Lib.hid (HB5.out.trans (hf.2.mono HB5.out.size))
        have HP6 : Hid (FdsAt w4 w6 pv PL) := Lib.hid (HF5.out.on hf.2)
        clear hf c0 c1
        obtain ⟨c0, c1⟩ := HCE.out w6 HB6.out
        have HQV : Hid (∀ W, Below w6.heap.size w6 W → ReadsF W v q ∧ ReadsF W al q ∧ ReadsF W pv PL ∧ ReadsF W lv LL ∧ W.cell? ⟨w.heap.size, 0, none⟩ = some (.string f.n) ∧ W.cell? ⟨w.heap.size, 0 + 1, none⟩ = some (.string f.v)) := Lib.hid (fun W hb => by
          have hb2 : Below w2.heap.size w2 W := HB6.out.trans (hb.mono HB6.out.size)
          exact ⟨HV.out.below (HA.out.trans ((HB2.out.trans (hb2.mono HB2.out.size)).mono HA.out.size)), HAL2.out.below hb2, (owns_readsF HP6.out.1).below hb, (owns_readsF HF6.out.1).below hb, HCE.out W hb2⟩)
        obtain ⟨pa, pc, rfl⟩ := owns_slice HP6.out.1
        obtain ⟨la, lc, rfl⟩ := owns_slice HF6.out.1
        obtain ⟨np, hnp⟩ : ∃ n, n = PL.length := ⟨_, rfl⟩
        obtain ⟨nl, hnl⟩ : ∃ n, n = LL.length := ⟨_, rfl⟩
        rw [← hnp] at HP6 HQV hpl40 ⊢
        rw [← hnl] at HF6 HQV hll40 ⊢
        have HNP := Lib.hid (And.intro hnp hnl)
        clear hnp hnl
        have HA1 : Hid (∀ W, Below w6.heap.size w6 W → Calls Tryd.prog 20 #[al, .string f.n] W fun e w' => ∃ u, e = .returned u ∧ w'.cell? ⟨w.heap.size, 0, none⟩ = some (.string f.n) ∧ w'.cell? ⟨w.heap.size, 0 + 1, none⟩ = some (.string f.v) ∧ Below w6.heap.size w6 w' ∧ Below W.heap.size W w' ∧ Hid (∀ W', Below w'.heap.size w' W' → ReadsS W' u T)) := Lib.hid (fun W hb => by
          refine (HAL.out al W (HQV.out W hb).2.1).mono ?_
          rintro e w' ⟨u, rfl, ht⟩
          have hb' : Below w6.heap.size w6 w' := hb.trans (ht.2.mono hb.size)
          exact ⟨u, rfl, (HQV.out w' hb').2.2.2.2.1, (HQV.out w' hb').2.2.2.2.2, hb', ht.2, Lib.hid (fun W' h => (owns_readsS ht.1).below h)⟩)
        have HA2 : Hid (∀ W, Below w6.heap.size w6 W → Calls Tryd.prog 21 #[v, .string f.n] W fun e w' => ∃ u, e = .returned u ∧ w'.cell? ⟨w.heap.size, 0, none⟩ = some (.string f.n) ∧ w'.cell? ⟨w.heap.size, 0 + 1, none⟩ = some (.string f.v) ∧ Below w6.heap.size w6 w' ∧ Below W.heap.size W w' ∧ Hid (∀ W', Below w'.heap.size w' W' → ReadsS W' u T)) := Lib.hid (fun W hb => by
          refine (HRA.out v W (HQV.out W hb).1).mono ?_
          rintro e w' ⟨u, rfl, ht⟩
          have hb' : Below w6.heap.size w6 w' := hb.trans (ht.2.mono hb.size)
          exact ⟨u, rfl, (HQV.out w' hb').2.2.2.2.1, (HQV.out w' hb').2.2.2.2.2, hb', ht.2, Lib.hid (fun W' h => (owns_readsS ht.1).below h)⟩)
        have HA3 : Hid (∀ u u' W, Below w6.heap.size w6 W → ReadsS W u T → ReadsS W u' T → Calls Tryd.prog 19 #[u, u'] W fun e w' => e = .returned (.bool true) ∧ w'.cell? ⟨w.heap.size, 0, none⟩ = some (.string f.n) ∧ w'.cell? ⟨w.heap.size, 0 + 1, none⟩ = some (.string f.v) ∧ Below w6.heap.size w6 w' ∧ Below W.heap.size W w') := Lib.hid (fun u u' W hb h1 h2 => by
          refine (HST.out u u' W h1 h2).mono ?_
          rintro e w' ⟨rfl, ht⟩
          have hb' : Below w6.heap.size w6 w' := hb.trans (ht.mono hb.size)
          exact ⟨rfl, (HQV.out w' hb').2.2.2.2.1, (HQV.out w' hb').2.2.2.2.2, hb', ht⟩)
        have HA4 : Hid (∀ W, Below w6.heap.size w6 W → Calls Tryd.prog 22 #[v, fdV f] W fun e w' => ∃ u, e = .returned u ∧ w'.cell? ⟨w.heap.size, 0, none⟩ = some (.string f.n) ∧ w'.cell? ⟨w.heap.size, 0 + 1, none⟩ = some (.string f.v) ∧ Below w6.heap.size w6 w' ∧ Below W.heap.size W w' ∧ Hid (∀ W', Below w'.heap.size w' W' → ReadsF W' u PL)) := Lib.hid (fun W hb => by
          refine (HRP.out v W (HQV.out W hb).1).mono ?_
          rintro e w' ⟨u, rfl, ht⟩
          have hb' : Below w6.heap.size w6 w' := hb.trans (ht.2.mono hb.size)
          exact ⟨u, rfl, (HQV.out w' hb').2.2.2.2.1, (HQV.out w' hb').2.2.2.2.2, hb', ht.2, Lib.hid (fun W' h => (owns_readsF ht.1).below h)⟩)
        have HA5 : Hid (∀ W, Below w6.heap.size w6 W → Calls Tryd.prog 23 #[v, .string f.n] W fun e w' => ∃ u, e = .returned u ∧ w'.cell? ⟨w.heap.size, 0, none⟩ = some (.string f.n) ∧ w'.cell? ⟨w.heap.size, 0 + 1, none⟩ = some (.string f.v) ∧ Below w6.heap.size w6 w' ∧ Below W.heap.size W w' ∧ Hid (∀ W', Below w'.heap.size w' W' → ReadsF W' u LL)) := Lib.hid (fun W hb => by
          refine (HRL.out v W (HQV.out W hb).1).mono ?_
          rintro e w' ⟨u, rfl, ht⟩
          have hb' : Below w6.heap.size w6 w' := hb.trans (ht.2.mono hb.size)
          exact ⟨u, rfl, (HQV.out w' hb').2.2.2.2.1, (HQV.out w' hb').2.2.2.2.2, hb', ht.2, Lib.hid (fun W' h => (owns_readsF ht.1).below h)⟩)
        have HA6 : Hid (∀ u W, Below w6.heap.size w6 W → ReadsF W u PL → Calls Tryd.prog 12 #[.slice pa np pc, u] W fun e w' => e = .returned (.bool true) ∧ w'.cell? ⟨w.heap.size, 0, none⟩ = some (.string f.n) ∧ w'.cell? ⟨w.heap.size, 0 + 1, none⟩ = some (.string f.v) ∧ Below w6.heap.size w6 w' ∧ Below W.heap.size W w') := Lib.hid (fun u W hb h => by
          refine (HS1.out _ u W (HQV.out W hb).2.2.1 h).mono ?_
          rintro e w' ⟨rfl, ht⟩
          have hb' : Below w6.heap.size w6 w' := hb.trans (ht.mono hb.size)
          exact ⟨rfl, (HQV.out w' hb').2.2.2.2.1, (HQV.out w' hb').2.2.2.2.2, hb', ht⟩)
        have HA7 : Hid (∀ u W, Below w6.heap.size w6 W → ReadsF W u LL → Calls Tryd.prog 12 #[.slice la nl lc, u] W fun e w' => e = .returned (.bool true) ∧ w'.cell? ⟨w.heap.size, 0, none⟩ = some (.string f.n) ∧ w'.cell? ⟨w.heap.size, 0 + 1, none⟩ = some (.string f.v) ∧ Below w6.heap.size w6 w' ∧ Below W.heap.size W w') := Lib.hid (fun u W hb h => by
          refine (HS2.out _ u W (HQV.out W hb).2.2.2.1 h).mono ?_
          rintro e w' ⟨rfl, ht⟩
          have hb' : Below w6.heap.size w6 w' := hb.trans (ht.mono hb.size)
          exact ⟨rfl, (HQV.out w' hb').2.2.2.2.1, (HQV.out w' hb').2.2.2.2.2, hb', ht⟩)
        go_wp2_with fail
        go_region_held (fun W => W.cell? ⟨w.heap.size, 0, none⟩ = some (.string f.n) ∧ W.cell? ⟨w.heap.size, 0 + 1, none⟩ = some (.string f.v)) (first | go_keep | (all_goals assumption)) ((first
          | (go_at_call 20; with_reducible refine (HA1.out _ (by (repeat (first | assumption | exact Below.refl _ _ | with_reducible refine bel_drew ?_)))).mono ?_; rintro e wa ⟨ua, rfl, sa0, sa1, ba6, baW, hua⟩)
          | (go_at_call 21; with_reducible refine (HA2.out _ (by (repeat (first | assumption | exact Below.refl _ _ | with_reducible refine bel_drew ?_)))).mono ?_; rintro e wb ⟨ub, rfl, sb0, sb1, bb6, bbW, hub⟩)
          | (go_at_call 19; with_reducible refine (HA3.out _ _ _ (by (repeat (first | assumption | exact Below.refl _ _ | with_reducible refine bel_drew ?_))) (hua.out _ (by first | exact Below.refl _ _ | assumption)) (hub.out _ (by first | exact Below.refl _ _ | assumption))).mono ?_; rintro e wc ⟨rfl, sc0, sc1, bc6, bcW⟩)
          | (go_at_call 22; with_reducible refine (HA4.out _ (by (repeat (first | assumption | exact Below.refl _ _ | with_reducible refine bel_drew ?_)))).mono ?_; rintro e wd ⟨ud, rfl, sd0, sd1, bd6, bdW, hud⟩)
          | (go_at_call 23; with_reducible refine (HA5.out _ (by (repeat (first | assumption | exact Below.refl _ _ | with_reducible refine bel_drew ?_)))).mono ?_; rintro e we ⟨ue, rfl, se0, se1, be6, beW, hue⟩)
          | (go_at_call 12; (first | (with_reducible refine (HA6.out _ _ (by (repeat (first | assumption | exact Below.refl _ _ | with_reducible refine bel_drew ?_))) (hud.out _ (by first | exact Below.refl _ _ | assumption))).mono ?_) | (with_reducible refine (HA7.out _ _ (by (repeat (first | assumption | exact Below.refl _ _ | with_reducible refine bel_drew ?_))) (hue.out _ (by first | exact Below.refl _ _ | assumption))).mono ?_)); rintro e wf ⟨rfl, sf0, sf1, bf6, bfW⟩)))
        have HPF : Hid (wf.ownsRow w4.heap.size fdT 2 (.slice pa np pc) np (PL.flatMap fdC) ∧ wf.ownsRow w5.heap.size fdT 2 (.slice la nl lc) nl (LL.flatMap fdC) ∧ Below w4.heap.size w4 wf) := Lib.hid (by
          have h1 := HP6.out.on bf6
          have h2 := HF6.out.on bf6
          have h3 := h1.1
          have h4 := h2.1
          rw [← HNP.out.1] at h3
          rw [← HNP.out.2] at h4
          exact ⟨h3, h4, h1.2⟩)
        have HBK : Hid (∀ b o, pa = some ⟨b, o, none⟩ → b < w5.heap.size) := Lib.hid (by
          rintro b o rfl
          have h5 := HF5.out.1
          rcases h5.2 with ⟨h6, _⟩ | ⟨g', cap', cur, h6, _, h7, _⟩
          · cases h6
          · obtain ⟨e1, _, _⟩ := Value.slice.inj h6
            have e2 : b = g' := (Addr.mk.inj (Option.some.inj e1)).1
            subst e2
            exact (Array.getElem?_eq_some_iff.1 h7).1)
        clear sa0 sa1 sb0 sb1 sc0 sc1 sd0 sd1 se0 se1 sf0 sf1 ba6 baW bb6 bbW bc6 bcW bd6 bdW be6 beW bf6 bfW c0 c1
        go_wp2_with fail
        go_loopw [96] (fun i wr => ∃ (k : Nat) (L' : List Fd), k ≤ np ∧ i = .int .i64 k ∧ L'.length = np ∧ Hid (wr.ownsRow w4.heap.size fdT 2 (.slice pa np pc) np (L'.flatMap fdC) ∧ wr.ownsRow w5.heap.size fdT 2 (.slice la nl lc) nl (LL.flatMap fdC) ∧ Below w4.heap.size w4 wr)) (fun i _ => np - (intOf i).toNat)
        case atStart => exact ⟨0, PL, Nat.zero_le _, rfl, HNP.out.1.symm, HPF⟩
        case round =>
          clear HPF
          obtain ⟨k, L', hk, rfl, hL', hR⟩ := hrel
          by_cases hlt : k < np
          · obtain ⟨b, f0, rfl, hBb, e0, e1, e2, hset⟩ := own_setv hR.out.1 hL' k hlt ⟨#[115, 112, 111, 105, 108, 116]⟩
            have hb5 := HBK.out b 0 rfl
            have HN : Hid ((wr.setCell ⟨b, k * 2 + 1, none⟩ (.string ⟨#[115, 112, 111, 105, 108, 116]⟩)).ownsRow w4.heap.size fdT 2 (.slice (some ⟨b, 0, none⟩) np pc) np ((L'.set k ⟨f0.n, ⟨#[115, 112, 111, 105, 108, 116]⟩⟩).flatMap fdC) ∧ (wr.setCell ⟨b, k * 2 + 1, none⟩ (.string ⟨#[115, 112, 111, 105, 108, 116]⟩)).ownsRow w5.heap.size fdT 2 (.slice la nl lc) nl (LL.flatMap fdC) ∧ Below w4.heap.size w4 (wr.setCell ⟨b, k * 2 + 1, none⟩ (.string ⟨#[115, 112, 111, 105, 108, 116]⟩))) := Lib.hid ⟨hset.out, owns_put hR.out.2.1 (fun e => by
              have := (hR.out.2.1.lt b e).1
              omega), hR.out.2.2.setCell (p := ⟨b, k * 2 + 1, none⟩) hBb _⟩
            clear hset
            go_wp2_with fail
            go_roundw
            case rel => exact ⟨k + 1, _, by omega, by simp, by rw [List.length_set]; exact hL', HN⟩
            case measure => simp [intOf]; omega
          · have HS2' : Hid (wr.ownsRow w5.heap.size fdT 2 (.slice la nl lc) nl (LL.flatMap fdC) ∧ Below w4.heap.size w4 wr) := Lib.hid hR.out.2
            have hw45 : Hid (w4.heap.size ≤ w5.heap.size) := Lib.hid HF5.out.2.size
            go_wp2_with fail
            go_loopw [106] (fun i wr => ∃ (k : Nat) (L' : List Fd), k ≤ nl ∧ i = .int .i64 k ∧ L'.length = nl ∧ Hid (wr.ownsRow w5.heap.size fdT 2 (.slice la nl lc) nl (L'.flatMap fdC) ∧ Below w4.heap.size w4 wr)) (fun i _ => nl - (intOf i).toNat)
            case atStart => exact ⟨0, LL, Nat.zero_le _, rfl, HNP.out.2.symm, HS2'⟩
            case round =>
              clear HS2'
              obtain ⟨j, L2, hj, rfl, hL2, hR2⟩ := hrel
              by_cases hlt2 : j < nl
              · obtain ⟨b, f0, rfl, hBb, e0, e1, e2, hset⟩ := own_setv hR2.out.1 hL2 j hlt2 ⟨#[115, 112, 111, 105, 108, 116]⟩
                have HN : Hid ((wr.setCell ⟨b, j * 2 + 1, none⟩ (.string ⟨#[115, 112, 111, 105, 108, 116]⟩)).ownsRow w5.heap.size fdT 2 (.slice (some ⟨b, 0, none⟩) nl lc) nl ((L2.set j ⟨f0.n, ⟨#[115, 112, 111, 105, 108, 116]⟩⟩).flatMap fdC) ∧ Below w4.heap.size w4 (wr.setCell ⟨b, j * 2 + 1, none⟩ (.string ⟨#[115, 112, 111, 105, 108, 116]⟩))) := Lib.hid ⟨hset.out, hR2.out.2.setCell (p := ⟨b, j * 2 + 1, none⟩) (by have := hw45.out; show w4.heap.size ≤ b; omega) _⟩
                clear hset
                go_wp2_with fail
                go_roundw
                case rel => exact ⟨j + 1, _, by omega, by simp, by rw [List.length_set]; exact hL2, HN⟩
                case measure => simp [intOf]; omega
              · have HBW : Hid (Below w2.heap.size w2 wr) := Lib.hid (HB4.out.trans (hR2.out.2.mono HB4.out.size))
                have HBWw : Hid (Below w.heap.size w wr) := Lib.hid (HA.out.trans ((HB2.out.trans (HBW.out.mono HB2.out.size)).mono HA.out.size))
                have HS := Lib.hid (HS3.out al v wr (HAL2.out.below HBW.out) (HV.out.below HBWw.out))
                go_wp2_with fail
                refine HS.out.mono ?_
                rintro e w8 ⟨rfl, hb⟩
                have HB8 := Lib.hid (HBWw.out.trans (hb.mono HBWw.out.size))
                have HW8 := Lib.hid (HW.out w8 (HM.out.below HB8.out))
                clear hb
                go_wp2_with fail
                refine HW8.out.mono ?_
                rintro e w9 ⟨rfl, hb⟩
                have HB9 := Lib.hid (HB8.out.trans (hb.mono HB8.out.size))
                clear hb
                go_wp2_with fail
                go_ret
                exact ⟨rfl, HB9.out⟩
end Go.Proofs.YtpklmlhioklpoaaDoor.Head
