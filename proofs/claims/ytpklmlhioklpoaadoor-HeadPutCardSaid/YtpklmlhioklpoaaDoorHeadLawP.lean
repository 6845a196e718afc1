/-
  HeadPut: one of its name.
-/
import Derived.Test.YtpklmlhioklpoaaDoorHeadLawA
import Derived.Test.YtpklmlhioklpoaaDoorHeadRefS
import Derived.Test.YtpklmlhioklpoaaDoorHeadPut
import Derived.Deep.RegionHeld
namespace Go.Proofs.YtpklmlhioklpoaaDoor.Head
open Go Go.RowKit
open Go.Proofs.YtpklmlhioklpoaaDoor.Glyph (foldL)
open Go.Proofs.YtpklmlhioklpoaaDoor.Sha (Kept wp_region_kept wp_region_kept_tail quiet_load_row)

theorem all_less (p : List UInt8) (q : List Fd) : allL p (lessL p q) = [] := by
  unfold allL lessL
  rw [List.filter_filter]
  have h : (fun a => nmB p a && !nmB p a) = fun _ => false := by funext a; cases nmB p a <;> rfl
  rw [h]
  simp
theorem nmB_other {p p' : List UInt8} (h : p' ≠ p) {f : Fd} (hf : nmB p f = true) : nmB p' f = false := by
  unfold nmB at *
  have := of_decide_eq_true hf
  exact decide_eq_false (fun e => h (e.symm.trans this))
theorem all_less_other {p p' : List UInt8} (h : p' ≠ p) (q : List Fd) : allL p' (lessL p q) = allL p' q := by
  unfold allL lessL
  rw [List.filter_filter]
  congr 1
  apply List.filter_congr
  intro a _
  cases ha : nmB p a
  · simp
  · rw [nmB_other h ha]; rfl
theorem any_false_filter {p : Fd → Bool} {q : List Fd} (h : q.any p = false) : q.filter p = [] := by
  rw [List.filter_eq_nil_iff]
  intro a ha hp
  have := List.any_eq_false.1 h a ha
  exact this hp
theorem take_any (p : Fd → Bool) : ∀ (q : List Fd), (q.take (q.findIdx p)).any p = false
  | [] => rfl
  | x :: t => by
    rw [List.findIdx_cons]
    cases hx : p x
    · simp [hx, take_any p t]
    · simp
theorem all_put {p : List UInt8} {f : Fd} (hf : nmB p f = true) (q : List Fd) : allL p (putL p f q) = [f.v] := by
  unfold putL
  cases ha : q.any (nmB p)
  · rw [if_neg (by decide)]
    unfold allL
    rw [List.filter_append, any_false_filter ha]
    simp [hf]
  · rw [if_pos rfl]
    have h1 := all_less p (q.drop (q.findIdx (nmB p) + 1))
    unfold allL at *
    rw [List.filter_append, any_false_filter (take_any (nmB p) q), List.filter_cons, if_pos hf, List.nil_append, List.map_cons, h1]
theorem all_put_other {p p' : List UInt8} (h : p' ≠ p) {f : Fd} (hf : nmB p f = true) (q : List Fd) : allL p' (putL p f q) = allL p' q := by
  have hf' := nmB_other h hf
  unfold putL
  cases ha : q.any (nmB p)
  · rw [if_neg (by decide), allL_snoc, hf', if_neg (by decide)]
  · rw [if_pos rfl]
    obtain ⟨x, hx, _⟩ := idx_get ha
    have hpx : nmB p x = true := by
      have hlt := (List.getElem?_eq_some_iff.1 hx).1
      have := List.findIdx_getElem (w := hlt)
      rw [(List.getElem?_eq_some_iff.1 hx).2] at this
      exact this
    have hx' := nmB_other h hpx
    have h1 := all_less_other h (q.drop (q.findIdx (nmB p) + 1))
    have e : q = q.take (q.findIdx (nmB p)) ++ (x :: q.drop (q.findIdx (nmB p) + 1)) := by
      have hlt := (List.getElem?_eq_some_iff.1 hx).1
      have h2 := (List.getElem?_eq_some_iff.1 hx).2
      rw [← h2, List.getElem_cons_drop, List.take_append_drop]
    conv => rhs; rw [e]
    unfold allL at *
    rw [List.filter_append, List.filter_append, List.filter_cons, List.filter_cons, hf', hx', List.map_append, List.map_append]
    simp only [Bool.false_eq_true, if_false]
    rw [h1]
theorem mem_put {p : List UInt8} {f : Fd} {q : List Fd} {x : Fd} (h : x ∈ putL p f q) : x ∈ q ∨ x = f := by
  unfold putL at h
  split at h
  · rcases List.mem_append.1 h with h | h
    · exact .inl (List.mem_of_mem_take h)
    · rcases List.mem_cons.1 h with h | h
      · exact .inr h
      · exact .inl (List.mem_of_mem_drop (List.mem_filter.1 h).1)
  · rcases List.mem_append.1 h with h | h
    · exact .inl h
    · exact .inr (by simpa using h)
theorem put_le (p : List UInt8) (f : Fd) (q : List Fd) : (putL p f q).length ≤ q.length + 1 := by
  have := putK_len p f q
  have e := putK_end p f q
  split at e
  · rw [e]; exact this
  · rename_i hna
    rw [e]
    unfold putK
    rw [if_neg hna, List.length_append]
    simp
theorem shapeS {w : World} {u : Value} {B : List ByteArray} (hu : ReadsS w u B) {n : Nat} (hn : n = B.length) : ∃ a c, u = .slice a n c ∧ ∀ i x, B[i]? = some x → ∃ b, a = some ⟨b, 0, none⟩ ∧ b < w.heap.size ∧ w.cell? ⟨b, i, none⟩ = some (.string x) := by
  rcases hu with ⟨a, c, rfl, h⟩ | ⟨b, c, rfl, _, _, h1, h2⟩
  · refine ⟨a, c, by rw [hn, h]; rfl, fun i x hi => ?_⟩
    rw [h] at hi; simp at hi
  · exact ⟨_, c, by rw [hn], fun i x hi => ⟨b, rfl, h1, h2 i x hi⟩⟩
set_option maxRecDepth 100000 in
set_option maxHeartbeats 8000000 in
theorem headPut_any (v : Value) (q : List Fd) (f : Fd) (name : ByteArray) (w : World) (hv : ReadsF w v q) (hm : MaxAt w) : Calls Tryd.prog 8 #[v, fdV f, .string name] w (TrueP w) := by
  have HV := Lib.hid hv
  have HA : Hid (Below w.heap.size w (w.alloc (boxF rfT f))) := Lib.hid ((Below.refl _ _).alloc (Nat.le_refl _) _)
  have HNB := Lib.hid (new_boxF w rfT f)
  have HZ : Hid (w.heap.size < (w.alloc (boxF rfT f)).heap.size) := Lib.hid (by simp)
  have HW0 := Lib.hid (works_any _ (hm.below HA.out))
  have HCE : Hid (∀ W, Below (w.alloc (boxF rfT f)).heap.size (w.alloc (boxF rfT f)) W → W.cell? ⟨w.heap.size, 0, none⟩ = some (.string f.n) ∧ W.cell? ⟨w.heap.size, 0 + 1, none⟩ = some (.string f.v)) := Lib.hid (fun W hb => two (range_below HNB.out HZ.out hb))
  have HLI : Hid (∀ W, Below (w.alloc (boxF rfT f)).heap.size (w.alloc (boxF rfT f)) W → Calls Tryd.prog 13 #[v] W fun e w' => e = .returned (.bool (lightB q)) ∧ W = w') := Lib.hid (fun W hb => light_any v q W (hv.below (HA.out.trans (hb.mono HA.out.size))))
  clear hv hm
  cases hl : lightB q
  · rw [hl] at HLI
    clear hl
    go_enter Tryd.func8, Tryd.ntmps8
    go_wp2_with fail
    refine HW0.out.mono ?_
    rintro e w1 ⟨rfl, hb⟩
    have HB := Lib.hid (HA.out.trans (hb.mono HA.out.size))
    have HL1 := Lib.hid (HLI.out w1 hb)
    obtain ⟨c0, c1⟩ := HCE.out w1 hb
    clear hb
    go_wp2_with fail
    refine HL1.out.mono ?_
    rintro e w2 ⟨rfl, rfl⟩
    go_wp2_with fail
    go_ret
    exact ⟨rfl, HB.out⟩
  obtain ⟨hq, hsz⟩ := light_iff hl
  rw [hl] at HLI
  clear hl
  by_cases hs1 : 200 < f.n.size
  · have d1 : (200 : Int) < (f.n.size : Int) := by omega
    go_enter Tryd.func8, Tryd.ntmps8
    go_wp2_with fail
    refine HW0.out.mono ?_
    rintro e w1 ⟨rfl, hb⟩
    have HB := Lib.hid (HA.out.trans (hb.mono HA.out.size))
    have HL1 := Lib.hid (HLI.out w1 hb)
    obtain ⟨c0, c1⟩ := HCE.out w1 hb
    clear hb
    go_wp2_with fail
    refine HL1.out.mono ?_
    rintro e w2 ⟨rfl, rfl⟩
    go_wp2_with fail
    go_ret
    exact ⟨rfl, HB.out⟩
  have d1 : ¬ (200 : Int) < (f.n.size : Int) := by omega
  by_cases hs2 : 3000 < f.v.size
  · have d2 : (3000 : Int) < (f.v.size : Int) := by omega
    go_enter Tryd.func8, Tryd.ntmps8
    go_wp2_with fail
    refine HW0.out.mono ?_
    rintro e w1 ⟨rfl, hb⟩
    have HB := Lib.hid (HA.out.trans (hb.mono HA.out.size))
    have HL1 := Lib.hid (HLI.out w1 hb)
    obtain ⟨c0, c1⟩ := HCE.out w1 hb
    clear hb
    go_wp2_with fail
    refine HL1.out.mono ?_
    rintro e w2 ⟨rfl, rfl⟩
    go_wp2_with fail
    go_ret
    exact ⟨rfl, HB.out⟩
  have d2 : ¬ (3000 : Int) < (f.v.size : Int) := by omega
  by_cases hs3 : 200 < name.size
  · have d3 : (200 : Int) < (name.size : Int) := by omega
    go_enter Tryd.func8, Tryd.ntmps8
    go_wp2_with fail
    refine HW0.out.mono ?_
    rintro e w1 ⟨rfl, hb⟩
    have HB := Lib.hid (HA.out.trans (hb.mono HA.out.size))
    have HL1 := Lib.hid (HLI.out w1 hb)
    obtain ⟨c0, c1⟩ := HCE.out w1 hb
    clear hb
    go_wp2_with fail
    refine HL1.out.mono ?_
    rintro e w2 ⟨rfl, rfl⟩
    go_wp2_with fail
    go_ret
    exact ⟨rfl, HB.out⟩
  have d3 : ¬ (200 : Int) < (name.size : Int) := by omega
  have hnz : f.n.size ≤ 1000000 := by omega
  have hnn : name.size ≤ 1000000 := by omega
  have hsn : ∀ x ∈ q, x.n.size ≤ 1000000 := fun x hx => by have := hsz x hx; omega
  have hff : nmB (foldL (bl f.n)) f = true := by unfold nmB; exact decide_eq_true rfl
  have hpl := put_le (foldL (bl f.n)) f q
  have hll := less_le (foldL (bl f.n)) q
  have hsp : ∀ x ∈ putL (foldL (bl f.n)) f q, x.n.size ≤ 1000000 := fun x hx => by
    rcases mem_put hx with h | h
    · exact hsn x h
    · rw [h]; exact hnz
  have hsl : ∀ x ∈ lessL (foldL (bl f.n)) q, x.n.size ≤ 1000000 := fun x hx => hsn x (List.mem_filter.1 hx).1
  have HTO : Hid (∀ W, Below w.heap.size w W → Calls Tryd.prog 14 #[v] W fun e w' => ∃ u, e = .returned u ∧ FdsAt W w' u q) := Lib.hid (fun W hb => to_any v q W (HV.out.below hb) (by omega))
  have HPU := Lib.hid (fun u W (h : ReadsF W u q) => put_any u q f W h (by omega) hsn hnz)
  have HLE := Lib.hid (fun u W (h : ReadsF W u q) => without_any u q f.n W h (by omega) hsn hnz)
  have HON := Lib.hid (fun u W (h : ReadsF W u (putL (foldL (bl f.n)) f q)) => all_any u _ f.n W h (by omega) hsp hnz)
  have HNI := Lib.hid (fun u W (h : ReadsF W u (lessL (foldL (bl f.n)) q)) => all_any u _ f.n W h (by omega) hsl hnz)
  have HTA := Lib.hid (fun u W (h : ReadsF W u q) => all_any u q name W h (by omega) hsn hnn)
  have HTB := Lib.hid (fun u W (h : ReadsF W u (putL (foldL (bl f.n)) f q)) => all_any u _ name W h (by omega) hsp hnn)
  have HTC := Lib.hid (fun u W (h : ReadsF W u (lessL (foldL (bl f.n)) q)) => all_any u _ name W h (by omega) hsl hnn)
  have HSM := Lib.hid (fun W => rsame_any name f.n W hnn hnz)
  have HEQ : Hid (sameN name f.n = false → allL (foldL (bl name)) (putL (foldL (bl f.n)) f q) = allL (foldL (bl name)) q ∧ allL (foldL (bl name)) (lessL (foldL (bl f.n)) q) = allL (foldL (bl name)) q) := Lib.hid (fun h => by
    have hne : foldL (bl name) ≠ foldL (bl f.n) := of_decide_eq_false h
    exact ⟨all_put_other hne hff q, all_less_other hne q⟩)
  rw [all_put hff q] at HON
  rw [all_less] at HNI
  have hta : (allL (foldL (bl name)) q).length ≤ 40 := Nat.le_trans (all_le _ q) (by omega)
  generalize allL (foldL (bl name)) q = TA at *
  generalize allL (foldL (bl name)) (putL (foldL (bl f.n)) f q) = TB at *
  generalize allL (foldL (bl name)) (lessL (foldL (bl f.n)) q) = TC at *
  generalize sameN name f.n = sb at *
  generalize putL (foldL (bl f.n)) f q = PL at *
  generalize lessL (foldL (bl f.n)) q = LL at *
  clear hff hpl hll hsp hsl hsn hsz hq hnz hnn
  go_enter Tryd.func8, Tryd.ntmps8
  go_wp2_with fail
  refine HW0.out.mono ?_
  rintro e w1 ⟨rfl, hb⟩
  have HB1 := Lib.hid hb
  have HL1 := Lib.hid (HLI.out w1 hb)
  have HT1 := Lib.hid (HTO.out w1 (HA.out.trans (hb.mono HA.out.size)))
  obtain ⟨c0, c1⟩ := HCE.out w1 hb
  clear hb
  go_wp2_with fail
  refine HL1.out.mono ?_
  rintro e w2 ⟨rfl, rfl⟩
  go_wp2_with fail
  refine HT1.out.mono ?_
  rintro e w2 ⟨al, rfl, hf⟩
  have HAL := Lib.hid (owns_readsF hf.1)
  have HB2 := Lib.hid (HB1.out.trans (hf.2.mono HB1.out.size))
  have HQ : Hid (∀ W, Below w2.heap.size w2 W → W.cell? ⟨w.heap.size, 0, none⟩ = some (.string f.n) ∧ W.cell? ⟨w.heap.size, 0 + 1, none⟩ = some (.string f.v)) := Lib.hid (fun W hb => HCE.out W (HB2.out.trans (hb.mono HB2.out.size)))
  clear hf c0 c1
  obtain ⟨c0, c1⟩ := HQ.out w2 (Below.refl _ _)
  have HA1 : Hid (∀ W, Below w2.heap.size w2 W → Calls Tryd.prog 17 #[al, fdV f] W fun e w' => ∃ u, e = .returned u ∧ w'.cell? ⟨w.heap.size, 0, none⟩ = some (.string f.n) ∧ w'.cell? ⟨w.heap.size, 0 + 1, none⟩ = some (.string f.v) ∧ Below w2.heap.size w2 w' ∧ Below W.heap.size W w' ∧ Hid (∀ W', Below w'.heap.size w' W' → ReadsF W' u PL)) := Lib.hid (fun W hb => by
    refine (HPU.out al W (HAL.out.below hb)).mono ?_
    rintro e w' ⟨u, rfl, ht⟩
    have hb' : Below w2.heap.size w2 w' := hb.trans (ht.2.mono hb.size)
    exact ⟨u, rfl, (HQ.out w' hb').1, (HQ.out w' hb').2, hb', ht.2, Lib.hid (fun W' h => (owns_readsF ht.1).below h)⟩)
  have HA2 : Hid (∀ W, Below w2.heap.size w2 W → Calls Tryd.prog 18 #[al, .string f.n] W fun e w' => ∃ u, e = .returned u ∧ w'.cell? ⟨w.heap.size, 0, none⟩ = some (.string f.n) ∧ w'.cell? ⟨w.heap.size, 0 + 1, none⟩ = some (.string f.v) ∧ Below w2.heap.size w2 w' ∧ Below W.heap.size W w' ∧ Hid (∀ W', Below w'.heap.size w' W' → ReadsF W' u LL)) := Lib.hid (fun W hb => by
    refine (HLE.out al W (HAL.out.below hb)).mono ?_
    rintro e w' ⟨u, rfl, ht⟩
    have hb' : Below w2.heap.size w2 w' := hb.trans (ht.2.mono hb.size)
    exact ⟨u, rfl, (HQ.out w' hb').1, (HQ.out w' hb').2, hb', ht.2, Lib.hid (fun W' h => (owns_readsF ht.1).below h)⟩)
  go_wp2_with fail
  go_region_held (fun W => W.cell? ⟨w.heap.size, 0, none⟩ = some (.string f.n) ∧ W.cell? ⟨w.heap.size, 0 + 1, none⟩ = some (.string f.v)) (first | go_keep | (all_goals assumption)) ((first
    | (go_at_call 17; with_reducible refine (HA1.out _ (by (repeat (first | assumption | exact Below.refl _ _ | with_reducible refine bel_drew ?_)))).mono ?_; rintro e wa ⟨ua, rfl, sa0, sa1, ba2, baW, hua⟩)
    | (go_at_call 18; with_reducible refine (HA2.out _ (by (repeat (first | assumption | exact Below.refl _ _ | with_reducible refine bel_drew ?_)))).mono ?_; rintro e wb ⟨ub, rfl, sb0, sb1, bb2, bbW, hub⟩)))
  have HPV : Hid (∀ W, Below wb.heap.size wb W → ReadsF W ua PL ∧ ReadsF W ub LL ∧ ReadsF W al q ∧ W.cell? ⟨w.heap.size, 0, none⟩ = some (.string f.n) ∧ W.cell? ⟨w.heap.size, 0 + 1, none⟩ = some (.string f.v)) := Lib.hid (fun W hb => by
    have hb2 : Below w2.heap.size w2 W := bb2.trans (hb.mono bb2.size)
    have hba : Below wa.heap.size wa wb := by first | assumption | exact (Below.refl _ _).drew.trans (bbW.mono (by simp))
    exact ⟨hua.out _ (hba.trans (hb.mono hba.size)), hub.out _ hb, HAL.out.below hb2, HQ.out W hb2⟩)
  have HBB : Hid (Below w.heap.size w wb) := Lib.hid (HA.out.trans ((HB2.out.trans (bb2.mono HB2.out.size)).mono HA.out.size))
  have HO := Lib.hid (HON.out ua wb (HPV.out wb (Below.refl _ _)).1)
  clear sa0 sa1 sb0 sb1 ba2 baW bb2 bbW c0 c1
  obtain ⟨_, _, _, c0, c1⟩ := HPV.out wb (Below.refl _ _)
  go_wp2_with fail
  refine HO.out.mono ?_
  rintro e w5 ⟨u1, rfl, hf⟩
  obtain ⟨oa, oc, rfl, h1⟩ := shapeS (owns_readsS hf.1) (n := 1) rfl
  obtain ⟨ob, rfl, hob, r0⟩ := h1 0 f.v rfl
  have HB5 := Lib.hid hf.2
  have H5 := Lib.hid (HPV.out w5 hf.2)
  have HO5 : Hid (∀ W, Below w5.heap.size w5 W → W.cell? ⟨ob, 0, none⟩ = some (.string f.v)) := Lib.hid (fun W hb => by rw [hb.cell (p := ⟨ob, 0, none⟩) hob]; exact r0)
  clear hf h1 c0 c1 hob
  obtain ⟨_, _, _, c0, c1⟩ := H5.out
  have HA3 : Hid (∀ W, Below w5.heap.size w5 W → Calls Tryd.prog 20 #[ub, .string f.n] W fun e w' => ∃ a c, e = .returned (.slice a 0 c) ∧ w'.cell? ⟨w.heap.size, 0, none⟩ = some (.string f.n) ∧ w'.cell? ⟨w.heap.size, 0 + 1, none⟩ = some (.string f.v) ∧ w'.cell? ⟨ob, 0, none⟩ = some (.string f.v) ∧ Below w5.heap.size w5 w' ∧ Below W.heap.size W w') := Lib.hid (fun W hb => by
    have hbb : Below wb.heap.size wb W := HB5.out.trans (hb.mono HB5.out.size)
    refine (HNI.out ub W (HPV.out W hbb).2.1).mono ?_
    rintro e w' ⟨u, rfl, ht⟩
    obtain ⟨a, c, rfl, _⟩ := shapeS (owns_readsS ht.1) (n := 0) rfl
    have hb' : Below w5.heap.size w5 w' := hb.trans (ht.2.mono hb.size)
    have hbb' : Below wb.heap.size wb w' := HB5.out.trans (hb'.mono HB5.out.size)
    exact ⟨a, c, rfl, (HPV.out w' hbb').2.2.2.1, (HPV.out w' hbb').2.2.2.2, HO5.out w' hb', hb', ht.2⟩)
  go_wp2_with fail
  go_region_held (fun W => W.cell? ⟨w.heap.size, 0, none⟩ = some (.string f.n) ∧ W.cell? ⟨w.heap.size, 0 + 1, none⟩ = some (.string f.v) ∧ W.cell? ⟨ob, 0, none⟩ = some (.string f.v)) (first | go_keep | (all_goals assumption)) ((go_at_call 20; with_reducible refine (HA3.out _ (by (repeat (first | assumption | exact Below.refl _ _ | with_reducible refine bel_drew ?_)))).mono ?_; rintro e w6 ⟨na, nc, rfl, s0, s1, s2, b65, b6W⟩))
  have HB6 := Lib.hid (HB5.out.trans (b65.mono HB5.out.size))
  clear s0 s1 s2 b65 b6W c0 c1 r0
  obtain ⟨_, _, _, c0, c1⟩ := HPV.out w6 HB6.out
  have HS6 := Lib.hid (HSM.out w6)
  go_wp2_with fail
  refine HS6.out.mono ?_
  rintro e w7 ⟨rfl, hb⟩
  have HB7 := Lib.hid (HB6.out.trans (hb.mono HB6.out.size))
  have HBE := Lib.hid (HBB.out.trans (HB7.out.mono HBB.out.size))
  clear hb c0 c1
  obtain ⟨_, _, _, c0, c1⟩ := HPV.out w7 HB7.out
  cases sb
  · obtain ⟨e1, e2⟩ := HEQ.out rfl
    rw [e1] at HTB
    rw [e2] at HTC
    clear e1 e2 HEQ
    have HT7 := Lib.hid (HTA.out al w7 (HPV.out w7 HB7.out).2.2.1)
    obtain ⟨n, hn⟩ : ∃ n, n = TA.length := ⟨_, rfl⟩
    rw [← hn] at hta
    go_wp2_with fail
    refine HT7.out.mono ?_
    rintro e w8 ⟨u1, rfl, hf⟩
    have HB8 := Lib.hid (HB7.out.trans (hf.2.mono HB7.out.size))
    have HR8 := Lib.hid (owns_readsS hf.1)
    have HT8 := Lib.hid (HTB.out ua w8 (HPV.out w8 HB8.out).1)
    clear hf
    go_wp2_with fail
    refine HT8.out.mono ?_
    rintro e w9 ⟨u2, rfl, hf⟩
    have HB9 := Lib.hid (HB8.out.trans (hf.2.mono HB8.out.size))
    have HR9 := Lib.hid (owns_readsS hf.1)
    have HB89 := Lib.hid hf.2
    have HT9 := Lib.hid (HTC.out ub w9 (HPV.out w9 HB9.out).2.1)
    clear hf
    go_wp2_with fail
    refine HT9.out.mono ?_
    rintro e w10 ⟨u3, rfl, hf⟩
    have HB10 := Lib.hid (HBB.out.trans ((HB9.out.trans (hf.2.mono HB9.out.size)).mono HBB.out.size))
    obtain ⟨a1, k1, rfl, g1⟩ := shapeS (HR8.out.below (HB89.out.trans (hf.2.mono HB89.out.size))) hn
    obtain ⟨a2, k2, rfl, g2⟩ := shapeS (HR9.out.below hf.2) hn
    obtain ⟨a3, k3, rfl, g3⟩ := shapeS (owns_readsS hf.1) hn
    have HG1 := Lib.hid g1
    have HG2 := Lib.hid g2
    have HG3 := Lib.hid g3
    have HNN := Lib.hid hn
    clear hf g1 g2 g3 hn c0 c1
    go_wp2_with fail
    go_loopw [100] (fun i wr => ∃ k : Nat, k ≤ n ∧ i = .int .i64 k ∧ Hid (Below w10.heap.size w10 wr)) (fun i _ => n - (intOf i).toNat)
    case atStart => exact ⟨0, Nat.zero_le _, rfl, Lib.hid (Below.refl _ _)⟩
    case round =>
      obtain ⟨k, hk, rfl, hB⟩ := hrel
      by_cases hlt : k < n
      · obtain ⟨x, hx⟩ : ∃ a, TA[k]? = some a := ⟨TA[k]'(by have := HNN.out; omega), List.getElem?_eq_getElem _⟩
        obtain ⟨b1, rfl, hb1, r1⟩ := HG1.out k x hx
        obtain ⟨b2, rfl, hb2, r2⟩ := HG2.out k x hx
        obtain ⟨b3, rfl, hb3, r3⟩ := HG3.out k x hx
        have HR1 : Hid (∀ W, Below wr.heap.size wr W → W.cell? ⟨b1, k, none⟩ = some (.string x)) := Lib.hid (fun W hW => by rw [(hB.out.trans (hW.mono hB.out.size)).cell (p := ⟨b1, k, none⟩) hb1]; exact r1)
        have HR2 : Hid (∀ W, Below wr.heap.size wr W → W.cell? ⟨b2, k, none⟩ = some (.string x)) := Lib.hid (fun W hW => by rw [(hB.out.trans (hW.mono hB.out.size)).cell (p := ⟨b2, k, none⟩) hb2]; exact r2)
        have HR3 : Hid (∀ W, Below wr.heap.size wr W → W.cell? ⟨b3, k, none⟩ = some (.string x)) := Lib.hid (fun W hW => by rw [(hB.out.trans (hW.mono hB.out.size)).cell (p := ⟨b3, k, none⟩) hb3]; exact r3)
        clear r1 r2 r3 hx
        go_wp2_with fail
        refine wp_region_kept (by kernel_rfl) (by kernel_rfl) ?_
        repeat (first
          | (go_big_quiet_want
             first
               | refine quiet_load_str 9 (.tmp 105) rfl ⟨b1, 0 + k, none⟩ rfl (.string x) (fun w' hk => by rw [Nat.zero_add]; exact HR1.out w' hk.below) Tryd.underlying9 ?_
               | refine quiet_load_str 9 (.tmp 105) rfl ⟨b1, k, none⟩ rfl (.string x) (fun w' hk => HR1.out w' hk.below) Tryd.underlying9 ?_
               | refine quiet_load_str 9 (.tmp 109) rfl ⟨b2, 0 + k, none⟩ rfl (.string x) (fun w' hk => by rw [Nat.zero_add]; exact HR2.out w' hk.below) Tryd.underlying9 ?_
               | refine quiet_load_str 9 (.tmp 109) rfl ⟨b2, k, none⟩ rfl (.string x) (fun w' hk => HR2.out w' hk.below) Tryd.underlying9 ?_
               | refine quiet_load_str 9 (.tmp 115) rfl ⟨b1, 0 + k, none⟩ rfl (.string x) (fun w' hk => by rw [Nat.zero_add]; exact HR1.out w' hk.below) Tryd.underlying9 ?_
               | refine quiet_load_str 9 (.tmp 115) rfl ⟨b1, k, none⟩ rfl (.string x) (fun w' hk => HR1.out w' hk.below) Tryd.underlying9 ?_
               | refine quiet_load_str 9 (.tmp 119) rfl ⟨b3, 0 + k, none⟩ rfl (.string x) (fun w' hk => by rw [Nat.zero_add]; exact HR3.out w' hk.below) Tryd.underlying9 ?_
               | refine quiet_load_str 9 (.tmp 119) rfl ⟨b3, k, none⟩ rfl (.string x) (fun w' hk => HR3.out w' hk.below) Tryd.underlying9 ?_
             go_simp
             go_big_quiet_on)
          | (go_big_quiet_step ((exact fun _ => rfl))))
        refine wpQuiet_nil ?_
        intro W2 hk2
        have HK2 := Lib.hid (hB.out.trans (hk2.below.mono hB.out.size))
        clear hk2
        go_wp2_with fail
        go_roundw
        case rel => exact ⟨k + 1, by omega, by simp, HK2⟩
        case measure => simp [intOf]; omega
      · have HBF := Lib.hid (HB10.out.trans (hB.out.mono HB10.out.size))
        go_wp2_with fail
        go_ret
        exact ⟨rfl, HBF.out⟩
  · go_wp2_with fail
    go_ret
    exact ⟨rfl, HBE.out⟩
end Go.Proofs.YtpklmlhioklpoaaDoor.Head
