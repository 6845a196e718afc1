/-
  The document's disk: Crash, walked.
-/
import Derived.Test.YtebiebbbkdbffaaDiskRefG
namespace Go.Proofs.Ytebiebbbkdbffaa.Disk
open Go Go.RowKit
open Go.Proofs.Ytebiebbbkdbffaa.Sha (Kept wp_region_drawn_tail wp_region_kept_tail quiet_load_row)

theorem tear_no {z : Nat} {torn : Int} {L : List ByteArray} {w : Wr} (h : torn? z torn = false) : tear z torn L w = w := by
  unfold tear
  rw [h]
  rfl
theorem tear_yes {z t : Nat} {L : List ByteArray} {w : Wr} (h : t < z) : tear z (t : Int) L w = ⟨w.p, w.s.extract 0 t ++ (at0 L w.p).extract t z⟩ := by
  unfold tear torn?
  rw [decide_eq_true (show (0 : Int) ≤ (t : Int) by omega), decide_eq_true (show (t : Int) < (z : Int) by omega)]
  rfl
/-- In the midst of a crash of the document's: its own box holds what has become of it. -/
structure InQ (w : World) (B : Nat) (cv : Value) (X : St) (lv lv' : Value) (wr : World) : Prop where
  self : Lies wr w.heap.size (qC X lv' cv) qT
  res : Lies wr (w.heap.size + 1) zQ qT
  l : wr.ownsRow B strT 1 lv' X.dur.length (X.dur.map Value.string)
  c : wr.ownsRow B wqT 2 cv X.cache.length (X.cache.flatMap wC)
  new : New w lv lv'
  below : Below w.heap.size w wr
  clt : ∀ k, cv.ownBlock = some k → k < w.heap.size
  lne : ∀ k, lv'.ownBlock = some k → k < w.heap.size ∨ w.heap.size + 1 < k
section
variable {w : World} {B : Nat} {cv : Value} {X : St} {lv lv1 : Value}
theorem InQ.frame {wr w2 : World} (h : InQ w B cv X lv lv1 wr) (hb : Below wr.heap.size wr w2) : InQ w B cv X lv lv1 w2 :=
  ⟨h.self.same (hb.block _ h.self.lt), h.res.same (hb.block _ h.res.lt), owns_below h.l hb, owns_below h.c hb, h.new, h.below.trans (hb.mono h.below.size), h.clt, h.lne⟩
theorem InQ.next {W2 w3 : World} {lv2 : Value} {D : List ByteArray} (h : InQ w B cv X lv lv1 W2) (hb3 : Below W2.heap.size W2 w3) (ho : w3.ownsRow W2.heap.size strT 1 lv2 D.length (D.map Value.string)) (hB : B ≤ w.heap.size) :
    InQ w B cv (durS X D) lv lv2 (w3.setRow w.heap.size (qC (durS X D) lv2 cv)) := by
  have h3 := h.frame hb3
  have hs := h.below.size
  have hx := h.res.lt
  refine ⟨h3.self.setRow _, h3.res.row_other _ (by omega), ?_, ?_, New.fresh fun k hk => ?_, h3.below.trans ((Fr.row w3 w.heap.size _).below h3.below.size fun k hk => by omega), h.clt, fun k hk => .inr (by have := (ho.lt k hk).1; omega)⟩
  · exact owns_base (Fr.owns (F := fun k => k = w.heap.size) ho (Fr.row _ _ _) fun k hk e => by have := (ho.lt k hk).1; omega) (by omega)
  · exact Fr.owns (F := fun k => k = w.heap.size) h3.c (Fr.row _ _ _) fun k hk e => by have := h.clt k hk; omega
  · have := (ho.lt k hk).1
    omega
abbrev crQ (X : St) : St := ⟨X.z, X.dur, [], 0, X.full, false, X.ops⟩
abbrev crW (w wr : World) : World := ((wr.setCell ⟨w.heap.size, 2, none⟩ (.slice none 0 0)).setCell ⟨w.heap.size, 4, none⟩ (.bool false)).setCell ⟨w.heap.size, 3, none⟩ (.int .i64 0)
theorem InQ.done {wr : World} (h : InQ w B cv X lv lv1 wr) (_hB : B ≤ w.heap.size) :
    Lies (crW w wr) w.heap.size (qC (crQ X) lv1 (.slice none 0 0)) qT ∧ Lies (crW w wr) (w.heap.size + 1) zQ qT ∧
      QLeft w B lv cv (crQ X) ((crW w wr).setRow (w.heap.size + 1) (qC (crQ X) lv1 (.slice none 0 0))) lv1 (.slice none 0 0) := by
  have hs := h.below.size
  have hx := h.res.lt
  have hf : Fr (fun k => k = w.heap.size) wr (crW w wr) := Fr.setCell (F := fun k => k = w.heap.size) (Fr.setCell (F := fun k => k = w.heap.size) (Fr.one wr _ _ _) (fun _ => rfl) _) (fun _ => rfl) _
  refine ⟨((h.self.set 2 _).set 4 _).set 3 _, h.res.same (hf.block _ h.res.lt (by omega)), ⟨⟨?_, World.ownsRow_nil _ _ _ _⟩, ?_, h.new, fun k hk => by simp [Value.ownBlock] at hk⟩⟩
  · have h1 := Fr.owns h.l hf fun k hk e => by have := h.lne k hk; omega
    exact Fr.owns (F := fun k => k = w.heap.size + 1) h1 (Fr.row _ _ _) fun k hk e => by have := h.lne k hk; omega
  · exact (h.below.trans (hf.below hs fun k hk => by omega)).trans ((Fr.row _ _ _).below (Nat.le_trans hs hf.size) fun k hk => by omega)
end
theorem crash_eq (S : St) (ks : List Bool) (torn : Int) (last : Int) (k : Nat) (h : last < (k : Int)) : crashS S ks torn = crQ ⟨S.z, durAt S.z torn S.dur S.cache ks last k, S.cache, S.left, S.full, S.off, S.ops⟩ := by
  unfold crashS durAt
  rw [if_neg (by omega)]
set_option maxRecDepth 100000 in
set_option maxHeartbeats 4000000 in
theorem crashQ_any (w : World) (B : Nat) (lv cv kv : Value) (S : St) (ks : List Bool) (torn : Int) (h : IsQ w B lv cv S) (ok : Ok S) (hk : ReadsK w kv ks) (hkl : ks.length ≤ 9223372036854775807) (hB : B ≤ w.heap.size) (hpos : 0 < S.dur.length) :
    Calls Try.prog 25 #[qV S lv cv, kv, .int .i64 torn] w fun e w' => ∃ lv' cv', e = .returned (qV (crashS S ks torn) lv' cv') ∧ QLeft w B lv cv (crashS S ks torn) w' lv' cv' := by
  obtain ⟨la, lc, rfl⟩ := owns_slice h.l
  obtain ⟨ca, cc, rfl⟩ := owns_slice h.c
  obtain ⟨ka, kc, rfl, hks⟩ := hk.shape
  have HI := Lib.hid h
  have HK := Lib.hid hks
  have HFT := Lib.hid ok.fit
  have hcl : S.cache.length ≤ 1000000 := Nat.le_trans ok.cache ok.ops
  have hz256 : S.z ≤ 256 := ok.most
  have hfew : S.dur.length ≤ 4096 := ok.few
  have HFW := Lib.hid ok.few
  have HEQ := Lib.hid (crash_eq S ks torn)
  obtain ⟨z, dur, cache, left, full, off, ops⟩ := S
  clear h hk hks ok
  go_enter Try.func25, Try.ntmps25
  go_wp2_with fail
  go_loopw [7, 8] (fun v i wr => ∃ k : Nat, k ≤ cache.length ∧ k ≤ ks.length ∧ i = .int .i64 k ∧ v = .int .i64 (lastI ks k) ∧ wr = (w.alloc (.cells #[.int .i64 z, .slice la dur.length lc, .slice ca cache.length cc, .int .i64 left, .bool off, .bool full, .int .i64 ops] qT)).alloc (.cells zQ qT)) (fun _ i _ => cache.length - (intOf i).toNat)
  case atStart => exact ⟨0, Nat.zero_le _, Nat.zero_le _, rfl, rfl, rfl⟩
  case round =>
    obtain ⟨k, hk1, hk2, rfl, rfl, rfl⟩ := hrel
    by_cases hlt : k < cache.length ∧ k < ks.length
    · obtain ⟨b, off', rfl, hb, hkc⟩ := HK.out (by omega)
      have kk := hkc k hlt.2
      have h1 := hlt.1
      have h2 := hlt.2
      have HT : Hid (lastI ks (k + 1) = if ks.getD k false then (k : Int) else lastI ks k) := rfl
      clear hkc hlt
      cases hbk : ks.getD k false
      · rw [hbk] at kk
        have HT2 : Hid (lastI ks (k + 1) = lastI ks k) := by
          have := HT.out
          rw [hbk] at this
          exact this
        clear HT hbk
        go_wp2_with fail
        go_roundw
        case rel => exact ⟨k + 1, by omega, by omega, by simp, by rw [HT2.out], trivial⟩
        case measure => simp [intOf]; omega
      · rw [hbk] at kk
        have HT2 : Hid (lastI ks (k + 1) = (k : Int)) := by
          have := HT.out
          rw [hbk] at this
          exact this
        clear HT hbk
        go_wp2_with fail
        go_roundw
        case rel => exact ⟨k + 1, by omega, by omega, by simp, by rw [HT2.out], trivial⟩
        case measure => simp [intOf]; omega
    · have hmin : min cache.length ks.length = k := by omega
      have hlb := lastI_lt ks k
      obtain ⟨LL, hLL⟩ : ∃ LL, LL = lastI ks k := ⟨_, rfl⟩
      have HLL : Hid (LL = lastI ks (min cache.length ks.length)) := by
        show LL = _
        rw [hmin]
        exact hLL
      rw [← hLL] at hlb ⊢
      have hlb1 := hlb.1
      have hlb2 := hlb.2
      have HS : Hid (InQ w B (.slice ca cache.length cc) ⟨z, dur, cache, left, full, off, ops⟩ (.slice la dur.length lc) (.slice la dur.length lc) ((w.alloc (.cells #[.int .i64 z, .slice la dur.length lc, .slice ca cache.length cc, .int .i64 left, .bool off, .bool full, .int .i64 ops] qT)).alloc (.cells zQ qT))) :=
        ⟨(Lies.new w _ _).same (Below.heap_alloc _ _ _ (by simp)), new_at (by simp), owns_below HI.out.l (boxes _ _), owns_below HI.out.c (boxes _ _), New.refl _ _, boxes _ _, fun k hk => (HI.out.c.lt k hk).2, fun k hk => .inl (HI.out.l.lt k hk).2⟩
      have hx : k ≤ cache.length ∧ k ≤ ks.length := ⟨hk1, hk2⟩
      have hle : (LL : Int) < cache.length := by omega
      have hle2 : (LL : Int) < ks.length := by omega
      have HCO : Hid (¬ (k < cache.length ∧ k < ks.length)) := hlt
      rcases (show ¬ k < cache.length ∨ (k < cache.length ∧ ¬ k < ks.length) by omega) with hg | ⟨hg, hg2⟩
      all_goals
        clear hLL hlb hmin hx hlt
        go_wp2_with fail
        go_loopw [10] (fun i wr => ∃ (k : Nat) (a : Option Addr) (c : Nat), (k : Int) ≤ LL + 1 ∧ i = .int .i64 k ∧ InQ w B (.slice ca cache.length cc) ⟨z, durAt z torn dur cache ks LL k, cache, left, full, off, ops⟩ (.slice la dur.length lc) (.slice a dur.length c) wr) (fun i _ => cache.length - (intOf i).toNat)
        case atStart => exact ⟨0, la, lc, by omega, rfl, by rw [durAt_zero HLL.out]; exact HS.out⟩
        case round =>
          obtain ⟨j, a, c, hm, rfl, hM⟩ := hrel
          have HM := Lib.hid hM
          have c0 : wr.cell? ⟨w.heap.size, 0, none⟩ = some (.int .i64 z) := hM.self.cell 0
          have c1 : wr.cell? ⟨w.heap.size, 1, none⟩ = some (.slice a dur.length c) := hM.self.cell 1
          have c2' : wr.cell? ⟨w.heap.size, 2, none⟩ = some (.slice ca cache.length cc) := hM.self.cell 2
          have hws : w.heap.size < wr.heap.size := hM.self.lt
          clear hM
          by_cases hjl : (j : Int) ≤ LL
          · obtain ⟨b, off', rfl, hb, hkc⟩ := HK.out (by omega)
            have kk := hkc j (by omega)
            rw [← HM.out.below.cell (p := ⟨b, off' + j, none⟩) hb] at kk
            have hbs := Nat.lt_of_lt_of_le hb HM.out.below.size
            have hjn : j < cache.length := by omega
            obtain ⟨x, hx⟩ : ∃ x, cache[j]? = some x := ⟨cache[j], List.getElem?_eq_getElem hjn⟩
            obtain ⟨g, cg, hv, hg2', k0, k1, -⟩ := owns_writeQ HM.out.c hx
            obtain ⟨rfl, -, rfl⟩ := Value.slice.inj hv
            have HXX := Lib.hid hx
            have HXP := Lib.hid (HFT.out.wr x (List.mem_of_getElem? hx))
            clear hkc hb hv hx
            cases hbk : ks.getD j false
            · rw [hbk] at kk
              have HDS := Lib.hid (durAt_skip (z := z) (torn := torn) (L := dur) HLL.out hjl HXX.out hbk)
              have HMB := Lib.hid (HM.out.frame (w2 := wr.alloc (.cells #[.int .i64 x.p, .string x.s] wqT)) ((Below.refl _ _).alloc (Nat.le_refl _) _))
              clear hbk
              go_wp2_with fail
              go_roundw
              case rel => exact ⟨j + 1, a, c, by omega, by simp, by rw [HDS.out]; exact HMB.out⟩
              case measure => simp [intOf]; omega
            · rw [hbk] at kk
              have HMB : Hid (InQ w B (.slice (some ⟨g, 0, none⟩) cache.length cc) ⟨z, durAt z torn dur cache ks LL j, cache, left, full, off, ops⟩ (.slice la dur.length lc) (.slice a dur.length c) (wr.alloc (.cells #[.int .i64 x.p, .string x.s] wqT))) := HM.out.frame ((Below.refl _ _).alloc (Nat.le_refl _) _)
              have hd0 : 0 < (durAt z torn dur cache ks LL j).length := by rw [durAt_length]; exact hpos
              obtain ⟨gl, cl, hvl, _, hgl, hlc, _⟩ := owns_block HM.out.l hd0
              obtain ⟨rfl, -, rfl⟩ := Value.slice.inj hvl
              have kl : wr.cell? ⟨gl, x.p, none⟩ = some (.string (at0 (durAt z torn dur cache ks LL j) x.p)) := hlc _ _ (by
                have h3 : x.p < (durAt z torn dur cache ks LL j).length := by rw [durAt_length]; exact HXP.out.1
                rw [List.getElem?_map, List.getElem?_eq_getElem h3]; unfold at0; rw [List.getD_eq_getElem?_getD, List.getElem?_eq_getElem h3]; rfl)
              clear hvl hlc hd0
              rcases (show (j : Int) < LL ∨ ((j : Int) = LL ∧ torn < 0) ∨ ((j : Int) = LL ∧ 0 ≤ torn ∧ (z : Int) ≤ torn) ∨ ((j : Int) = LL ∧ 0 ≤ torn ∧ torn < (z : Int)) by omega) with h1 | ⟨h1, h2⟩ | ⟨h1, h2, h3⟩ | ⟨h1, h2, h3⟩
              · have he : ((j : Int) == LL) = false := by simp; omega
                have HDS := Lib.hid (durAt_land (z := z) (torn := torn) (L := dur) HLL.out h1 HXX.out hbk)
                have H1 := Lib.hid h1
                clear hbk kl h1
                have HLD := Lib.hid (land_any (wr.alloc (.cells #[.int .i64 x.p, .string x.s] wqT)) B (.slice (some ⟨gl, 0, none⟩) dur.length c) ⟨z, durAt z torn dur cache ks LL j, cache, left, full, off, ops⟩ (some ⟨g, 0, none⟩) cache.length cc x HMB.out.l (by show x.p < (durAt z torn dur cache ks LL j).length; rw [durAt_length]; exact HXP.out.1) (by show (durAt z torn dur cache ks LL j).length ≤ 4096; rw [durAt_length]; exact HFW.out))
                go_wp2_with (first
                  | (refine wpList_load_row rfl 33 (.tmp 3) rfl w.heap.size rfl qT (qC ⟨z, durAt z torn dur cache ks LL j, cache, left, full, off, ops⟩ (.slice (some ⟨gl, 0, none⟩) dur.length c) (.slice (some ⟨g, 0, none⟩) cache.length cc)) (0, 0) _ HMB.out.self Try.underlying33 rfl sizeQ ?_))
                refine HLD.out.mono ?_
                rintro r w3 ⟨lv2, rfl, hO3, hb3⟩
                replace hO3 : w3.ownsRow (World.heap (wr.alloc (.cells #[.int .i64 x.p, .string x.s] wqT))).size strT 1 lv2 dur.length (((durAt z torn dur cache ks LL j).set x.p x.s).map Value.string) := by
                  have h9 := hO3
                  rw [List.length_set] at h9
                  rw [← durAt_length (z := z) (torn := torn) (L := dur) (ws := cache) (ks := ks) (last := LL) j]
                  exact h9
                obtain ⟨a2, c2, rfl⟩ := owns_slice hO3
                have hO3' : w3.ownsRow (World.heap (wr.alloc (.cells #[.int .i64 x.p, .string x.s] wqT))).size strT 1 (.slice a2 dur.length c2) (durAt z torn dur cache ks LL (j + 1)).length ((durAt z torn dur cache ks LL (j + 1)).map Value.string) := by
                  rw [durAt_length, HDS.out]
                  exact hO3
                have HX3 := Lib.hid (HMB.out.frame hb3).self
                have HZ : Hid (InQ w B _ (durS ⟨z, durAt z torn dur cache ks LL j, cache, left, full, off, ops⟩ (durAt z torn dur cache ks LL (j + 1))) _ (.slice a2 dur.length c2) _) := HMB.out.next hb3 hO3' hB
                clear hO3 hO3' hb3
                go_wp2_with (refine wpList_store_row rfl 33 (.tmp 3) (.tmp 81) rfl w.heap.size (qC ⟨z, durAt z torn dur cache ks LL j, cache, left, full, off, ops⟩ (.slice a2 dur.length c2) (.slice (some ⟨g, 0, none⟩) cache.length cc)) rfl rfl qT _ HX3.out sizeQ rfl (qC_one _ _ _ _ _ _ _) ?_)
                go_roundw
                case rel => exact ⟨j + 1, a2, c2, by have := H1.out; omega, by simp, HZ.out⟩
                case measure => have := H1.out; simp [intOf]; omega
              · have he : ((j : Int) == LL) = true := by simp; omega
                have HDS := Lib.hid ((durAt_last (z := z) (torn := torn) (L := dur) HLL.out h1 HXX.out).trans (by rw [tear_no (by unfold torn?; rw [decide_eq_false (by omega)]; rfl)]))
                have H1 := Lib.hid h1
                clear hbk kl h1
                have HLD := Lib.hid (land_any (wr.alloc (.cells #[.int .i64 x.p, .string x.s] wqT)) B (.slice (some ⟨gl, 0, none⟩) dur.length c) ⟨z, durAt z torn dur cache ks LL j, cache, left, full, off, ops⟩ (some ⟨g, 0, none⟩) cache.length cc x HMB.out.l (by show x.p < (durAt z torn dur cache ks LL j).length; rw [durAt_length]; exact HXP.out.1) (by show (durAt z torn dur cache ks LL j).length ≤ 4096; rw [durAt_length]; exact HFW.out))
                go_wp2_with (first
                  | (refine wpList_load_row rfl 33 (.tmp 3) rfl w.heap.size rfl qT (qC ⟨z, durAt z torn dur cache ks LL j, cache, left, full, off, ops⟩ (.slice (some ⟨gl, 0, none⟩) dur.length c) (.slice (some ⟨g, 0, none⟩) cache.length cc)) (0, 0) _ HMB.out.self Try.underlying33 rfl sizeQ ?_))
                refine HLD.out.mono ?_
                rintro r w3 ⟨lv2, rfl, hO3, hb3⟩
                replace hO3 : w3.ownsRow (World.heap (wr.alloc (.cells #[.int .i64 x.p, .string x.s] wqT))).size strT 1 lv2 dur.length (((durAt z torn dur cache ks LL j).set x.p x.s).map Value.string) := by
                  have h9 := hO3
                  rw [List.length_set] at h9
                  rw [← durAt_length (z := z) (torn := torn) (L := dur) (ws := cache) (ks := ks) (last := LL) j]
                  exact h9
                obtain ⟨a2, c2, rfl⟩ := owns_slice hO3
                have hO3' : w3.ownsRow (World.heap (wr.alloc (.cells #[.int .i64 x.p, .string x.s] wqT))).size strT 1 (.slice a2 dur.length c2) (durAt z torn dur cache ks LL (j + 1)).length ((durAt z torn dur cache ks LL (j + 1)).map Value.string) := by
                  rw [durAt_length, HDS.out]
                  exact hO3
                have HX3 := Lib.hid (HMB.out.frame hb3).self
                have HZ : Hid (InQ w B _ (durS ⟨z, durAt z torn dur cache ks LL j, cache, left, full, off, ops⟩ (durAt z torn dur cache ks LL (j + 1))) _ (.slice a2 dur.length c2) _) := HMB.out.next hb3 hO3' hB
                clear hO3 hO3' hb3
                go_wp2_with (refine wpList_store_row rfl 33 (.tmp 3) (.tmp 81) rfl w.heap.size (qC ⟨z, durAt z torn dur cache ks LL j, cache, left, full, off, ops⟩ (.slice a2 dur.length c2) (.slice (some ⟨g, 0, none⟩) cache.length cc)) rfl rfl qT _ HX3.out sizeQ rfl (qC_one _ _ _ _ _ _ _) ?_)
                go_roundw
                case rel => exact ⟨j + 1, a2, c2, by have := H1.out; omega, by simp, HZ.out⟩
                case measure => have := H1.out; simp [intOf]; omega
              · have he : ((j : Int) == LL) = true := by simp; omega
                have HDS := Lib.hid ((durAt_last (z := z) (torn := torn) (L := dur) HLL.out h1 HXX.out).trans (by rw [tear_no (by unfold torn?; rw [decide_eq_false (show ¬ torn < (z : Int) by omega)]; simp)]))
                have H1 := Lib.hid h1
                clear hbk kl h1
                have HLD := Lib.hid (land_any (wr.alloc (.cells #[.int .i64 x.p, .string x.s] wqT)) B (.slice (some ⟨gl, 0, none⟩) dur.length c) ⟨z, durAt z torn dur cache ks LL j, cache, left, full, off, ops⟩ (some ⟨g, 0, none⟩) cache.length cc x HMB.out.l (by show x.p < (durAt z torn dur cache ks LL j).length; rw [durAt_length]; exact HXP.out.1) (by show (durAt z torn dur cache ks LL j).length ≤ 4096; rw [durAt_length]; exact HFW.out))
                go_wp2_with (first
                  | (refine wpList_load_row rfl 33 (.tmp 3) rfl w.heap.size rfl qT (qC ⟨z, durAt z torn dur cache ks LL j, cache, left, full, off, ops⟩ (.slice (some ⟨gl, 0, none⟩) dur.length c) (.slice (some ⟨g, 0, none⟩) cache.length cc)) (0, 0) _ HMB.out.self Try.underlying33 rfl sizeQ ?_))
                refine HLD.out.mono ?_
                rintro r w3 ⟨lv2, rfl, hO3, hb3⟩
                replace hO3 : w3.ownsRow (World.heap (wr.alloc (.cells #[.int .i64 x.p, .string x.s] wqT))).size strT 1 lv2 dur.length (((durAt z torn dur cache ks LL j).set x.p x.s).map Value.string) := by
                  have h9 := hO3
                  rw [List.length_set] at h9
                  rw [← durAt_length (z := z) (torn := torn) (L := dur) (ws := cache) (ks := ks) (last := LL) j]
                  exact h9
                obtain ⟨a2, c2, rfl⟩ := owns_slice hO3
                have hO3' : w3.ownsRow (World.heap (wr.alloc (.cells #[.int .i64 x.p, .string x.s] wqT))).size strT 1 (.slice a2 dur.length c2) (durAt z torn dur cache ks LL (j + 1)).length ((durAt z torn dur cache ks LL (j + 1)).map Value.string) := by
                  rw [durAt_length, HDS.out]
                  exact hO3
                have HX3 := Lib.hid (HMB.out.frame hb3).self
                have HZ : Hid (InQ w B _ (durS ⟨z, durAt z torn dur cache ks LL j, cache, left, full, off, ops⟩ (durAt z torn dur cache ks LL (j + 1))) _ (.slice a2 dur.length c2) _) := HMB.out.next hb3 hO3' hB
                clear hO3 hO3' hb3
                go_wp2_with (refine wpList_store_row rfl 33 (.tmp 3) (.tmp 81) rfl w.heap.size (qC ⟨z, durAt z torn dur cache ks LL j, cache, left, full, off, ops⟩ (.slice a2 dur.length c2) (.slice (some ⟨g, 0, none⟩) cache.length cc)) rfl rfl qT _ HX3.out sizeQ rfl (qC_one _ _ _ _ _ _ _) ?_)
                go_roundw
                case rel => exact ⟨j + 1, a2, c2, by have := H1.out; omega, by simp, HZ.out⟩
                case measure => have := H1.out; simp [intOf]; omega
              · have he : ((j : Int) == LL) = true := by simp; omega
                obtain ⟨t, rfl⟩ := Int.eq_ofNat_of_zero_le h2
                have htz : t < z := by omega
                have HDS := Lib.hid ((durAt_last (z := z) (torn := (t : Int)) (L := dur) HLL.out h1 HXX.out).trans (by rw [tear_yes htz]))
                have hxs := HXP.out.2
                have hxp := HXP.out.1
                have hys : (at0 (durAt z (t : Int) dur cache ks LL j) x.p).size = z := (durAt_fit HFT.out j).at hxp
                have hy1 := (extract_full x.s hxs t (by omega)).1
                have hy2 := (extract_full (at0 (durAt z (t : Int) dur cache ks LL j) x.p) hys t (by omega)).2
                have hdl : (durAt z (t : Int) dur cache ks LL j).length = dur.length := durAt_length j
                generalize hY : at0 (durAt z (t : Int) dur cache ks LL j) x.p = y at kl hys hy1 hy2 HDS
                have H1 := Lib.hid h1
                clear hbk hY hdl h1
                go_wp2_with fail
                refine wp_region_drawn_tail 14 (by kernel_rfl) (by kernel_rfl) ?_
                simp only [List.take_succ_cons, List.take_zero, List.drop_succ_cons, List.drop_zero]
                repeat (go_big_quiet_step (fail))
                refine wpQuiet_nil ?_
                rintro _ ⟨nq, rfl⟩
                have HMB3 : Hid (InQ w B (.slice (some ⟨g, 0, none⟩) cache.length cc) ⟨z, durAt z (t : Int) dur cache ks LL j, cache, left, full, off, ops⟩ (.slice la dur.length lc) (.slice (some ⟨gl, 0, none⟩) dur.length c) (((wr.alloc (.cells #[.int .i64 x.p, .string x.s] wqT)).drewN nq).setCell ⟨wr.heap.size, 1, none⟩ (.string (x.s.extract 0 t ++ y.extract t z)))) := HM.out.frame (((below_drewN ((Below.refl _ _).alloc (Nat.le_refl _) _) nq).setCell (Nat.le_refl _) _))
                have HLB : Hid (Lies (((wr.alloc (.cells #[.int .i64 x.p, .string x.s] wqT)).drewN nq).setCell ⟨wr.heap.size, 1, none⟩ (.string (x.s.extract 0 t ++ y.extract t z))) wr.heap.size #[.int .i64 x.p, .string (x.s.extract 0 t ++ y.extract t z)] wqT) := ((Lies.new wr #[.int .i64 x.p, .string x.s] wqT).drewN nq).set 1 _
                clear HMB
                have HMB := HMB3
                clear HMB3
                have HLD := Lib.hid (land_any (((wr.alloc (.cells #[.int .i64 x.p, .string x.s] wqT)).drewN nq).setCell ⟨wr.heap.size, 1, none⟩ (.string (x.s.extract 0 t ++ y.extract t z))) B (.slice (some ⟨gl, 0, none⟩) dur.length c) ⟨z, durAt z (t : Int) dur cache ks LL j, cache, left, full, off, ops⟩ (some ⟨g, 0, none⟩) cache.length cc ⟨x.p, x.s.extract 0 t ++ y.extract t z⟩ HMB.out.l (by show x.p < (durAt z (t : Int) dur cache ks LL j).length; rw [durAt_length]; exact HXP.out.1) (by show (durAt z (t : Int) dur cache ks LL j).length ≤ 4096; rw [durAt_length]; exact HFW.out))
                go_wp2_with (first
                  | (refine wpList_load_row rfl 33 (.tmp 3) rfl w.heap.size rfl qT (qC ⟨z, durAt z (t : Int) dur cache ks LL j, cache, left, full, off, ops⟩ (.slice (some ⟨gl, 0, none⟩) dur.length c) (.slice (some ⟨g, 0, none⟩) cache.length cc)) (0, 0) _ HMB.out.self Try.underlying33 rfl sizeQ ?_)
                  | (refine wpList_load_row rfl 50 (.tmp 11) rfl wr.heap.size rfl wqT #[.int .i64 x.p, .string (x.s.extract 0 t ++ y.extract t z)] (0, 0) _ HLB.out Try.underlying50 rfl sizeWq ?_))
                refine HLD.out.mono ?_
                rintro r w3 ⟨lv2, rfl, hO3, hb3⟩
                replace hO3 : w3.ownsRow (World.heap (((wr.alloc (.cells #[.int .i64 x.p, .string x.s] wqT)).drewN nq).setCell ⟨wr.heap.size, 1, none⟩ (.string (x.s.extract 0 t ++ y.extract t z)))).size strT 1 lv2 dur.length (((durAt z (t : Int) dur cache ks LL j).set x.p (x.s.extract 0 t ++ y.extract t z)).map Value.string) := by
                  have h9 := hO3
                  rw [List.length_set] at h9
                  rw [← durAt_length (z := z) (torn := (t : Int)) (L := dur) (ws := cache) (ks := ks) (last := LL) j]
                  exact h9
                obtain ⟨a2, c2, rfl⟩ := owns_slice hO3
                have hO3' : w3.ownsRow (World.heap (((wr.alloc (.cells #[.int .i64 x.p, .string x.s] wqT)).drewN nq).setCell ⟨wr.heap.size, 1, none⟩ (.string (x.s.extract 0 t ++ y.extract t z)))).size strT 1 (.slice a2 dur.length c2) (durAt z (t : Int) dur cache ks LL (j + 1)).length ((durAt z (t : Int) dur cache ks LL (j + 1)).map Value.string) := by
                  rw [durAt_length, HDS.out]
                  exact hO3
                have HX3 := Lib.hid (HMB.out.frame hb3).self
                have HZ : Hid (InQ w B _ (durS ⟨z, durAt z (t : Int) dur cache ks LL j, cache, left, full, off, ops⟩ (durAt z (t : Int) dur cache ks LL (j + 1))) _ (.slice a2 dur.length c2) _) := HMB.out.next hb3 hO3' hB
                clear hO3 hO3' hb3
                go_wp2_with (refine wpList_store_row rfl 33 (.tmp 3) (.tmp 81) rfl w.heap.size (qC ⟨z, durAt z (t : Int) dur cache ks LL j, cache, left, full, off, ops⟩ (.slice a2 dur.length c2) (.slice (some ⟨g, 0, none⟩) cache.length cc)) rfl rfl qT _ HX3.out sizeQ rfl (qC_one _ _ _ _ _ _ _) ?_)
                go_roundw
                case rel => exact ⟨j + 1, a2, c2, by have := H1.out; omega, by simp, HZ.out⟩
                case measure => have := H1.out; simp [intOf]; omega
          · have e : LL < (j : Int) := by omega
            have HE := Lib.hid (HEQ.out LL j e)
            have HD := Lib.hid (HM.out.done hB)
            have f2 := HM.out.self.free 2
            have f3 := HM.out.self.free 3
            have f4 := HM.out.self.free 4
            have c3 : wr.cell? ⟨w.heap.size, 3, none⟩ = some (.int .i64 left) := HM.out.self.cell 3
            have c4 : wr.cell? ⟨w.heap.size, 4, none⟩ = some (.bool off) := HM.out.self.cell 4
            clear e
            go_wp2_with (first
              | (refine wpList_load_row rfl 33 (.tmp 3) rfl w.heap.size rfl qT (qC (crQ ⟨z, durAt z torn dur cache ks LL j, cache, left, full, off, ops⟩) (.slice a dur.length c) (.slice none 0 0)) (0, 0) _ HD.out.1 Try.underlying33 rfl sizeQ ?_)
              | (refine wpList_store_row rfl 33 (.tmp 6) (.tmp 85) rfl (w.heap.size + 1) (qC (crQ ⟨z, durAt z torn dur cache ks LL j, cache, left, full, off, ops⟩) (.slice a dur.length c) (.slice none 0 0)) rfl rfl qT _ HD.out.2.1 sizeQ rfl (qC_one _ _ _ _ _ _ _) ?_))
            rw [HE.out]
            exact bodyPost_ret (v := qV (crQ ⟨z, durAt z torn dur cache ks LL j, cache, left, full, off, ops⟩) (.slice a dur.length c) (.slice none 0 0)) (results_cell_row Try.results25 _ _ (w.heap.size + 1) qT _ (0, 0) _ rfl (Lies.setRow HD.out.2.1 _) Try.underlying33 rfl sizeQ) rfl ⟨_, _, rfl, HD.out.2.2⟩
end Go.Proofs.Ytebiebbbkdbffaa.Disk
