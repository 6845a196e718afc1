/-
  The document's disk: Put.
-/
import Derived.Test.YtebiebbbkdbffaaDiskRefB
namespace Go.Proofs.Ytebiebbbkdbffaa.Disk
open Go Go.RowKit
open Go.Proofs.Ytebiebbbkdbffaa.Sha (wp_region_drawn_tail wp_region_kept_tail quiet_load_row)

def New (w : World) (v v' : Value) : Prop := ∀ k, v'.ownBlock = some k → v.ownBlock = some k ∨ w.heap.size ≤ k
theorem New.refl (w : World) (v : Value) : New w v v := fun _ h => .inl h
theorem New.trans {w w1 : World} {v v1 v2 : Value} (h : New w v v1) (k : New w1 v1 v2) (hs : w.heap.size ≤ w1.heap.size) : New w v v2 := fun i hi => by
  rcases k i hi with e | e
  · exact h i e
  · exact .inr (Nat.le_trans hs e)
theorem New.fresh {w : World} {v v' : Value} (h : ∀ k, v'.ownBlock = some k → w.heap.size ≤ k) : New w v v' := fun k hk => .inr (h k hk)
/-- What a call of the document's leaves. -/
structure QLeft (w : World) (B : Nat) (lv cv : Value) (S' : St) (w' : World) (lv' cv' : Value) : Prop where
  q : IsQ w' B lv' cv' S'
  below : Below w.heap.size w w'
  l : New w lv lv'
  c : New w cv cv'
theorem owns_below {w w' : World} {B : Nat} {t : TypeId} {z n : Nat} {v : Value} {xs : List Value} (h : w.ownsRow B t z v n xs) (hb : Below w.heap.size w w') : w'.ownsRow B t z v n xs :=
  Fr.owns (F := fun _ => False) h (Fr.of_below hb) fun _ _ e => e
theorem IsQ.below {w w' : World} {B : Nat} {lv cv : Value} {S : St} (h : IsQ w B lv cv S) (hb : Below w.heap.size w w') : IsQ w' B lv cv S := ⟨owns_below h.l hb, owns_below h.c hb⟩
theorem QLeft.same {w w' : World} {B : Nat} {lv cv : Value} {S : St} (h : IsQ w B lv cv S) (hb : Below w.heap.size w w') : QLeft w B lv cv S w' lv cv := ⟨h.below hb, hb, New.refl _ _, New.refl _ _⟩
/-- One write, laid in block g, appended to an owned list of writes (the document's). -/
theorem append_wq (w : World) (B g : Nat) (v : Value) (ws : List Wr) (x : Wr) (hg : Lies w g #[.int .i64 x.p, .string x.s] wqT) (ho : w.ownsRow B wqT 2 v ws.length (ws.flatMap wC)) (hl : ws.length ≤ 2000000) (hB : B ≤ w.heap.size) :
    ∃ v' w', (Builtin.append_ #[31, 31] 31 #[v, .slice (some ⟨g, 0, none⟩) 1 1]).run Try.prog w = .ok v' w' ∧
      w'.ownsRow B wqT 2 v' (ws ++ [x]).length ((ws ++ [x]).flatMap wC) ∧ w.grownBy w' v.ownBlock ∧ (∀ k, v'.ownBlock = some k → v.ownBlock = some k ∨ w.heap.size ≤ k) := by
  obtain ⟨i, z, hi, hz1, hs, hb, hz2⟩ := info_of infoWq
  obtain ⟨v', w', hr, h2, h3, _, h5⟩ := run_append_own_at (P := Try.prog) w B 31 31 wqT i z 2 24 Try.underlying31 hi hz1 hs hb hz2 (by decide) v ws.length (ws.flatMap wC) ho ⟨g, 0, none⟩ 1 1 (wC x) rfl (fun j u hu => by
    rw [addr_add, Nat.zero_add]
    exact (hg.cell j).trans (by simpa [wC] using hu)) (wC_one x) (by unfold maxLen; omega) (by omega) hB
  refine ⟨v', w', hr, by simpa [List.flatMap_append] using h2, h3, fun k hk => ?_⟩
  rcases h5 with e | e
  · rw [e] at hk; exact .inl hk
  · rw [e] at hk
    obtain rfl := Option.some.inj hk
    exact .inr (Nat.le_refl _)
abbrev zQ : Array Value := #[.int .i64 0, .slice none 0 0, .slice none 0 0, .int .i64 0, .bool false, .bool false, .int .i64 0]
def addS (X : St) (x : Wr) : St := ⟨X.z, X.dur, X.cache ++ [x], X.left, X.full, X.off, X.ops⟩
theorem put_cut' {S : St} {p : Nat} {s : ByteArray} (h : ¬ ((p : Int) < 0 ∨ (S.dur.length : Int) ≤ (p : Int) ∨ s.size ≠ S.z)) (ho : S.off = false) (hl : S.left = 1) : putS S p s = (addS (opS S) ⟨p, s⟩, 80) := put_cut h ho hl
theorem put_ok' {S : St} {p : Nat} {s : ByteArray} (h : ¬ ((p : Int) < 0 ∨ (S.dur.length : Int) ≤ (p : Int) ∨ s.size ≠ S.z)) (ho : S.off = false) (hl : S.left ≠ 1) (hf : S.full = false) : putS S p s = (addS (opS S) ⟨p, s⟩, 0) := put_ok h ho hl hf
/-- The cache copied, a write put behind it: what lies where then. -/
theorem cache_made {w1 : World} {B rb : Nat} {cv : Value} {ws : List Wr} (Q : Array Value) (x : Wr) (ho : w1.ownsRow B wqT 2 cv ws.length (ws.flatMap wC)) (hl : ws.length ≤ 1000000) (h0 : Lies w1 rb zQ qT) :
    ∃ v1 w2 v2 w3, (Builtin.append_ #[31, 31] 31 #[.slice (some ⟨w1.heap.size + 1, 0, none⟩) 0 0, cv]).run Try.prog ((w1.alloc (.cells Q qT)).alloc (.cells #[] wqT)) = .ok v1 w2 ∧
      (∃ a1 c1, v1 = .slice a1 ws.length c1) ∧
      (Builtin.append_ #[31, 31] 31 #[v1, .slice (some ⟨w2.heap.size, 0, none⟩) 1 1]).run Try.prog (w2.alloc (.cells #[.int .i64 x.p, .string x.s] wqT)) = .ok v2 w3 ∧
      (∃ a2 c2, v2 = .slice a2 (ws.length + 1) c2) ∧ w3.ownsRow (w1.heap.size + 1) wqT 2 v2 (ws.length + 1) ((ws ++ [x]).flatMap wC) ∧ Below w1.heap.size w1 w3 ∧ Lies w3 w1.heap.size Q qT ∧ Lies w3 rb zQ qT := by
  obtain ⟨v1, w2, hr1, ho1, hb1, hf1⟩ := append_made Try.underlying31 infoWq (by decide) (by decide) append_empty_w (w1.alloc (.cells Q qT)) B _ cv _ (ho.alloc _) (flat_one ws) (by omega)
  have hs : (w1.alloc (.cells Q qT)).heap.size = w1.heap.size + 1 := by simp
  rw [hs] at hr1 ho1 hb1 hf1
  have hs2 := hb1.size
  rw [hs] at hs2
  obtain ⟨v2, w3, hr2, ho2, hg2, hf2⟩ := append_wq (w2.alloc (.cells #[.int .i64 x.p, .string x.s] wqT)) (w1.heap.size + 1) w2.heap.size v1 ws x (Lies.new _ _ _) (ho1.alloc _) (by omega) (by simp; omega)
  have e : (ws ++ [x]).length = ws.length + 1 := by simp
  rw [e] at ho2
  have hb3 : Below (w1.heap.size + 1) (w1.alloc (.cells Q qT)) w3 := (hb1.alloc hs2 _).grown hg2 (by simp; omega) (fun k hk => hf1 k hk)
  have hrl := h0.lt
  exact ⟨v1, w2, v2, w3, hr1, owns_slice ho1, hr2, owns_slice ho2, ho2, ((Below.refl _ _).alloc (Nat.le_refl _) _).trans (hb3.mono (by omega)), (Lies.new w1 _ _).same (hb3.block _ (by omega)), (h0.same (Below.heap_alloc _ _ _ hrl)).same (hb3.block _ (by omega))⟩
set_option maxRecDepth 100000 in
set_option maxHeartbeats 2000000 in
theorem putQ_any (w : World) (B : Nat) (lv cv : Value) (S : St) (i : Int) (s : ByteArray) (h : IsQ w B lv cv S) (ok : Ok S) (hn : S.ops < 1000000) (hB : B ≤ w.heap.size) :
    Calls Try.prog 21 #[qV S lv cv, .int .i64 i, .string s] w fun e w' => ∃ lv' cv', e = .returned (.tuple #[qV (putS S i s).1 lv' cv', .int .i64 (putS S i s).2]) ∧ QLeft w B lv cv (putS S i s).1 w' lv' cv' := by
  obtain ⟨la, lc, rfl⟩ := owns_slice h.l
  obtain ⟨ca, cc, rfl⟩ := owns_slice h.c
  have HI := Lib.hid h
  by_cases hr : i < 0 ∨ (S.dur.length : Int) ≤ i ∨ s.size ≠ S.z
  · rw [put_range hr]
    rcases (show i < 0 ∨ (0 ≤ i ∧ (S.dur.length : Int) ≤ i) ∨ (0 ≤ i ∧ i < (S.dur.length : Int) ∧ s.size ≠ S.z) by omega) with h1 | ⟨h1, h2⟩ | ⟨h1, h2, h3⟩
    · clear h hr
      go_enter Try.func21, Try.ntmps21
      go_wp2_with fail
      exact bodyPost_ret (v := .tuple #[qV S (.slice la S.dur.length lc) (.slice ca S.cache.length cc), .int .i64 1]) (results_row2 Try.results21 _ _ (w.heap.size + 1) qT _ (0, 0) _ rfl (new_at (by simp)) Try.underlying33 rfl sizeQ) rfl ⟨_, _, rfl, QLeft.same HI.out (boxes _ _)⟩
    · clear h hr
      go_enter Try.func21, Try.ntmps21
      go_wp2_with fail
      exact bodyPost_ret (v := .tuple #[qV S (.slice la S.dur.length lc) (.slice ca S.cache.length cc), .int .i64 1]) (results_row2 Try.results21 _ _ (w.heap.size + 1) qT _ (0, 0) _ rfl (new_at (by simp)) Try.underlying33 rfl sizeQ) rfl ⟨_, _, rfl, QLeft.same HI.out (boxes _ _)⟩
    · have hz : ((s.size : Int) != (S.z : Int)) = true := by simp; omega
      clear h hr h3
      go_enter Try.func21, Try.ntmps21
      go_wp2_with fail
      exact bodyPost_ret (v := .tuple #[qV S (.slice la S.dur.length lc) (.slice ca S.cache.length cc), .int .i64 1]) (results_row2 Try.results21 _ _ (w.heap.size + 1) qT _ (0, 0) _ rfl (new_at (by simp)) Try.underlying33 rfl sizeQ) rfl ⟨_, _, rfl, QLeft.same HI.out (boxes _ _)⟩
  · obtain ⟨p, rfl⟩ := Int.eq_ofNat_of_zero_le (show 0 ≤ i by omega)
    have hp : (p : Int) < (S.dur.length : Int) := by omega
    have hz : ((s.size : Int) != (S.z : Int)) = false := by simp; omega
    have hd1 : decide ((p : Int) < 0) = false := by simp
    have hd2 : decide (S.dur.length ≤ p) = false := by simp; omega
    cases ho : S.off
    · have HO := Lib.hid (operation_any ((w.alloc (.cells (qC S (.slice la S.dur.length lc) (.slice ca S.cache.length cc)) qT)).alloc (.cells zQ qT)) S la ca S.dur.length lc S.cache.length cc ho hn ok.left)
      obtain ⟨z, dur, cache, left, full, off, ops⟩ := S
      obtain rfl : off = false := ho
      have HX : Hid (opS ⟨z, dur, cache, left, full, false, ops⟩ = opS ⟨z, dur, cache, left, full, false, ops⟩) := rfl
      clear h
      by_cases hl : left = 1
      · rw [put_cut' hr rfl hl]
        rw [decide_eq_true hl] at HO
        have HIX : Hid (IsQ w B (.slice la dur.length lc) (.slice ca cache.length cc) (opS ⟨z, dur, cache, left, full, false, ops⟩)) := ⟨HI.out.l, HI.out.c⟩
        have HCL : Hid ((opS ⟨z, dur, cache, left, full, false, ops⟩).cache.length ≤ 1000000) := Nat.le_trans ok.cache ok.ops
        generalize opS ⟨z, dur, cache, left, full, false, ops⟩ = X at HO HIX HCL ⊢
        obtain ⟨z', dur', cache', left', full', off', ops'⟩ := X
        clear hr hl HX
        go_enter Try.func21, Try.ntmps21
        go_wp2_with fail
        refine HO.out.mono ?_
        rintro e w1 ⟨rfl, hb1⟩
        have L0 : Lies w1 w.heap.size (qC ⟨z, dur, cache, left, full, false, ops⟩ (.slice la dur.length lc) (.slice ca cache.length cc)) qT := ((Lies.new w _ _).same (Below.heap_alloc _ _ _ (by simp))).same (hb1.block _ (by simp; omega))
        have L1 : Lies w1 (w.heap.size + 1) zQ qT := (show Lies _ (w.heap.size + 1) _ _ from new_at (by simp)).same (hb1.block _ (by simp))
        have hb0 : Below w.heap.size w w1 := (boxes _ _).trans (hb1.mono (by simp; omega))
        have HB0 := Lib.hid hb0
        have HL1 := Lib.hid L1
        have k2 : w1.cell? ⟨w.heap.size, 2, none⟩ = some (.slice ca cache.length cc) := L0.cell 2
        have k5 : w1.cell? ⟨w.heap.size, 5, none⟩ = some (.bool full) := L0.cell 5
        have hlt0 := L0.lt
        have hs1 := hb0.size
        have hlt := L1.lt
        clear hb1 hb0 L0 L1
        obtain ⟨v1, w2, v2, w3, hr1, ⟨a1, c1, rfl⟩, hr2, ⟨a2, c2, rfl⟩, ho3, hb3, hx3, hz3⟩ := cache_made (qC ⟨z', dur', cache', left', full', off', ops'⟩ (.slice la dur.length lc) (.slice ca cache.length cc)) ⟨p, s⟩ (owns_below HIX.out.c HB0.out) HCL.out HL1.out
        have HR1 := Lib.hid hr1
        have HR2 := Lib.hid hr2
        have kx := hx3.cell 2
        have kx : w3.cell? ⟨w1.heap.size, 2, none⟩ = some (.slice ca cache.length cc) := kx
        have kxf := hx3.free 2
        have hne : w.heap.size + 1 ≠ w1.heap.size := by omega
        have HL4 : Hid (Lies (w3.setCell ⟨w1.heap.size, 2, none⟩ (.slice a2 (cache'.length + 1) c2)) w1.heap.size (qC ⟨z', dur', cache', left', full', off', ops'⟩ (.slice la dur.length lc) (.slice a2 (cache'.length + 1) c2)) qT) := hx3.set 2 _
        have HZ4 : Hid (Lies (w3.setCell ⟨w1.heap.size, 2, none⟩ (.slice a2 (cache'.length + 1) c2)) (w.heap.size + 1) zQ qT) := hz3.other _ hne
        have HO4 : Hid ((w3.setCell ⟨w1.heap.size, 2, none⟩ (.slice a2 (cache'.length + 1) c2)).ownsRow (w1.heap.size + 1) wqT 2 (.slice a2 (cache'.length + 1) c2) (cache'.length + 1) ((cache' ++ [Wr.mk p s]).flatMap wC)) :=
          Fr.owns (F := fun k => k = w1.heap.size) ho3 (Fr.one w3 _ _ _) (fun k hk e => by have := (ho3.lt k hk).1; omega)
        have HB4 : Hid (Below w.heap.size w (w3.setCell ⟨w1.heap.size, 2, none⟩ (.slice a2 (cache'.length + 1) c2))) := (HB0.out.trans (hb3.mono hs1)).setCell hs1 _
        clear hr1 hr2 ho3 hb3 hx3 hz3
        go_wp2_with (first
          | (at_builtin; refine wpList_append_run rfl _ _ 31 rfl _ _ _ rfl rfl HR1.out ?_)
          | (at_builtin; refine wpList_append_run rfl _ _ 31 rfl _ _ _ rfl rfl HR2.out ?_)
          | (refine wpList_load_row rfl 33 (.tmp 8) rfl w1.heap.size rfl qT (qC ⟨z', dur', cache', left', full', off', ops'⟩ (.slice la dur.length lc) (.slice a2 (cache'.length + 1) c2)) (0, 0) _ HL4.out Try.underlying33 rfl sizeQ ?_)
          | (refine wpList_store_row rfl 33 (.tmp 6) (.tmp 53) rfl (w.heap.size + 1) (qC ⟨z', dur', cache', left', full', off', ops'⟩ (.slice la dur.length lc) (.slice a2 (cache'.length + 1) c2)) rfl rfl qT _ HZ4.out sizeQ rfl (qC_one _ _ _ _ _ _ _) ?_))
        have HB5 : Below w.heap.size w (World.setRow (w3.setCell ⟨w1.heap.size, 2, none⟩ (.slice a2 (cache'.length + 1) c2)) (w.heap.size + 1) (qC ⟨z', dur', cache', left', full', off', ops'⟩ (.slice la dur.length lc) (.slice a2 (cache'.length + 1) c2))) :=
          HB4.out.trans ((Fr.row _ _ _).below HB4.out.size (fun k hk => by omega))
        have HO5 := Fr.owns (F := fun k => k = w.heap.size + 1) HO4.out (Fr.row _ _ (qC ⟨z', dur', cache', left', full', off', ops'⟩ (.slice la dur.length lc) (.slice a2 (cache'.length + 1) c2))) (fun k hk e => by have := (HO4.out.lt k hk).1; omega)
        have HQ : QLeft w B (.slice la dur.length lc) (.slice ca cache.length cc) (addS ⟨z', dur', cache', left', full', off', ops'⟩ ⟨p, s⟩) _ (.slice la dur.length lc) (.slice a2 (cache'.length + 1) c2) := ⟨⟨owns_below HIX.out.l HB5, by
          show World.ownsRow _ B wqT 2 _ (cache' ++ [Wr.mk p s]).length _
          rw [show (cache' ++ [Wr.mk p s]).length = cache'.length + 1 by simp]
          exact owns_base HO5 (by omega)⟩, HB5, New.refl _ _, New.fresh (fun k hk => by have := (HO4.out.lt k hk).1; omega)⟩
        exact bodyPost_ret (v := .tuple #[qV (addS ⟨z', dur', cache', left', full', off', ops'⟩ ⟨p, s⟩) (.slice la dur.length lc) (.slice a2 (cache'.length + 1) c2), .int .i64 80]) (results_row2 Try.results21 _ _ (w.heap.size + 1) qT _ (0, 0) _ rfl (HZ4.out.setRow _) Try.underlying33 rfl sizeQ) rfl ⟨_, _, rfl, HQ⟩
      · cases full
        · rw [put_ok' hr rfl hl rfl]
          rw [decide_eq_false hl] at HO
          have HIX : Hid (IsQ w B (.slice la dur.length lc) (.slice ca cache.length cc) (opS ⟨z, dur, cache, left, false, false, ops⟩)) := ⟨HI.out.l, HI.out.c⟩
          have HCL : Hid ((opS ⟨z, dur, cache, left, false, false, ops⟩).cache.length ≤ 1000000) := Nat.le_trans ok.cache ok.ops
          generalize opS ⟨z, dur, cache, left, false, false, ops⟩ = X at HO HIX HCL ⊢
          obtain ⟨z', dur', cache', left', full', off', ops'⟩ := X
          clear hr hl HX
          go_enter Try.func21, Try.ntmps21
          go_wp2_with fail
          refine HO.out.mono ?_
          rintro e w1 ⟨rfl, hb1⟩
          have L0 : Lies w1 w.heap.size (qC ⟨z, dur, cache, left, false, false, ops⟩ (.slice la dur.length lc) (.slice ca cache.length cc)) qT := ((Lies.new w _ _).same (Below.heap_alloc _ _ _ (by simp))).same (hb1.block _ (by simp; omega))
          have L1 : Lies w1 (w.heap.size + 1) zQ qT := (show Lies _ (w.heap.size + 1) _ _ from new_at (by simp)).same (hb1.block _ (by simp))
          have hb0 : Below w.heap.size w w1 := (boxes _ _).trans (hb1.mono (by simp; omega))
          have HB0 := Lib.hid hb0
          have HL1 := Lib.hid L1
          have k2 : w1.cell? ⟨w.heap.size, 2, none⟩ = some (.slice ca cache.length cc) := L0.cell 2
          have k5 : w1.cell? ⟨w.heap.size, 5, none⟩ = some (.bool false) := L0.cell 5
          have hlt0 := L0.lt
          have hs1 := hb0.size
          have hlt := L1.lt
          clear hb1 hb0 L0 L1
          obtain ⟨v1, w2, v2, w3, hr1, ⟨a1, c1, rfl⟩, hr2, ⟨a2, c2, rfl⟩, ho3, hb3, hx3, hz3⟩ := cache_made (qC ⟨z', dur', cache', left', full', off', ops'⟩ (.slice la dur.length lc) (.slice ca cache.length cc)) ⟨p, s⟩ (owns_below HIX.out.c HB0.out) HCL.out HL1.out
          have HR1 := Lib.hid hr1
          have HR2 := Lib.hid hr2
          have kx := hx3.cell 2
          have kx : w3.cell? ⟨w1.heap.size, 2, none⟩ = some (.slice ca cache.length cc) := kx
          have kxf := hx3.free 2
          have hne : w.heap.size + 1 ≠ w1.heap.size := by omega
          have HL4 : Hid (Lies (w3.setCell ⟨w1.heap.size, 2, none⟩ (.slice a2 (cache'.length + 1) c2)) w1.heap.size (qC ⟨z', dur', cache', left', full', off', ops'⟩ (.slice la dur.length lc) (.slice a2 (cache'.length + 1) c2)) qT) := hx3.set 2 _
          have HZ4 : Hid (Lies (w3.setCell ⟨w1.heap.size, 2, none⟩ (.slice a2 (cache'.length + 1) c2)) (w.heap.size + 1) zQ qT) := hz3.other _ hne
          have HO4 : Hid ((w3.setCell ⟨w1.heap.size, 2, none⟩ (.slice a2 (cache'.length + 1) c2)).ownsRow (w1.heap.size + 1) wqT 2 (.slice a2 (cache'.length + 1) c2) (cache'.length + 1) ((cache' ++ [Wr.mk p s]).flatMap wC)) :=
            Fr.owns (F := fun k => k = w1.heap.size) ho3 (Fr.one w3 _ _ _) (fun k hk e => by have := (ho3.lt k hk).1; omega)
          have HB4 : Hid (Below w.heap.size w (w3.setCell ⟨w1.heap.size, 2, none⟩ (.slice a2 (cache'.length + 1) c2))) := (HB0.out.trans (hb3.mono hs1)).setCell hs1 _
          clear hr1 hr2 ho3 hb3 hx3 hz3
          go_wp2_with (first
            | (at_builtin; refine wpList_append_run rfl _ _ 31 rfl _ _ _ rfl rfl HR1.out ?_)
            | (at_builtin; refine wpList_append_run rfl _ _ 31 rfl _ _ _ rfl rfl HR2.out ?_)
            | (refine wpList_load_row rfl 33 (.tmp 8) rfl w1.heap.size rfl qT (qC ⟨z', dur', cache', left', full', off', ops'⟩ (.slice la dur.length lc) (.slice a2 (cache'.length + 1) c2)) (0, 0) _ HL4.out Try.underlying33 rfl sizeQ ?_)
            | (refine wpList_store_row rfl 33 (.tmp 6) (.tmp 54) rfl (w.heap.size + 1) (qC ⟨z', dur', cache', left', full', off', ops'⟩ (.slice la dur.length lc) (.slice a2 (cache'.length + 1) c2)) rfl rfl qT _ HZ4.out sizeQ rfl (qC_one _ _ _ _ _ _ _) ?_))
          have HB5 : Below w.heap.size w (World.setRow (w3.setCell ⟨w1.heap.size, 2, none⟩ (.slice a2 (cache'.length + 1) c2)) (w.heap.size + 1) (qC ⟨z', dur', cache', left', full', off', ops'⟩ (.slice la dur.length lc) (.slice a2 (cache'.length + 1) c2))) :=
            HB4.out.trans ((Fr.row _ _ _).below HB4.out.size (fun k hk => by omega))
          have HO5 := Fr.owns (F := fun k => k = w.heap.size + 1) HO4.out (Fr.row _ _ (qC ⟨z', dur', cache', left', full', off', ops'⟩ (.slice la dur.length lc) (.slice a2 (cache'.length + 1) c2))) (fun k hk e => by have := (HO4.out.lt k hk).1; omega)
          have HQ : QLeft w B (.slice la dur.length lc) (.slice ca cache.length cc) (addS ⟨z', dur', cache', left', full', off', ops'⟩ ⟨p, s⟩) _ (.slice la dur.length lc) (.slice a2 (cache'.length + 1) c2) := ⟨⟨owns_below HIX.out.l HB5, by
            show World.ownsRow _ B wqT 2 _ (cache' ++ [Wr.mk p s]).length _
            rw [show (cache' ++ [Wr.mk p s]).length = cache'.length + 1 by simp]
            exact owns_base HO5 (by omega)⟩, HB5, New.refl _ _, New.fresh (fun k hk => by have := (HO4.out.lt k hk).1; omega)⟩
          exact bodyPost_ret (v := .tuple #[qV (addS ⟨z', dur', cache', left', full', off', ops'⟩ ⟨p, s⟩) (.slice la dur.length lc) (.slice a2 (cache'.length + 1) c2), .int .i64 0]) (results_row2 Try.results21 _ _ (w.heap.size + 1) qT _ (0, 0) _ rfl (HZ4.out.setRow _) Try.underlying33 rfl sizeQ) rfl ⟨_, _, rfl, HQ⟩
        · rw [put_full hr rfl hl rfl]
          rw [decide_eq_false hl] at HO
          have HIX : Hid (IsQ w B (.slice la dur.length lc) (.slice ca cache.length cc) (opS ⟨z, dur, cache, left, true, false, ops⟩)) := ⟨HI.out.l, HI.out.c⟩
          generalize opS ⟨z, dur, cache, left, true, false, ops⟩ = X at HO HIX ⊢
          obtain ⟨z', dur', cache', left', full', off', ops'⟩ := X
          clear hr hl HX
          go_enter Try.func21, Try.ntmps21
          go_wp2_with fail
          refine HO.out.mono ?_
          rintro e w1 ⟨rfl, hb1⟩
          have L0 : Lies w1 w.heap.size (qC ⟨z, dur, cache, left, true, false, ops⟩ (.slice la dur.length lc) (.slice ca cache.length cc)) qT := ((Lies.new w _ _).same (Below.heap_alloc _ _ _ (by simp))).same (hb1.block _ (by simp; omega))
          have L1 : Lies w1 (w.heap.size + 1) zQ qT := (show Lies _ (w.heap.size + 1) _ _ from new_at (by simp)).same (hb1.block _ (by simp))
          have hb0 : Below w.heap.size w w1 := (boxes _ _).trans (hb1.mono (by simp; omega))
          have HB0 := Lib.hid hb0
          have HL1 := Lib.hid L1
          have k2 : w1.cell? ⟨w.heap.size, 2, none⟩ = some (.slice ca cache.length cc) := L0.cell 2
          have k5 : w1.cell? ⟨w.heap.size, 5, none⟩ = some (.bool true) := L0.cell 5
          have hlt0 := L0.lt
          have hs1 := hb0.size
          have hlt := L1.lt
          clear hb1 hb0 L0 L1
          go_wp2_with (refine wpList_store_row rfl 33 (.tmp 6) (.tmp 41) rfl (w.heap.size + 1) (qC ⟨z', dur', cache', left', full', off', ops'⟩ (.slice la dur.length lc) (.slice ca cache.length cc)) rfl rfl qT _ (HL1.out.same (Below.heap_alloc _ _ _ hlt)) sizeQ rfl (qC_one _ _ _ _ _ _ _) ?_)
          exact bodyPost_ret (v := .tuple #[qV ⟨z', dur', cache', left', full', off', ops'⟩ (.slice la dur.length lc) (.slice ca cache.length cc), .int .i64 81]) (results_row2 Try.results21 _ _ (w.heap.size + 1) qT _ (0, 0) _ rfl (Lies.setRow (HL1.out.same (Below.heap_alloc _ _ _ hlt)) _) Try.underlying33 rfl sizeQ) rfl ⟨_, _, rfl, QLeft.same HIX.out ((HB0.out.alloc hs1 _).trans ((Fr.row _ _ _).below (by simp; omega) (fun k hk => by omega)))⟩
    · rw [put_off hr ho]
      obtain ⟨z, dur, cache, left, full, off, ops⟩ := S
      obtain rfl : off = true := ho
      clear h hr
      go_enter Try.func21, Try.ntmps21
      go_wp2_with fail
      exact bodyPost_ret (v := .tuple #[qV ⟨z, dur, cache, left, full, true, ops⟩ (.slice la dur.length lc) (.slice ca cache.length cc), .int .i64 80]) (results_row2 Try.results21 _ _ (w.heap.size + 1) qT _ (0, 0) _ rfl (new_at (by simp)) Try.underlying33 rfl sizeQ) rfl ⟨_, _, rfl, QLeft.same HI.out (boxes _ _)⟩
end Go.Proofs.Ytebiebbbkdbffaa.Disk
