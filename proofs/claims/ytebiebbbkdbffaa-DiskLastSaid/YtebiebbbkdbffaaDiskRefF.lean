/-
  The document's disk: Flush.
-/
import Derived.Test.YtebiebbbkdbffaaDiskRefE
namespace Go.Proofs.Ytebiebbbkdbffaa.Disk
open Go Go.RowKit
open Go.Proofs.Ytebiebbbkdbffaa.Sha (Kept wp_region_drawn_tail wp_region_kept_tail quiet_load_row)

theorem Lies.range {w : World} {b : Nat} {cs : Array Value} {t : TypeId} (h : Lies w b cs t) : w.rangeAt b 0 cs.toList := fun j x hx => by
  rw [Nat.zero_add]
  exact (h.cell j).trans (by simpa using hx)
theorem range_below {w w' : World} {B b o : Nat} {cs : List Value} (h : w.rangeAt b o cs) (hb : Below B w w') (hB : b < B) : w'.rangeAt b o cs := fun j x hx => by
  rw [hb.cell (p := ⟨b, o + j, none⟩) hB]
  exact h j x hx
/-- One operation of a quiet walk: a single cell is read. -/
theorem quiet_load_slice {P : Program} {C : World → Prop} {o : Oper} {a : Act} {K : Act → Prop} (ty e : TypeId) (x : Operand) (ho : o.op = .load ty x) (p : Addr) (hx : a.eval x = .pointer (some p)) (v : Value)
    (hc : ∀ w, C w → w.cell? p = some v) (hu : P.underlying ty = some (.slice e)) (h : K (a.put o.dst v)) : o.quiet P a C K :=
  ⟨_, fun w hw => by
    have h1 := hc w hw
    unfold Oper.quietAt execOp
    simp [ho, hx, Instr.loadAt, Instr.sureAddr, loadVar, isAgg, run_underlying hu, h1]
    exact ⟨rfl, rfl⟩, h⟩
theorem quiet_load_text {P : Program} {C : World → Prop} {o : Oper} {a : Act} {K : Act → Prop} (ty : TypeId) (x : Operand) (ho : o.op = .load ty x) (p : Addr) (hx : a.eval x = .pointer (some p)) (v : Value)
    (hc : ∀ w, C w → w.cell? p = some v) (hu : P.underlying ty = some .string) (h : K (a.put o.dst v)) : o.quiet P a C K :=
  ⟨_, fun w hw => by
    have h1 := hc w hw
    unfold Oper.quietAt execOp
    simp [ho, hx, Instr.loadAt, Instr.sureAddr, loadVar, isAgg, run_underlying hu, h1]
    exact ⟨rfl, rfl⟩, h⟩
theorem quiet_load_int {P : Program} {C : World → Prop} {o : Oper} {a : Act} {K : Act → Prop} (ty : TypeId) (x : Operand) (ho : o.op = .load ty x) (p : Addr) (hx : a.eval x = .pointer (some p)) (v : Value) (q : IntKind)
    (hc : ∀ w, C w → w.cell? p = some v) (hu : P.underlying ty = some (.int q)) (h : K (a.put o.dst v)) : o.quiet P a C K :=
  ⟨_, fun w hw => by
    have h1 := hc w hw
    unfold Oper.quietAt execOp
    simp [ho, hx, Instr.loadAt, Instr.sureAddr, loadVar, isAgg, run_underlying hu, h1]
    exact ⟨rfl, rfl⟩, h⟩
def durS (X : St) (D : List ByteArray) : St := ⟨X.z, D, X.cache, X.left, X.full, X.off, X.ops⟩
def clrS (X : St) (D : List ByteArray) : St := ⟨X.z, D, [], X.left, X.full, X.off, X.ops⟩
/-- In the midst of a flush (or a crash) of the document's. -/
structure InLand (w : World) (B : Nat) (cv : Value) (S X : St) (xb : Nat) (lv lv' : Value) (wr : World) : Prop where
  self : Lies wr w.heap.size (qC S lv cv) qT
  res : Lies wr (w.heap.size + 1) zQ qT
  x : Lies wr xb (qC X lv' cv) qT
  l : wr.ownsRow B strT 1 lv' X.dur.length (X.dur.map Value.string)
  c : wr.ownsRow B wqT 2 cv S.cache.length (S.cache.flatMap wC)
  new : New w lv lv'
  below : Below w.heap.size w wr
  lt : w.heap.size + 1 < xb
  clt : ∀ k, cv.ownBlock = some k → k < w.heap.size
  lne : ∀ k, lv'.ownBlock = some k → k < w.heap.size ∨ xb < k
theorem InLand.frame {w : World} {B : Nat} {cv : Value} {S X : St} {xb : Nat} {lv lv' : Value} {wr w2 : World} (h : InLand w B cv S X xb lv lv' wr) (hb : Below wr.heap.size wr w2) : InLand w B cv S X xb lv lv' w2 :=
  ⟨h.self.same (hb.block _ h.self.lt), h.res.same (hb.block _ h.res.lt), h.x.same (hb.block _ h.x.lt), owns_below h.l hb, owns_below h.c hb, h.new, h.below.trans (hb.mono h.below.size), h.lt, h.clt, h.lne⟩
section
variable {w : World} {B : Nat} {cv : Value} {S X : St} {xb : Nat} {lv lv1 : Value}
theorem InLand.next {W2 w3 : World} {lv2 : Value} {D : List ByteArray} (h : InLand w B cv S X xb lv lv1 W2) (hb3 : Below W2.heap.size W2 w3) (ho : w3.ownsRow W2.heap.size strT 1 lv2 D.length (D.map Value.string)) (hB : B ≤ w.heap.size) :
    InLand w B cv S (durS X D) xb lv lv2 (w3.setRow xb (qC (durS X D) lv2 cv)) := by
  have h3 := h.frame hb3
  have hs := h.below.size
  have hx := h.x.lt
  have hl := h.lt
  refine ⟨h3.self.row_other _ (by omega), h3.res.row_other _ (by omega), h3.x.setRow _, ?_, ?_, New.fresh fun k hk => ?_, h3.below.trans ((Fr.row w3 xb _).below h3.below.size fun k hk => by omega), h.lt, h.clt, fun k hk => .inr (by have := (ho.lt k hk).1; omega)⟩
  · exact owns_base (Fr.owns (F := fun k => k = xb) ho (Fr.row _ _ _) fun k hk e => by have := (ho.lt k hk).1; omega) (by omega)
  · exact Fr.owns (F := fun k => k = xb) h3.c (Fr.row _ _ _) fun k hk e => by have := h.clt k hk; omega
  · have := (ho.lt k hk).1
    omega
/-- The cache dropped, and the whole handed on. -/
theorem InLand.done {wr : World} (h : InLand w B cv S X xb lv lv1 wr) (_hB : B ≤ w.heap.size) :
    Lies (wr.setCell ⟨xb, 2, none⟩ (.slice none 0 0)) xb (qC X lv1 (.slice none 0 0)) qT ∧ Lies (wr.setCell ⟨xb, 2, none⟩ (.slice none 0 0)) (w.heap.size + 1) zQ qT ∧
      QLeft w B lv cv (clrS X X.dur) ((wr.setCell ⟨xb, 2, none⟩ (.slice none 0 0)).setRow (w.heap.size + 1) (qC X lv1 (.slice none 0 0))) lv1 (.slice none 0 0) := by
  have hs := h.below.size
  have hl := h.lt
  have hx := h.x.lt
  refine ⟨h.x.set 2 _, h.res.other _ (by omega), ⟨⟨?_, World.ownsRow_nil _ _ _ _⟩, ?_, h.new, fun k hk => by simp [Value.ownBlock] at hk⟩⟩
  · have h1 := Fr.owns (F := fun k => k = xb) h.l (Fr.one wr xb 2 (.slice none 0 0)) fun k hk e => by have := h.lne k hk; omega
    exact Fr.owns (F := fun k => k = w.heap.size + 1) h1 (Fr.row _ _ _) fun k hk e => by have := h.lne k hk; omega
  · exact (h.below.setCell (by show w.heap.size ≤ xb; omega) _).trans ((Fr.row _ _ _).below (by simp [World.setCell]; omega) fun k hk => by omega)
end
theorem flush_ok' {S : St} (ho : S.off = false) (hl : S.left ≠ 1) : flushS S = (clrS (opS S) (con S), 0) := flush_ok ho hl
set_option maxRecDepth 100000 in
set_option maxHeartbeats 4000000 in
theorem flushQ_any (w : World) (B : Nat) (lv cv : Value) (S : St) (h : IsQ w B lv cv S) (ok : Ok S) (hn : S.ops < 1000000) (hB : B ≤ w.heap.size) (hpos : 0 < S.dur.length) :
    Calls Try.prog 22 #[qV S lv cv] w fun e w' => ∃ lv' cv', e = .returned (.tuple #[qV (flushS S).1 lv' cv', .int .i64 (flushS S).2]) ∧ QLeft w B lv cv (flushS S).1 w' lv' cv' := by
  obtain ⟨la, lc, rfl⟩ := owns_slice h.l
  obtain ⟨ca, cc, rfl⟩ := owns_slice h.c
  have HI := Lib.hid h
  cases ho : S.off
  · have HO := Lib.hid (operation_any ((w.alloc (.cells (qC S (.slice la S.dur.length lc) (.slice ca S.cache.length cc)) qT)).alloc (.cells zQ qT)) S la ca S.dur.length lc S.cache.length cc ho hn ok.left)
    by_cases hl : S.left = 1
    · rw [flush_cut ho hl]
      rw [decide_eq_true hl] at HO
      have HIX : Hid (IsQ w B (.slice la S.dur.length lc) (.slice ca S.cache.length cc) (opS S)) := ⟨HI.out.l, HI.out.c⟩
      obtain ⟨z, dur, cache, left, full, off, ops⟩ := S
      obtain rfl : off = false := ho
      generalize opS ⟨z, dur, cache, left, full, false, ops⟩ = X at HO HIX ⊢
      obtain ⟨z', dur', cache', left', full', off', ops'⟩ := X
      clear h hl
      go_enter Try.func22, Try.ntmps22
      go_wp2_with fail
      refine HO.out.mono ?_
      rintro e w1 ⟨rfl, hb1⟩
      have L1 : Lies w1 (w.heap.size + 1) zQ qT := (show Lies _ (w.heap.size + 1) _ _ from new_at (by simp)).same (hb1.block _ (by simp))
      have hb0 : Below w.heap.size w w1 := (boxes _ _).trans (hb1.mono (by simp; omega))
      have HB0 := Lib.hid hb0
      have HL1 := Lib.hid L1
      have hs1 := hb0.size
      have hlt := L1.lt
      clear hb1 hb0 L1
      go_wp2_with (refine wpList_store_row rfl 33 (.tmp 2) (.tmp 16) rfl (w.heap.size + 1) (qC ⟨z', dur', cache', left', full', off', ops'⟩ (.slice la dur.length lc) (.slice ca cache.length cc)) rfl rfl qT _ (HL1.out.same (Below.heap_alloc _ _ _ hlt)) sizeQ rfl (qC_one _ _ _ _ _ _ _) ?_)
      exact bodyPost_ret (v := .tuple #[qV ⟨z', dur', cache', left', full', off', ops'⟩ (.slice la dur.length lc) (.slice ca cache.length cc), .int .i64 80]) (results_row2 Try.results22 _ _ (w.heap.size + 1) qT _ (0, 0) _ rfl (Lies.setRow (HL1.out.same (Below.heap_alloc _ _ _ hlt)) _) Try.underlying33 rfl sizeQ) rfl ⟨_, _, rfl, QLeft.same HIX.out ((HB0.out.alloc hs1 _).trans ((Fr.row _ _ _).below (by simp; omega) (fun k hk => by omega)))⟩
    · rw [flush_ok' ho hl]
      rw [decide_eq_false hl] at HO
      have HXD : Hid ((opS S).dur = S.dur) := rfl
      have HFT := Lib.hid ok.fit
      have HFW := Lib.hid ok.few
      have hcl : S.cache.length ≤ 1000000 := Nat.le_trans ok.cache ok.ops
      have HCN : Hid (con S = landL S.dur S.cache) := rfl
      obtain ⟨z, dur, cache, left, full, off, ops⟩ := S
      obtain rfl : off = false := ho
      generalize opS ⟨z, dur, cache, left, full, false, ops⟩ = X at HO HXD ⊢
      obtain ⟨z', dur', cache', left', full', off', ops'⟩ := X
      obtain rfl : dur' = dur := HXD.out
      clear h hl HXD
      go_enter Try.func22, Try.ntmps22
      go_wp2_with fail
      refine HO.out.mono ?_
      rintro e w1 ⟨rfl, hb1⟩
      have L0 : Lies w1 w.heap.size (qC ⟨z, dur', cache, left, full, false, ops⟩ (.slice la dur'.length lc) (.slice ca cache.length cc)) qT := ((Lies.new w _ _).same (Below.heap_alloc _ _ _ (by simp))).same (hb1.block _ (by simp; omega))
      have L1 : Lies w1 (w.heap.size + 1) zQ qT := (show Lies _ (w.heap.size + 1) _ _ from new_at (by simp)).same (hb1.block _ (by simp))
      have hb0 : Below w.heap.size w w1 := (boxes _ _).trans (hb1.mono (by simp; omega))
      have hlt := L1.lt
      have HS : Hid (InLand w B (.slice ca cache.length cc) ⟨z, dur', cache, left, full, false, ops⟩ ⟨z', dur', cache', left', full', off', ops'⟩ w1.heap.size (.slice la dur'.length lc) (.slice la dur'.length lc) (w1.alloc (.cells (qC ⟨z', dur', cache', left', full', off', ops'⟩ (.slice la dur'.length lc) (.slice ca cache.length cc)) qT))) :=
        ⟨L0.same (Below.heap_alloc _ _ _ L0.lt), L1.same (Below.heap_alloc _ _ _ L1.lt), Lies.new _ _ _, (owns_below HI.out.l hb0).alloc _, (owns_below HI.out.c hb0).alloc _, New.refl _ _, hb0.alloc hb0.size _, hlt, fun k hk => (HI.out.c.lt k hk).2, fun k hk => .inl (HI.out.l.lt k hk).2⟩
      clear hb1 hb0 L0 L1
      go_wp2_with fail
      go_loopw [6] (fun i wr => ∃ (k : Nat) (a : Option Addr) (c : Nat), k ≤ cache.length ∧ i = .int .i64 k ∧ InLand w B (.slice ca cache.length cc) ⟨z, dur', cache, left, full, false, ops⟩ ⟨z', landL dur' (cache.take k), cache', left', full', off', ops'⟩ w1.heap.size (.slice la dur'.length lc) (.slice a dur'.length c) wr) (fun i _ => cache.length - (intOf i).toNat)
      case atStart => exact ⟨0, la, lc, Nat.zero_le _, rfl, HS.out⟩
      case round =>
        obtain ⟨k, a, c, hk, rfl, hM⟩ := hrel
        have HM := Lib.hid hM
        have k2 : wr.cell? ⟨w.heap.size, 2, none⟩ = some (.slice ca cache.length cc) := hM.self.cell 2
        clear hM
        by_cases hlt2 : k < cache.length
        · obtain ⟨x, hx⟩ : ∃ x, cache[k]? = some x := ⟨cache[k], List.getElem?_eq_getElem hlt2⟩
          obtain ⟨g, c2, hv, hg2, k0, k1, hrg⟩ := owns_writeQ HM.out.c hx
          obtain ⟨rfl, -, rfl⟩ := Value.slice.inj hv
          have HRX : Hid (∀ W, Kept wr W → W.rangeAt w1.heap.size 0 [.int .i64 z', .slice a dur'.length c, .slice (some ⟨g, 0, none⟩) cache.length cc, .int .i64 left', .bool off', .bool full', .int .i64 ops']) := fun W hK => range_below HM.out.x.range hK.below HM.out.x.lt
          have HRG : Hid (∀ W, Kept wr W → W.rangeAt g (k * 2) [.int .i64 x.p, .string x.s]) := fun W hK => range_below hrg hK.below hg2
          have HK2 : Hid (∀ W, Kept wr W → W.cell? ⟨w.heap.size, 2, none⟩ = some (.slice (some ⟨g, 0, none⟩) cache.length cc)) := fun W hK => (hK.below.cell (p := ⟨w.heap.size, 2, none⟩) HM.out.self.lt).trans (HM.out.self.cell 2)
          have HX := Lib.hid (HFT.out.wr x (List.mem_of_getElem? hx)).1
          have HT := Lib.hid (landL_take (L := dur') hx)
          have hk2' : (k : Int) < (cache.length : Int) := by omega
          clear hv hx hrg k0 k1
          go_wp2_with fail
          refine wp_region_kept_tail 6 (by kernel_rfl) (by kernel_rfl) ?_
          simp only [List.take_succ_cons, List.take_zero, List.drop_succ_cons, List.drop_zero]
          go_big_quiet_want
          refine quiet_load_row 33 (.tmp 4) rfl w1.heap.size 0 rfl [.int .i64 z', .slice a dur'.length c, .slice (some ⟨g, 0, none⟩) cache.length cc, .int .i64 left', .bool off', .bool full', .int .i64 ops'] _ (fun w' hk => HRX.out w' hk) Try.underlying33 rfl sizeQ ?_
          go_simp
          go_big_quiet_on
          repeat (go_big_quiet_step (exact fun _ => rfl))
          go_big_quiet_want
          refine quiet_load_slice 31 wqT (.tmp 25) rfl ⟨w.heap.size, 2, none⟩ rfl (.slice (some ⟨g, 0, none⟩) cache.length cc) (fun w' hk => HK2.out w' hk) Try.underlying31 ?_
          go_simp
          go_big_quiet_on
          repeat (go_big_quiet_step (exact fun _ => rfl))
          go_big_quiet_want
          refine quiet_load_row 50 (.tmp 28) rfl g (k * 2) rfl [.int .i64 x.p, .string x.s] _ (fun w' hk => HRG.out w' hk) Try.underlying50 rfl sizeWq ?_
          go_simp
          go_big_quiet_on
          refine wpQuiet_nil ?_
          intro W2 hk2
          have HM2 := Lib.hid (HM.out.frame hk2.below)
          have HLD := Lib.hid (land_any W2 B (.slice a dur'.length c) ⟨z', landL dur' (cache.take k), cache', left', full', off', ops'⟩ (some ⟨g, 0, none⟩) cache.length cc x HM2.out.l (by rw [landL_length]; exact HX.out) (by rw [landL_length]; exact HFW.out))
          clear hk2
          go_wp2_with fail
          refine HLD.out.mono ?_
          rintro r w3 ⟨lv2, rfl, hO3, hb3⟩
          rw [List.length_set, landL_length] at hO3
          obtain ⟨a2, c2, rfl⟩ := owns_slice hO3
          have hO3' : w3.ownsRow W2.heap.size strT 1 (.slice a2 dur'.length c2) (landL dur' (cache.take (k + 1))).length ((landL dur' (cache.take (k + 1))).map Value.string) := by
            rw [landL_length, HT.out]
            exact hO3
          have HX3 := Lib.hid (HM2.out.frame hb3).x
          have HZ : Hid (InLand w B _ _ (durS ⟨z', landL dur' (cache.take k), cache', left', full', off', ops'⟩ (landL dur' (cache.take (k + 1)))) w1.heap.size _ (.slice a2 dur'.length c2) _) := HM2.out.next hb3 hO3' hB
          clear hO3 hO3' hb3
          go_wp2_with (refine wpList_store_row rfl 33 (.tmp 4) (.tmp 30) rfl w1.heap.size (qC ⟨z', landL dur' (cache.take k), cache', left', full', off', ops'⟩ (.slice a2 dur'.length c2) (.slice (some ⟨g, 0, none⟩) cache.length cc)) rfl rfl qT _ HX3.out sizeQ rfl (qC_one _ _ _ _ _ _ _) ?_)
          go_roundw
          case rel => exact ⟨k + 1, a2, c2, by omega, by simp, HZ.out⟩
          case measure => simp [intOf]; omega
        · have e : landL dur' (cache.take k) = landL dur' cache := by rw [List.take_of_length_le (by omega)]
          have hM := HM.out
          rw [e] at hM
          have HD := Lib.hid (hM.done hB)
          have x2 : wr.cell? ⟨w1.heap.size, 2, none⟩ = some (.slice ca cache.length cc) := hM.x.cell 2
          have xf := hM.x.free 2
          clear hM e
          go_wp2_with (first
            | (refine wpList_load_row rfl 33 (.tmp 4) rfl w1.heap.size rfl qT (qC ⟨z', landL dur' cache, cache', left', full', off', ops'⟩ (.slice a dur'.length c) (.slice none 0 0)) (0, 0) _ HD.out.1 Try.underlying33 rfl sizeQ ?_)
            | (refine wpList_store_row rfl 33 (.tmp 2) (.tmp 32) rfl (w.heap.size + 1) (qC ⟨z', landL dur' cache, cache', left', full', off', ops'⟩ (.slice a dur'.length c) (.slice none 0 0)) rfl rfl qT _ HD.out.2.1 sizeQ rfl (qC_one _ _ _ _ _ _ _) ?_))
          exact bodyPost_ret (v := .tuple #[qV (clrS ⟨z', dur', cache', left', full', off', ops'⟩ (landL dur' cache)) (.slice a dur'.length c) (.slice none 0 0), .int .i64 0]) (results_row2 Try.results22 _ _ (w.heap.size + 1) qT _ (0, 0) _ rfl (Lies.setRow HD.out.2.1 _) Try.underlying33 rfl sizeQ) rfl ⟨_, _, rfl, HD.out.2.2⟩
  · rw [flush_off ho]
    obtain ⟨z, dur, cache, left, full, off, ops⟩ := S
    obtain rfl : off = true := ho
    clear h
    go_enter Try.func22, Try.ntmps22
    go_wp2_with fail
    exact bodyPost_ret (v := .tuple #[qV ⟨z, dur, cache, left, full, true, ops⟩ (.slice la dur.length lc) (.slice ca cache.length cc), .int .i64 80]) (results_row2 Try.results22 _ _ (w.heap.size + 1) qT _ (0, 0) _ rfl (new_at (by simp)) Try.underlying33 rfl sizeQ) rfl ⟨_, _, rfl, QLeft.same HI.out (boxes _ _)⟩
end Go.Proofs.Ytebiebbbkdbffaa.Disk
