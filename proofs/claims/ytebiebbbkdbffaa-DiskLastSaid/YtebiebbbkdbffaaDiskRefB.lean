/-
  The document's disk: a write that lands.
-/
import Derived.Test.YtebiebbbkdbffaaDiskRefA
namespace Go.Proofs.Ytebiebbbkdbffaa.Disk
open Go Go.RowKit
open Go.Proofs.Ytebiebbbkdbffaa.Sha (wp_region_drawn_tail wp_region_kept_tail quiet_load_row)

theorem append_empty_s (w : World) (b cap : Nat) : (Builtin.append_ #[30, 30] 30 #[.slice (some ⟨b, 0, none⟩) 0 0, .slice none 0 cap]).run Try.prog w = .ok (.slice (some ⟨b, 0, none⟩) 0 0) w := by kernel_rfl
theorem append_empty_w (w : World) (b cap : Nat) : (Builtin.append_ #[31, 31] 31 #[.slice (some ⟨b, 0, none⟩) 0 0, .slice none 0 cap]).run Try.prog w = .ok (.slice (some ⟨b, 0, none⟩) 0 0) w := by kernel_rfl
theorem info_of {e : TypeId} {n b : Nat} (h : (Try.prog.info? e).map (fun i => (i.zero.map (·.cells.size), i.size, i.bytes)) = some (some n, n, b)) : ∃ i z, Try.prog.info? e = some i ∧ i.zero = some z ∧ i.size = n ∧ i.bytes = b ∧ z.cells.size = n := by
  cases hi : Try.prog.info? e with
  | none => rw [hi] at h; cases h
  | some i =>
    rw [hi] at h
    have h0' : i.zero.map (·.cells.size) = some n ∧ i.size = n ∧ i.bytes = b := by simpa using h
    obtain ⟨hz, hs, hb⟩ := h0'
    obtain ⟨z, hz1, hz2⟩ := Option.map_eq_some_iff.1 hz
    exact ⟨i, z, rfl, hz1, hs, hb, hz2⟩
/-- A list appended to an empty one that was just laid: a copy of its own. -/
theorem append_made {sT e : TypeId} {size bytes : Nat} (ht : Try.prog.underlying sT = some (.slice e)) (hi : (Try.prog.info? e).map (fun i => (i.zero.map (·.cells.size), i.size, i.bytes)) = some (some size, size, bytes)) (hsz : 0 < size) (hby : bytes ≤ 24)
    (h0 : ∀ (w : World) (b cap : Nat), (Builtin.append_ #[sT, sT] sT #[.slice (some ⟨b, 0, none⟩) 0 0, .slice none 0 cap]).run Try.prog w = .ok (.slice (some ⟨b, 0, none⟩) 0 0) w)
    (w : World) (B n : Nat) (v : Value) (xs : List Value) (ho : w.ownsRow B e size v n xs) (h1 : ∀ u ∈ xs, u.oneCell' = true) (hn : n ≤ 2000000) :
    ∃ v' w', (Builtin.append_ #[sT, sT] sT #[.slice (some ⟨w.heap.size, 0, none⟩) 0 0, v]).run Try.prog (w.alloc (.cells #[] e)) = .ok v' w' ∧ w'.ownsRow w.heap.size e size v' n xs ∧ Below w.heap.size w w' ∧ (∀ g, v'.ownBlock = some g → w.heap.size ≤ g) := by
  have hown : (w.alloc (.cells #[] e)).ownsRow w.heap.size e size (.slice (some ⟨w.heap.size, 0, none⟩) 0 0) 0 [] :=
    ⟨by simp, .inr ⟨w.heap.size, 0, #[], rfl, Nat.le_refl _, heap_alloc_new _ _, Nat.le_refl _, by decide, by simp, by simp⟩⟩
  have hb : Below w.heap.size w (w.alloc (.cells #[] e)) := (Below.refl _ _).alloc (Nat.le_refl _) _
  have ho' := ho.alloc (.cells #[] e)
  obtain ⟨i, z, hi, hz1, hs, hby', hz2⟩ := info_of hi
  rcases ho'.2 with ⟨rfl, rfl⟩ | ⟨g, cap, cur, rfl, _⟩
  · have hx : xs = [] := List.eq_nil_of_length_eq_zero (by simpa using ho.1)
    subst hx
    exact ⟨_, _, h0 _ _ 0, hown, hb, fun g hg => (hown.lt g hg).1⟩
  · have hB : bytes * n ≤ 24 * 2000000 := Nat.mul_le_mul hby hn
    obtain ⟨v', w', hr, h2, h3, _, h5⟩ := run_append_own_at (P := Try.prog) (w.alloc (.cells #[] e)) w.heap.size sT sT e i z size bytes ht hi hz1 hs hby' hz2 hsz _ 0 [] hown ⟨g, 0, none⟩ n cap xs ho.1 (fun j u hu => ho'.cells (g := g) rfl j u hu) h1 (by unfold maxLen; omega) (by rw [Nat.zero_add, Nat.mul_comm]; omega) (by simp)
    refine ⟨v', w', hr, by simpa using h2, hb.grown h3 (by simp) (fun k hk => (hown.lt k hk).1), fun j hj => ?_⟩
    rcases h5 with h5 | h5
    · rw [h5] at hj; exact (hown.lt j hj).1
    · rw [h5] at hj
      obtain rfl := Option.some.inj hj
      simp
theorem infoS : (Try.prog.info? 9).map (fun i => (i.zero.map (·.cells.size), i.size, i.bytes)) = some (some 1, 1, 16) := by kernel_rfl
theorem strs_one (L : List ByteArray) : ∀ u ∈ L.map Value.string, u.oneCell' = true := by
  intro u hu
  obtain ⟨s, _, rfl⟩ := List.mem_map.1 hu
  rfl
theorem flat_one (ws : List Wr) : ∀ u ∈ ws.flatMap wC, u.oneCell' = true := by
  intro u hu
  obtain ⟨x, _, hx⟩ := List.mem_flatMap.1 hu
  exact wC_one x u hx
theorem owns_base {w : World} {B B' : Nat} {t : TypeId} {z n : Nat} {v : Value} {xs : List Value} (h : w.ownsRow B t z v n xs) (hB : B' ≤ B) : w.ownsRow B' t z v n xs := by
  refine ⟨h.1, ?_⟩
  rcases h.2 with h2 | ⟨g, cap, cur, rfl, hb, r⟩
  · exact .inl h2
  · exact .inr ⟨g, cap, cur, rfl, Nat.le_trans hB hb, r⟩
theorem Fr.row (w : World) (b : Nat) (cs : Array Value) : Fr (fun k => k = b) w (w.setRow b cs) :=
  ⟨rfl, rfl, rfl, by simp, fun k _ hk => setRow_other w b k cs hk⟩
theorem Lies.setRow {w : World} {b : Nat} {cs : Array Value} {t : TypeId} (h : Lies w b cs t) (cs' : Array Value) : Lies (w.setRow b cs') b cs' t := setRow_heap w b cs cs' t (0, 0) h
theorem Lies.row_other {w : World} {b c : Nat} {cs : Array Value} {t : TypeId} (h : Lies w b cs t) (cs' : Array Value) (hne : b ≠ c) : Lies (w.setRow c cs') b cs t := h.same (setRow_other w c b cs' hne)
/-- An owned list that is not empty: its block. -/
theorem owns_block {w : World} {B : Nat} {t : TypeId} {n : Nat} {v : Value} {xs : List Value} (h : w.ownsRow B t 1 v n xs) (hn : 0 < n) :
    ∃ g c, v = .slice (some ⟨g, 0, none⟩) n c ∧ B ≤ g ∧ g < w.heap.size ∧ (∀ j u, xs[j]? = some u → w.cell? ⟨g, j, none⟩ = some u) ∧ ∀ j, w.frozen? ⟨g, j, none⟩ = false := by
  rcases h.2 with ⟨_, h0⟩ | ⟨g, cap, cur, hv, hb, hg, h2⟩
  · omega
  · refine ⟨g, cap, hv, hb, (Array.getElem?_eq_some_iff.1 hg).1, fun j u hu => ?_, fun j => frozen_of_row w g j cur t hg⟩
    have := h.cells (g := g) (by rw [hv]; rfl) j u hu
    rwa [addr_add, Nat.zero_add] at this
/-- The document's disk, as a value and in memory. -/
structure IsQ (w : World) (B : Nat) (lv cv : Value) (S : St) : Prop where
  l : w.ownsRow B strT 1 lv S.dur.length (S.dur.map Value.string)
  c : w.ownsRow B wqT 2 cv S.cache.length (S.cache.flatMap wC)
theorem qC_one (S : St) (la ca : Option Addr) (ln lc cn cc : Nat) : (qC S (.slice la ln lc) (.slice ca cn cc)).all (·.oneCell') = true := by simp [qC, Value.oneCell']
abbrev lens (S : St) : Prop := S.dur.length ≤ 4096 ∧ S.cache.length ≤ 1000000
set_option maxRecDepth 100000 in
set_option maxHeartbeats 2000000 in
theorem land_any (w : World) (B : Nat) (lv : Value) (S : St) (ca : Option Addr) (cn cc : Nat) (x : Wr) (h : w.ownsRow B strT 1 lv S.dur.length (S.dur.map Value.string)) (hx : x.p < S.dur.length) (hl : S.dur.length ≤ 4096) :
    Calls Try.prog 40 #[qV S lv (.slice ca cn cc), wV x] w fun e w' => ∃ lv', e = .returned (qV { S with dur := S.dur.set x.p x.s } lv' (.slice ca cn cc)) ∧
      w'.ownsRow w.heap.size strT 1 lv' (S.dur.set x.p x.s).length ((S.dur.set x.p x.s).map Value.string) ∧ Below w.heap.size w w' := by
  obtain ⟨la, lc, rfl⟩ := owns_slice h
  have HH := Lib.hid h
  have ho3 := ((h.alloc (.cells (qC S (.slice la S.dur.length lc) (.slice ca cn cc)) qT)).alloc (.cells #[.int .i64 x.p, .string x.s] wqT)).alloc (.cells #[.int .i64 0, .slice none 0 0, .slice none 0 0, .int .i64 0, .bool false, .bool false, .int .i64 0] qT)
  obtain ⟨v', w2, hr, ho2, hb2, hf2⟩ := append_made Try.underlying30 infoS (by decide) (by decide) append_empty_s _ B _ _ _ ho3 (strs_one S.dur) (by omega)
  obtain ⟨g, c', rfl, hgb, hgs, hgc, hgf⟩ := owns_block ho2 (by omega)
  simp only [World.size_alloc] at hr hgb
  have hb0 : Below w.heap.size w w2 := (((Below.refl w.heap.size w).alloc (Nat.le_refl _) (.cells (qC S (.slice la S.dur.length lc) (.slice ca cn cc)) qT)).alloc (by simp) (.cells #[.int .i64 x.p, .string x.s] wqT)).alloc (by simp; omega) (.cells #[.int .i64 0, .slice none 0 0, .slice none 0 0, .int .i64 0, .bool false, .bool false, .int .i64 0] qT) |>.trans (hb2.mono (by simp; omega))
  have L0 : Lies w2 w.heap.size (qC S (.slice la S.dur.length lc) (.slice ca cn cc)) qT := ((((Lies.new w _ _).same (Below.heap_alloc _ _ _ (by simp))).same (Below.heap_alloc _ _ _ (by simp; omega)))).same (hb2.block _ (by simp; omega))
  have L1 : Lies w2 (w.heap.size + 1) #[.int .i64 x.p, .string x.s] wqT := ((show Lies _ (w.heap.size + 1) _ _ from new_at (w := w.alloc (.cells (qC S (.slice la S.dur.length lc) (.slice ca cn cc)) qT)) (by simp)).same (Below.heap_alloc _ _ _ (by simp))).same (hb2.block _ (by simp))
  have L2 : Lies w2 (w.heap.size + 1 + 1) #[.int .i64 0, .slice none 0 0, .slice none 0 0, .int .i64 0, .bool false, .bool false, .int .i64 0] qT := (show Lies _ (w.heap.size + 1 + 1) _ _ from new_at (by simp)).same (hb2.block _ (by simp))
  have HR := Lib.hid hr
  have k0 := L0.cell 1
  have kf := L0.free 1
  have m0 := L1.cell 0
  have m1 := L1.cell 1
  have gc : w2.cell? ⟨g, x.p, none⟩ = some (.string (at0 S.dur x.p)) := hgc _ _ (by rw [List.getElem?_map, List.getElem?_eq_getElem hx]; unfold at0; rw [List.getD_eq_getElem?_getD, List.getElem?_eq_getElem hx]; rfl)
  have gf := hgf x.p
  have HL4 : Hid (Lies ((w2.setCell ⟨w.heap.size, 1, none⟩ (.slice (some ⟨g, 0, none⟩) S.dur.length c')).setCell ⟨g, x.p, none⟩ (.string x.s)) w.heap.size (qC S (.slice (some ⟨g, 0, none⟩) S.dur.length c') (.slice ca cn cc)) qT) := (L0.set 1 _).other _ (by omega)
  have HL2 : Hid (Lies ((w2.setCell ⟨w.heap.size, 1, none⟩ (.slice (some ⟨g, 0, none⟩) S.dur.length c')).setCell ⟨g, x.p, none⟩ (.string x.s)) (w.heap.size + 1 + 1) #[.int .i64 0, .slice none 0 0, .slice none 0 0, .int .i64 0, .bool false, .bool false, .int .i64 0] qT) := (L2.other _ (by omega)).other _ (by omega)
  have HO : Hid (((w2.setCell ⟨w.heap.size, 1, none⟩ (.slice (some ⟨g, 0, none⟩) S.dur.length c')).setCell ⟨g, x.p, none⟩ (.string x.s)).ownsRow w.heap.size strT 1 (.slice (some ⟨g, 0, none⟩) S.dur.length c') S.dur.length ((S.dur.set x.p x.s).map Value.string)) := by
    have h1 := Fr.owns (F := fun k => k = w.heap.size) (owns_base ho2 (by simp; omega)) (Fr.one w2 _ 1 (.slice (some ⟨g, 0, none⟩) S.dur.length c')) (B := w.heap.size) (fun k hk e => by
      obtain rfl : g = k := by simpa [Value.ownBlock] using hk
      omega)
    rw [List.map_set]
    exact owns_set h1 rfl _ _ (by omega)
  have HB4 : Hid (Below w.heap.size w ((w2.setCell ⟨w.heap.size, 1, none⟩ (.slice (some ⟨g, 0, none⟩) S.dur.length c')).setCell ⟨g, x.p, none⟩ (.string x.s))) := (hb0.setCell (Nat.le_refl _) _).setCell (by show w.heap.size ≤ g; omega) _
  clear hr ho3 h ho2 hb2 hf2 hgc hgf hb0 L0 L1 L2
  go_enter Try.func40, Try.ntmps40
  go_wp2_with (first
    | (at_builtin; refine wpList_append_run rfl _ _ 30 rfl _ _ _ rfl rfl HR.out ?_)
    | (refine wpList_load_row rfl 33 (.tmp 2) rfl w.heap.size rfl qT (qC S (.slice (some ⟨g, 0, none⟩) S.dur.length c') (.slice ca cn cc)) (0, 0) _ HL4.out Try.underlying33 rfl sizeQ ?_)
    | (refine wpList_store_row rfl 33 (.tmp 4) (.tmp 17) rfl (w.heap.size + 1 + 1) (qC S (.slice (some ⟨g, 0, none⟩) S.dur.length c') (.slice ca cn cc)) rfl rfl qT _ HL2.out sizeQ rfl (qC_one _ _ _ _ _ _ _) ?_))
  have HO5 := Fr.owns (F := fun k => k = w.heap.size + 1 + 1) HO.out (Fr.row _ _ (qC S (.slice (some ⟨g, 0, none⟩) S.dur.length c') (.slice ca cn cc))) (fun k hk e => by
    obtain rfl : g = k := by simpa [Value.ownBlock] using hk
    omega)
  refine bodyPost_ret (v := qV S (.slice (some ⟨g, 0, none⟩) S.dur.length c') (.slice ca cn cc)) (results_cell_row Try.results40 _ _ (w.heap.size + 1 + 1) qT _ (0, 0) _ rfl (HL2.out.setRow _) Try.underlying33 rfl sizeQ) rfl ⟨.slice (some ⟨g, 0, none⟩) S.dur.length c', rfl, ?_, ?_⟩
  · rw [List.length_set]
    exact HO5
  · exact HB4.out.trans ((Fr.row _ _ _).below (by simp [World.setCell]; omega) (fun k hk => by omega))
end Go.Proofs.Ytebiebbbkdbffaa.Disk
