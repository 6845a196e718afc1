/-
  Walks of the program's disk, fourth part: put.
-/
import Derived.Test.YtebiebbbkdbffaaDiskWalkC
import Derived.Test.YtebiebbbkdbffaaDiskShelf
import Derived.Deep.RegionLaw
import Derived.Deep.AppendLies
namespace Go.Proofs.Ytebiebbbkdbffaa.Disk
open Go Go.RowKit
open Go.Proofs.Ytebiebbbkdbffaa.Sha (wp_region_drawn_tail wp_region_kept_tail quiet_load_row)

theorem infoWr : (Try.prog.info? 70).map (fun i => (i.zero.map (·.cells.size), i.size, i.bytes)) = some (some 2, 2, 24) := by kernel_rfl
theorem wC_one (x : Wr) : ∀ u ∈ wC x, u.oneCell' = true := by
  intro u hu
  unfold wC at hu
  simp only [List.mem_cons, List.not_mem_nil, or_false] at hu
  rcases hu with rfl | rfl <;> rfl
theorem info_wr : ∃ i z, Try.prog.info? 70 = some i ∧ i.zero = some z ∧ i.size = 2 ∧ i.bytes = 24 ∧ z.cells.size = 2 := by
  cases hi : Try.prog.info? 70 with
  | none => have := infoWr; rw [hi] at this; cases this
  | some i =>
    have h0 := infoWr
    rw [hi] at h0
    have h0' : i.zero.map (·.cells.size) = some 2 ∧ i.size = 2 ∧ i.bytes = 24 := by simpa using h0
    obtain ⟨hz, hs, hb⟩ := h0'
    obtain ⟨z, hz1, hz2⟩ := Option.map_eq_some_iff.1 hz
    exact ⟨i, z, rfl, hz1, hs, hb, hz2⟩
theorem step_append_run {P : Program} {ops : Array Oper} {o : Oper} {a : Act} {w w' : World} {K : Act → World → Prop} {Q : Exit → Act → World → Prop} {E : Prop}
    (hg : o.guard = none) (s x : Operand) (t : TypeId) (hop : o.op = Op.call { callee := Callee.builtin Builtin.append, args := #[s, x], argTypes := #[t, t] })
    (u v r : Value) (hs : a.eval s = u) (hx : a.eval x = v) (hrun : (Builtin.append_ #[t, t] o.type #[u, v]).run P w = .ok r w') (hK : K (a.put o.dst r) w') :
    if Region.wanted o (yielded ops a.tmps) = true then Oper.wp P o a w K Q else E := by
  have hw : Region.wanted o (yielded ops a.tmps) = true := by simp [Region.wanted, hg]
  rw [if_pos hw]
  unfold Oper.wp
  simp [execOp, hop, resolve, invoke, builtin, hs, hx, hrun, Result.andThen]
  exact hK
section
variable {w : World} {d : Dk} {R : Raw}
/-- One write, laid in block g, appended to an owned list of writes. -/
theorem append_wr (w : World) (B g : Nat) (v : Value) (ws : List Wr) (x : Wr) (hg : Lies w g #[.int .i64 x.p, .string x.s] wrT) (ho : w.ownsRow B wrT 2 v ws.length (ws.flatMap wC)) (hl : ws.length ≤ 2000000) (hB : B ≤ w.heap.size) :
    ∃ v' w', (Builtin.append_ #[53, 53] 53 #[v, .slice (some ⟨g, 0, none⟩) 1 1]).run Try.prog w = .ok v' w' ∧
      w'.ownsRow B wrT 2 v' (ws ++ [x]).length ((ws ++ [x]).flatMap wC) ∧ w.grownBy w' v.ownBlock ∧ (∀ k, v'.ownBlock = some k → v.ownBlock = some k ∨ w.heap.size ≤ k) := by
  obtain ⟨i, z, hi, hz1, hs, hb, hz2⟩ := info_wr
  obtain ⟨v', w', hr, h2, h3, _, h5⟩ := run_append_own_at (P := Try.prog) w B 53 53 wrT i z 2 24 Try.underlying53 hi hz1 hs hb hz2 (by decide) v ws.length (ws.flatMap wC) ho ⟨g, 0, none⟩ 1 1 (wC x) rfl (fun j u hu => by
    rw [addr_add, Nat.zero_add]
    exact (hg.cell j).trans (by simpa [wC] using hu)) (wC_one x) (by unfold maxLen; omega) (by omega) hB
  refine ⟨v', w', hr, by simpa [List.flatMap_append] using h2, h3, fun k hk => ?_⟩
  rcases h5 with e | e
  · rw [e] at hk; exact .inl hk
  · rw [e] at hk
    obtain rfl := Option.some.inj hk
    exact .inr (Nat.le_refl _)
theorem clone_any (s : ByteArray) (w : World) (hs : s.size ≤ 100000) : Calls Try.prog 47 #[.string s] w fun e w' => e = .returned (.string s) ∧ Below w.heap.size w w' := by
  have HC := Lib.hid (Try.stringslite_Clone s w (by omega))
  go_enter Try.func47, Try.ntmps47
  go_wp2_with fail
  refine HC.out.mono ?_
  rintro e w' ⟨rfl, hb⟩
  have HB := Lib.hid hb
  clear hb
  go_wp2_with fail
  go_ret
  exact ⟨rfl, HB.out⟩
abbrev boxW (x : Wr) : Obj := .cells #[.int .i64 x.p, .string x.s] wrT
set_option maxRecDepth 100000 in
set_option maxHeartbeats 4000000 in
theorem put_any (h : Mem w d R) (p : Nat) (s : ByteArray) (hp : p < R.con.length) (hs : s.size ≤ 100000) (hl : R.cache.length ≤ 1000000) (_hc : R.con.length ≤ 4096) :
    Calls Try.prog 37 #[ptr d.pb, .int .i64 p, .string s] w fun e w' => e = .returned (.tuple #[]) ∧ ∃ cv', Mem w' { d with cv := cv' } { R with cache := R.cache ++ [⟨p, s⟩], con := R.con.set p s } ∧ Step w d w' { d with cv := cv' } := by
  have HH := Lib.hid h
  clear h
  go_enter Try.func37, Try.ntmps37
  go_wp2_with fail
  refine (clone_any s w hs).mono ?_
  rintro e w1 ⟨rfl, hb1⟩
  have HB1 := Lib.hid hb1
  have HM1 := Lib.hid (HH.out.below hb1)
  have HA : Hid (∃ v' w', (Builtin.append_ #[53, 53] 53 #[d.cv, .slice (some ⟨w1.heap.size + 1, 0, none⟩) 1 1]).run Try.prog (((w1.alloc (boxW ⟨p, s⟩)).alloc (boxW ⟨p, s⟩)).drew) = .ok v' w' ∧
      w'.ownsRow d.B wrT 2 v' (R.cache.length + 1) ((R.cache ++ [Wr.mk p s]).flatMap wC) ∧ w1.grownBy w' d.cv.ownBlock ∧ (∀ k, v'.ownBlock = some k → d.cv.ownBlock = some k ∨ w1.heap.size ≤ k) ∧ Lies w' w1.heap.size #[.int .i64 p, .string s] wrT) := by
    have h2 : Mem (((w1.alloc (boxW ⟨p, s⟩)).alloc (boxW ⟨p, s⟩)).drew) d R := ((HM1.out.alloc _).alloc _).drew
    have hB : d.B ≤ w1.heap.size := by
      have := HM1.out.own_lt (k := d.pb) (.inl rfl)
      omega
    have hL : Lies (((w1.alloc (boxW ⟨p, s⟩)).alloc (boxW ⟨p, s⟩)).drew) (w1.heap.size + 1) #[.int .i64 p, .string s] wrT := new_at (w := w1.alloc (boxW ⟨p, s⟩)) (by simp)
    have hL0 : Lies (((w1.alloc (boxW ⟨p, s⟩)).alloc (boxW ⟨p, s⟩)).drew) w1.heap.size #[.int .i64 p, .string s] wrT := (Lies.new w1 _ _).same (Below.heap_alloc _ _ _ (by simp))
    obtain ⟨v', w', hr, h3, h4, h5⟩ := append_wr _ d.B (w1.heap.size + 1) d.cv R.cache ⟨p, s⟩ hL h2.cache (by omega) (by simp; omega)
    refine ⟨v', w', hr, by simpa using h3, (((World.grownBy_alloc w1 _ _).trans (World.grownBy_alloc _ (boxW ⟨p, s⟩) _))).trans ⟨h4.os, h4.tape, h4.output, h4.size, h4.block⟩, fun k hk => ?_, hL0.same (h4.block _ hL0.lt fun e => ?_)⟩
    · rcases h5 k hk with e | e
      · exact .inl e
      · refine .inr ?_
        simp at e
        omega
    · have := (HM1.out.cache.lt _ e.symm).2
      omega
  obtain ⟨v2, w2, hr2, ho2, hg2, hn2, hL2⟩ := HA.out
  obtain ⟨a2, c2, rfl⟩ := owns_slice ho2
  have HR := Lib.hid hr2
  have HG := Lib.hid (And.intro ho2 (And.intro hg2 (And.intro hn2 hL2)))
  have hc3 := HM1.out.cells.2.2.2.1
  have hf3 := HM1.out.free 3
  have hlt := HM1.out.self.lt
  have hfr : Fr (own d) w1 w2 := (Fr.refl _ w1).grown hg2 fun k hk _ => .inr (.inr (.inr hk))
  have hD : Fr (fun k => d.cv.ownBlock = some k) w1 w2 := (Fr.refl _ w1).grown hg2 fun k hk _ => hk
  have hM2 : Lies w2 d.pb (cellsD d R) diskT ∧ Lies w2 d.db (strs R.dur) strT ∧ Lies w2 d.cb (strs R.con) strT :=
    ⟨HM1.out.self.same (hD.block _ hlt fun e => (HM1.out.cv _ e).1 rfl), HM1.out.dur.same (hD.block _ HM1.out.dur.lt fun e => (HM1.out.cv _ e).2.1 rfl), HM1.out.con.same (hD.block _ HM1.out.con.lt fun e => (HM1.out.cv _ e).2.2 rfl)⟩
  have hcv : ∀ k, (Value.slice a2 (R.cache.length + 1) c2).ownBlock = some k → k ≠ d.pb ∧ k ≠ d.db ∧ k ≠ d.cb := fun k hk => by
    rcases hn2 k hk with e | e
    · exact HM1.out.cv k e
    · have h1 := HM1.out.lts
      omega
  have hc32 : w2.cell? ⟨d.pb, 3, none⟩ = some d.cv := hM2.1.cell 3
  have hf32 : w2.frozen? ⟨d.pb, 3, none⟩ = false := hM2.1.free 3
  have HD : Hid (Mem (w2.setCell ⟨d.pb, 3, none⟩ (.slice a2 (R.cache.length + 1) c2)) { d with cv := .slice a2 (R.cache.length + 1) c2 } { R with cache := R.cache ++ [Wr.mk p s] } ∧
      Step w d (w2.setCell ⟨d.pb, 3, none⟩ (.slice a2 (R.cache.length + 1) c2)) { d with cv := .slice a2 (R.cache.length + 1) c2 } ∧ Lies (w2.setCell ⟨d.pb, 3, none⟩ (.slice a2 (R.cache.length + 1) c2)) w1.heap.size #[.int .i64 p, .string s] wrT) := by
    refine ⟨⟨hM2.1.set 3 _, hM2.2.1.other _ (fun e => HM1.out.ne.1 e.symm), hM2.2.2.other _ (fun e => HM1.out.ne.2.1 e.symm), ?_, HM1.out.ne, hcv, HM1.out.low⟩, ⟨?_, rfl, rfl, rfl, rfl, fun k hk => ?_⟩, hL2.other _ (by omega)⟩
    · have e : (R.cache ++ [Wr.mk p s]).length = R.cache.length + 1 := by simp
      show World.ownsRow _ _ _ _ _ (R.cache ++ [Wr.mk p s]).length _
      rw [e]
      exact Fr.owns (F := fun k => k = d.pb) ho2 (Fr.one w2 _ _ _) fun k hk e => (hcv k hk).1 e
    · exact ((Fr.of_below HB1.out).trans hfr fun _ _ e => e).pbAt _ _
    · rcases hn2 k hk with e | e
      · exact .inl e
      · exact .inr (Nat.le_trans HB1.out.size e)
  clear HA hr2 ho2 hg2 hn2 hL2 hb1 hM2 hcv hD hfr
  have hfa := fun o => (HM1.out.alloc o).free 3
  have hfb := fun o o' => ((HM1.out.alloc o).alloc o').free 3
  go_wp2_with fail
  go_region_law ((refine step_append_run (by rfl) _ _ _ (by rfl) _ _ _ (by rfl) (by rfl) HR.out ?_))
  all_goals
    generalize World.setCell w2 _ _ = w3 at HD ⊢
    obtain ⟨c0, c1, c2, c3, c4, c5, c6, c7⟩ := HD.out.1.cells
    have k1 := HD.out.2.2.cell 1
    have k0 := HD.out.1.conAt (i := p) hp
    have kf := HD.out.1.con.free p
    have HZ : Hid (∀ n, Mem ((w3.drewN n).setCell ⟨d.cb, p, none⟩ (.string s)) _ _ ∧ Step w d ((w3.drewN n).setCell ⟨d.cb, p, none⟩ (.string s)) _) := fun n =>
      ⟨(HD.out.1.drewN n).setCon p s, HD.out.2.1.put (((Fr.refl _ w3).drewN n).cbAt p (.string s))⟩
    clear hc3 hf3 hc32 hf32 hfa hfb HD
    go_wp2_with fail
    refine wp_region_drawn_tail 8 (by kernel_rfl) (by kernel_rfl) ?_
    simp only [List.take_succ_cons, List.take_zero, List.drop_succ_cons, List.drop_zero]
    repeat (go_big_quiet_step (fail))
    refine wpQuiet_nil ?_
    rintro _ ⟨nq, rfl⟩
    go_wp2
    go_end0
    exact ⟨rfl, _, (HZ.out nq).1, (HZ.out nq).2⟩
end
end Go.Proofs.Ytebiebbbkdbffaa.Disk
